/-
  The contracts of taking rows off bytes. Nothing here is a statement of the document.
-/
import Derived.Test.YtikdgbmdepplgaaGreatDoorLinD
import Derived.Test.YtikdgbmdepplgaaGreatDoorLinF
import Derived.Test.YtikdgbmdepplgaaGreatDoorRtP
import Derived.Test.YtikdgbmdepplgaaGreatDoorRvG
namespace Go.Proofs.YtikdgbmdepplgaaGreatDoor
open Go.RowKit Go.Shelf
set_option linter.unusedVariables false
set_option maxRecDepth 100000
theorem build_rdr_rule (ps : Array (Nat × Value)) : Instr.build 93 ps = buildSem 93 ps := rfl
theorem build_rdr2 (a : Option Addr) (n c : Nat) (x : Int) (w : World) : (buildSem 93 #[(0, .slice a n c), (1, .int .i64 x)]).run Tryz.prog w = .ok (.agg #[.slice a n c, .int .i64 x]) w := by kernel_rfl
theorem roone_run (r : Ro) (w : World) : (robuildSem 1 #[(0, .agg r.cs)]).run Tryz.prog w = .ok (.slice (some ⟨w.heap.size, 0, none⟩) 1 1) (w.alloc (.cells r.cs 50)) := by
  unfold Ro.cs Px.cs Ad.cs
  obtain ⟨a0, a1, a2, a3, a4, a5, a6, a7, a8, a9, a10, a11, a12, a13, a14, a15, hh⟩ := r.p.a.b.out
  rw [hh]
  kernel_rfl
theorem roown_above {w : World} {B : Nat} {v : Value} {L : List Ro} (h : OwnRo w B v L) : ∀ g, v.ownBlock = some g → B ≤ g ∧ g < w.heap.size := by
  intro g hg
  rcases h.2 with ⟨rfl, _⟩ | ⟨g2, cap, cur, rfl, h1, h2, _⟩
  · cases hg
  · cases hg
    exact ⟨h1, (Array.getElem?_eq_some_iff.1 h2).1⟩
theorem roappB_one {w : World} {B m c : Nat} {a : Option Addr} {O : List Ro} (ho : OwnRo w B (.slice a m c) O) (hs : O.length ≤ 1000) (hB : B ≤ w.heap.size) (p : Ro) :
    ∃ a' c' w2, (∀ ty : TypeId, (Builtin.append_ #[22, 22] ty #[.slice a m c, .slice (some ⟨w.heap.size, 0, none⟩) 1 1]).run Tryz.prog (w.alloc (.cells p.cs 50)) = .ok (.slice a' (m + 1) c') w2) ∧ OwnRo w2 B (.slice a' (m + 1) c') (O ++ [p]) ∧ Below B w w2 ∧ ∀ g t C, Blk w g t C → t ≠ 50 → Blk w2 g t C := by
  obtain ⟨_, _, e1, _⟩ := ho.lies
  have hml : m = O.length := by injection e1
  have k1 : Below w.heap.size w (w.alloc (.cells p.cs 50)) := (Below.refl _ _).alloc (Nat.le_refl _) _
  have hq : RoAt (w.alloc (.cells p.cs 50)) (some ⟨w.heap.size, 0, none⟩) [p] := by
    have hb9 := Blk.new w 50 p.cs
    exact .inr ⟨w.heap.size, 0, rfl, rorow_cells _ _ [p] 0 hb9.lt (fun k u hk => by rw [Nat.zero_add, hb9.cell]; simpa [rocs] using hk)⟩
  obtain ⟨v', w2, q1, q2, q3, _⟩ := roapp_run (c := 1) 22 (ho.later k1) (m := 1) rfl hq (by omega) (by simp; omega)
  obtain ⟨a', c', e2, _⟩ := q2.lies
  have hl : (O ++ [p]).length = m + 1 := by simp [hml]
  rw [hl] at e2
  subst e2
  refine ⟨a', c', w2, fun ty => q1, q2, (k1.mono hB).grown q3 (by simp; omega) (fun k hk => (roown_above (ho.later k1) k hk).1), fun g t C hb ht => ?_⟩
  refine (q3.block g (by have := hb.lt; simp; omega) (fun e => ?_)).trans (k1.block g hb.lt |>.trans hb)
  rcases ho.2 with ⟨h9, _⟩ | ⟨g9, cap, cur, h9, _, hg9, _⟩
  · rw [h9] at e; cases e
  · rw [h9] at e
    have : g = g9 := by simpa [Value.ownBlock] using e
    subst this
    have h10 := hg9.symm.trans hb
    injection h10 with h11
    injection h11 with _ h12
    exact ht h12.symm
theorem upone_run (r : Up) (w : World) : (upbuildSem 1 #[(0, .agg r.cs)]).run Tryz.prog w = .ok (.slice (some ⟨w.heap.size, 0, none⟩) 1 1) (w.alloc (.cells r.cs 48)) := by
  unfold Up.cs Px.cs Ad.cs
  obtain ⟨a0, a1, a2, a3, a4, a5, a6, a7, a8, a9, a10, a11, a12, a13, a14, a15, hh⟩ := r.p.a.b.out
  rw [hh]
  kernel_rfl
theorem upown_above {w : World} {B : Nat} {v : Value} {L : List Up} (h : OwnUp w B v L) : ∀ g, v.ownBlock = some g → B ≤ g ∧ g < w.heap.size := by
  intro g hg
  rcases h.2 with ⟨rfl, _⟩ | ⟨g2, cap, cur, rfl, h1, h2, _⟩
  · cases hg
  · cases hg
    exact ⟨h1, (Array.getElem?_eq_some_iff.1 h2).1⟩
theorem upappB_one {w : World} {B m c : Nat} {a : Option Addr} {O : List Up} (ho : OwnUp w B (.slice a m c) O) (hs : O.length ≤ 1000) (hB : B ≤ w.heap.size) (p : Up) :
    ∃ a' c' w2, (∀ ty : TypeId, (Builtin.append_ #[25, 25] ty #[.slice a m c, .slice (some ⟨w.heap.size, 0, none⟩) 1 1]).run Tryz.prog (w.alloc (.cells p.cs 48)) = .ok (.slice a' (m + 1) c') w2) ∧ OwnUp w2 B (.slice a' (m + 1) c') (O ++ [p]) ∧ Below B w w2 ∧ ∀ g t C, Blk w g t C → t ≠ 48 → Blk w2 g t C := by
  obtain ⟨_, _, e1, _⟩ := ho.lies
  have hml : m = O.length := by injection e1
  have k1 : Below w.heap.size w (w.alloc (.cells p.cs 48)) := (Below.refl _ _).alloc (Nat.le_refl _) _
  have hq : UpAt (w.alloc (.cells p.cs 48)) (some ⟨w.heap.size, 0, none⟩) [p] := by
    have hb9 := Blk.new w 48 p.cs
    exact .inr ⟨w.heap.size, 0, rfl, uprow_cells _ _ [p] 0 hb9.lt (fun k u hk => by rw [Nat.zero_add, hb9.cell]; simpa [upcs] using hk)⟩
  obtain ⟨v', w2, q1, q2, q3, _⟩ := upapp_run (c := 1) 25 (ho.later k1) (m := 1) rfl hq (by omega) (by simp; omega)
  obtain ⟨a', c', e2, _⟩ := q2.lies
  have hl : (O ++ [p]).length = m + 1 := by simp [hml]
  rw [hl] at e2
  subst e2
  refine ⟨a', c', w2, fun ty => q1, q2, (k1.mono hB).grown q3 (by simp; omega) (fun k hk => (upown_above (ho.later k1) k hk).1), fun g t C hb ht => ?_⟩
  refine (q3.block g (by have := hb.lt; simp; omega) (fun e => ?_)).trans (k1.block g hb.lt |>.trans hb)
  rcases ho.2 with ⟨h9, _⟩ | ⟨g9, cap, cur, h9, _, hg9, _⟩
  · rw [h9] at e; cases e
  · rw [h9] at e
    have : g = g9 := by simpa [Value.ownBlock] using e
    subst this
    have h10 := hg9.symm.trans hb
    injection h10 with h11
    injection h11 with _ h12
    exact ht h12.symm
attribute [local go_sem ↓] build_rdr_rule robuild_rule upbuild_rule
theorem RdAt.move {w w' : World} {r g : Nat} {R : List Nat} {wr : Int} (h : RdAt w r g R wr) (hr : w'.heap[r]? = w.heap[r]?) (hg : w'.heap[g]? = w.heap[g]?) (hsz : w.heap.size ≤ w'.heap.size) : RdAt w' r g R wr := by
  obtain ⟨a, c, h1, h2, h3, h4⟩ := h.st
  refine ⟨a, c, hr.trans h1, ?_, h3, h4⟩
  rcases h2 with h2 | ⟨g', o, e1, e2, e3⟩
  · exact .inl h2
  · rcases h3 with h3 | ⟨o', h3⟩
    · exact .inl h3
    · rw [h3] at e1
      cases e1
      exact .inr ⟨g, _, h3, Nat.lt_of_lt_of_le e2 hsz, fun j hj => (World.cell?_of_block (w := w) hg).trans (e3 j hj)⟩
theorem linF_fv {P : Program} {ops : Array Oper} {Q : Exit → Act → World → Prop} {S : World → Prop} {fin : Nat} {eff : List Nat} {i : Nat} {o : Oper} {r : List Nat} {a : Act} {w : World} {f : Nat} {c : Call} {s : Operand} {args : Array Value} (hi : ops[i]? = some o) (he : eff.contains i = true) (hw : Region.wanted o (yielded ops a.tmps) = true) (ho : o.op = .call c) (hc : c.callee = .value s) (hs : a.eval s = .func (.func f) #[] #[]) (hen : ∀ args w, (callFunc f args).run P w = .ok (.enter f args) w) (ha : c.args.map a.eval = args)
    (h : Calls P f args w fun e w' => ∃ v, e = .returned v ∧ S w' ∧ LinF P ops Q S fin eff r (a.put o.dst v) w') : LinF P ops Q S fin eff (i :: r) a w := by
  refine ⟨o, hi, fun h9 => (by rw [he] at h9; cases h9), fun _ => ⟨hw, .inr ⟨f, args, w, ?_, h.mono fun e w' ⟨v, h1, h2, h3⟩ => ⟨v, h1, .inr h2, h3⟩⟩⟩⟩
  simp only [execOp, ho, resolve, hc, ha, hs, Deferred.ofValue, invoke, Sem.run_bind, Sem.run_pure, Result.andThen_ok]
  have e1 := hen (#[] ++ args ++ #[]) w
  simp only [Array.empty_append, Array.append_empty] at e1 ⊢
  exact e1
theorem OwnUp.kept9 {w w' : World} {B : Nat} {S : List Nat} {v : Value} {L : List Up} (h : OwnUp w B v L) (k : Kept S w w') (hS : ∀ g, v.ownBlock = some g → g ∉ S) : OwnUp w' B v L := by
  refine ⟨h.1, ?_⟩
  rcases h.2 with h | ⟨g, cap, cur, h1, h2, h3, h4⟩
  · exact .inl h
  · exact .inr ⟨g, cap, cur, h1, h2, (k.block _ (Array.getElem?_eq_some_iff.1 h3).1 (hS g (by rw [h1]; rfl))).trans h3, h4⟩
theorem OwnRo.kept9 {w w' : World} {B : Nat} {S : List Nat} {v : Value} {L : List Ro} (h : OwnRo w B v L) (k : Kept S w w') (hS : ∀ g, v.ownBlock = some g → g ∉ S) : OwnRo w' B v L := h.kept k hS
theorem OwnUp.less9 {w : World} {B B' : Nat} {v : Value} {L : List Up} (h : OwnUp w B v L) (k : B' ≤ B) : OwnUp w B' v L := by
  refine ⟨h.1, ?_⟩
  rcases h.2 with h | ⟨g, cap, cur, h1, h2, h3⟩
  · exact .inl h
  · exact .inr ⟨g, cap, cur, h1, Nat.le_trans k h2, h3⟩
theorem OwnRo.less9 {w : World} {B B' : Nat} {v : Value} {L : List Ro} (h : OwnRo w B v L) (k : B' ≤ B) : OwnRo w B' v L := h.less k
theorem rtaken_dies {X : World} {tmps : Array Value} {E : Int} {G1 G2 : Nat} {v1 v2 : Value} {Post : Ending → World → Prop} (hb1 : Blk X G1 22 #[v1]) (hb2 : Blk X G2 31 #[v2]) (hne : G1 ≠ G2) (h6 : tmps.getD 6 undef = .pointer (some ⟨G1, 0, none⟩)) (h7 : tmps.getD 7 undef = .pointer (some ⟨G2, 0, none⟩))
    (hP : Post (.returned (.tuple #[.slice none 0 0, .int .i64 E])) ((X.setCell ⟨G1, 0, none⟩ (.slice none 0 0)).setCell ⟨G2, 0, none⟩ (.int .i64 E))) :
    bodyPostD Tryz.prog Tryz.f19 Post (Exit.panic (flt E)) { tmps := tmps, defers := [{ target := .fn (.func 42) #[.pointer (some ⟨G1, 0, none⟩), .pointer (some ⟨G2, 0, none⟩)], args := #[] }] } X := by
  refine leaves_cons (f := 42) (args := #[.pointer (some ⟨G1, 0, none⟩), .pointer (some ⟨G2, 0, none⟩)]) (by simp) (by simp [go_sem]) ?_
  refine (rcl_panic hb1 hb2 hne).mono ?_
  rintro e u' w'' ⟨rfl, rfl, rfl⟩
  have k1 : Kept [G1] X (X.setCell ⟨G1, 0, none⟩ (.slice none 0 0)) := (Kept.refl _ X).setCell (p := ⟨G1, 0, none⟩) (.inl (by simp)) _
  have b1 := hb1.set 0 (.slice none 0 0)
  have b2 := (hb2.kept k1 (by simp; omega)).set 0 (.int .i64 E)
  have k2 : Kept [G2] (X.setCell ⟨G1, 0, none⟩ (.slice none 0 0)) ((X.setCell ⟨G1, 0, none⟩ (.slice none 0 0)).setCell ⟨G2, 0, none⟩ (.int .i64 E)) := (Kept.refl _ _).setCell (p := ⟨G2, 0, none⟩) (.inl (by simp)) _
  have c1 := (b1.kept k2 (by simp; omega)).cell 0
  have c2 := b2.cell 0
  have h6' : tmps[6]?.getD undef = .pointer (some ⟨G1, 0, none⟩) := by rw [← h6]; simp
  have h7' : tmps[7]?.getD undef = .pointer (some ⟨G2, 0, none⟩) := by rw [← h7]; simp
  obtain ⟨Y, hY⟩ : ∃ Y, ((X.setCell ⟨G1, 0, none⟩ (.slice none 0 0)).setCell ⟨G2, 0, none⟩ (.int .i64 E)) = Y := ⟨_, rfl⟩
  rw [hY] at hP c1 c2 ⊢
  simp at c1 c2
  refine ⟨.tuple #[.slice none 0 0, .int .i64 E], ?_, hP⟩
  simp [settle, results, Tryz.results19, go_sem, h6', h7', c1, c2]
theorem rtaken_ends {X : World} {tmps : Array Value} {G1 G2 : Nat} {v : Value} {Post : Ending → World → Prop} (hb1 : Blk X G1 22 #[v]) (hv : v.oneCell' = true) (hb2 : Blk X G2 31 #[.int .i64 0]) (h6 : tmps.getD 6 undef = .pointer (some ⟨G1, 0, none⟩)) (h7 : tmps.getD 7 undef = .pointer (some ⟨G2, 0, none⟩))
    (hP : Post (.returned (.tuple #[v, .int .i64 0])) X) :
    bodyPostD Tryz.prog Tryz.f19 Post Exit.ret { tmps := tmps, defers := [{ target := .fn (.func 42) #[.pointer (some ⟨G1, 0, none⟩), .pointer (some ⟨G2, 0, none⟩)], args := #[] }] } X := by
  refine leaves_cons (f := 42) (args := #[.pointer (some ⟨G1, 0, none⟩), .pointer (some ⟨G2, 0, none⟩)]) (by simp) (by simp [go_sem]) ?_
  refine rcl_idle.mono ?_
  rintro e u' w'' ⟨rfl, rfl, rfl⟩
  have c1 := hb1.cell 0
  have c2 := hb2.cell 0
  have h6' : tmps[6]?.getD undef = .pointer (some ⟨G1, 0, none⟩) := by rw [← h6]; simp
  have h7' : tmps[7]?.getD undef = .pointer (some ⟨G2, 0, none⟩) := by rw [← h7]; simp
  simp at c1 c2
  refine ⟨.tuple #[v, .int .i64 0], ?_, hP⟩
  simp [settle, results, Tryz.results19, go_sem, h6', h7', c1, c2]
set_option maxHeartbeats 4000000 in
theorem rtaken_any {w : World} {a : Option Addr} {R : List Nat} {c : Nat} {E : Int} {L : List Ro} (hq : takeA roR 211 R = (E, L)) (hW : Wid w) (hL : Lies w a R) (hc : R.length ≤ c) (hm : c ≤ maxLen) (hB : Bys R) (hl : R.length ≤ 6000) :
    Calls Tryz.prog 19 #[.slice a R.length c, .int .i64 211, .func (.func 20) #[] #[]] w fun e w' => ∃ v, e = .returned (.tuple #[v, .int .i64 E]) ∧ OwnRo w' w.heap.size v L ∧ Below w.heap.size w w' := by
  have hmf : ∀ (fn : Fn) (first cap : Array Value) (w : World), (Instr.makeFunc fn first cap).run Tryz.prog w = .ok (.func fn first cap) w := fun _ _ _ _ => rfl
  have BR := build_rdr2 a R.length c 211
  obtain ⟨W0, hW0⟩ : ∃ W0, ((w.alloc (.cells #[.slice none 0 0] 22)).alloc (.cells #[.int .i64 0] 31)).alloc (.cells #[.slice a R.length c, .int .i64 211] 93) = W0 := ⟨_, rfl⟩
  have b1 : Blk W0 w.heap.size 22 #[.slice none 0 0] := by
    rw [← hW0]; exact ((Blk.new w _ _).alloc _).alloc _
  have b2 : Blk W0 (w.heap.size + 1) 31 #[.int .i64 0] := by
    have h9 := (Blk.new (w.alloc (.cells #[.slice none 0 0] 22)) 31 #[.int .i64 0]).alloc (.cells #[.slice a R.length c, .int .i64 211] 93)
    rw [← hW0]; simpa using h9
  have hb0 : Below w.heap.size w W0 := by rw [← hW0]; exact (((Below.refl _ _).alloc (Nat.le_refl _) _).alloc (by simp) _).alloc (by simp; omega) _
  have hrd : ∃ g, g < w.heap.size ∧ RdAt W0 (w.heap.size + 1 + 1) g R 211 := by
    have hbr : Blk W0 (w.heap.size + 1 + 1) 93 #[.slice a R.length c, .int .i64 211] := by
      have h9 := Blk.new ((w.alloc (.cells #[.slice none 0 0] 22)).alloc (.cells #[.int .i64 0] 31)) 93 #[.slice a R.length c, .int .i64 211]
      rw [← hW0]; simpa using h9
    rcases hL with h | ⟨g, o, h1, h2, h3⟩
    · exact ⟨0, cell_lt (hW 0 (by omega)), ⟨a, c, hbr, .inl h, .inl h, hc, hm⟩⟩
    · exact ⟨g, h2, ⟨a, c, hbr, (show Lies w a R from .inr ⟨g, o, h1, h2, h3⟩).kept hb0, .inr ⟨o, h1⟩, hc, hm⟩⟩
  obtain ⟨g, hgw, hrd⟩ := hrd
  have hW00 := hW.later hb0
  obtain ⟨n0, hn0⟩ : ∃ n0, R.length = n0 := ⟨_, rfl⟩
  rw [hn0] at BR ⊢
  rw [hn0] at hW0
  rcases R with _ | ⟨n, R⟩
  · clear hgw
    have HC := rnum_short hrd
    obtain ⟨rfl, rfl⟩ : 7 = E ∧ [] = L := by
      rw [takeA] at hq
      exact ⟨congrArg (·.1) hq, congrArg (·.2) hq⟩
    have HB := Lib.hid (And.intro b1 (And.intro b2 hb0))
    clear b1 b2 hb0 hrd hL hB hl hc hn0 hq hW hW00
    go_enter_defers Tryz.func19, Tryz.ntmps19
    go_wp2_with fail
    refine HC.mono ?_
    rintro e W1 ⟨rfl, rfl⟩
    refine rtaken_dies HB.out.1 HB.out.2.1 (by omega) rfl rfl ⟨_, rfl, World.ownsRow_nil _ _ _ _, ?_⟩
    exact (HB.out.2.2.setCell (p := ⟨w.heap.size, 0, none⟩) (by simp) _).setCell (p := ⟨w.heap.size + 1, 0, none⟩) (by simp) _
  · have hn256 : n < 256 := hB n (by simp)
    have HC := rnum_any hrd hn256 (by simp at hl; omega)
    rw [takeA] at hq
    have hB2 : Bys R := fun x hx => hB x (by simp [hx])
    have hl2 : R.length ≤ 6000 := by simp at hl; omega
    have HB := Lib.hid (And.intro b1 (And.intro b2 (And.intro hb0 (And.intro hW00 (And.intro hq (And.intro hB2 (And.intro hl2 hgw)))))))
    clear b1 b2 hb0 hrd hL hB hl hc hn0 hq hW00 hB2 hl2 hm hgw
    go_enter_defers Tryz.func19, Tryz.ntmps19
    go_wp2_with fail
    refine HC.mono ?_
    rintro e W1 ⟨rfl, hR1, hk1⟩
    have HR := Lib.hid (And.intro hR1 hk1)
    clear HC hR1 hk1
    go_wp2_with fail
    go_loopw [16] (fun i X => ∃ (k : Nat) (Rk : List Nat) (Lk : List Ro) (v : Value), i = .int .i64 (k : Int) ∧ k ≤ n ∧ takeN roR 211 (n - k) Rk Lk = (E, L) ∧ Bys Rk ∧ Rk.length ≤ 6000 ∧ RdAt X (w.heap.size + 1 + 1) g Rk 211 ∧ Blk X w.heap.size 22 #[v] ∧ Blk X (w.heap.size + 1) 31 #[.int .i64 0] ∧ OwnRo X (w.heap.size + 1 + 1 + 1) v Lk ∧ Lk.length ≤ k ∧ Below w.heap.size w X ∧ w.heap.size + 1 + 1 + 1 ≤ X.heap.size) (fun i _ => n - (intOf i).toNat)
    case atStart =>
      have hk1 := HR.out.2
      have hs0 : w.heap.size + 1 + 1 + 1 ≤ W0.heap.size := by rw [← hW0]; simp
      exact ⟨0, R, [], _, rfl, by omega, HB.out.2.2.2.2.1, HB.out.2.2.2.2.2.1, HB.out.2.2.2.2.2.2.1, HR.out.1, HB.out.1.kept hk1 (by simp; omega), HB.out.2.1.kept hk1 (by simp), World.ownsRow_nil _ _ _ _, by simp, HB.out.2.2.1.trans (hk1.below (by simp; omega) (by omega)), by have := hk1.size; omega⟩
    case round =>
      obtain ⟨k, Rk, Lk, v, rfl, hkn, hT, hBk, hlk, hRd, hb1, hb2, hO, hLk, hbw, hsz⟩ := hrel
      by_cases hlt : k < n
      · obtain ⟨m, hm⟩ : ∃ m, n - k = m + 1 := ⟨n - k - 1, by omega⟩
        rw [hm, takeN] at hT
        obtain ⟨E2, x, R2, hone⟩ : ∃ E2 x R2, roR Rk = (E2, x, R2) := ⟨_, _, _, rfl⟩
        rw [hone] at hT
        by_cases hE2 : E2 = 0
        · subst hE2
          rw [if_pos rfl] at hT
          simp only at hT
          have hlen := (roR_len hBk (by rw [hone]))
          rw [hone] at hlen
          simp only at hlen
          obtain ⟨a7, c7, rfl, _⟩ := hO.lies
          obtain ⟨m7, hm7⟩ : ∃ m7, Lk.length = m7 := ⟨_, rfl⟩
          rw [hm7] at hO hb1
          obtain ⟨S5, hS5⟩ : ∃ S5 : World → Prop, S5 = fun w' => Blk w' w.heap.size 22 #[.slice a7 m7 c7] := ⟨_, rfl⟩
          have c0 : ∀ w', S5 w' → w'.cell? ⟨w.heap.size, 0, none⟩ = some (.slice a7 m7 c7) := fun w' h => by rw [hS5] at h; exact h.cell 0
          have hbd : Below wr.heap.size wr wr.drew := (Below.refl _ _).drew
          have hS0 : S5 wr.drew := by rw [hS5]; exact hb1.later hbd
          have HONE := rroute_any (w := wr.drew) rfl hone ((hW.later hbw).later hbd) (hRd.later hbd) hBk hlk
          have HU := Lib.hid (And.intro hT (And.intro hlen (And.intro hO (And.intro hb2 (And.intro hbd (And.intro hS5 (And.intro hLk (And.intro hbw (And.intro hsz (And.intro hm7 (And.intro hm hlk)))))))))))
          clear hT hlen hO hb2 hbd hS5 hLk hbw hsz hb1 hRd hone hBk hlk hm7
          go_upto_region 5 with fail
          refine wp_region_linF S5 6 [3, 4, 5, 6] [0, 1, 2, 3, 4, 5, 6] (by kernel_rfl) (by kernel_rfl) hS0 ?_
          (refine linF_op (v := ?_) rfl rfl (by rfl) (fun w9 hS9 => ?_) ?_; rotate_left; (focus ((have k0 := c0 w9 hS9; go_simp; (try go_bits)) <;> with_reducible rfl)); (try simp only [Act.put, List.getElem_toArray, List.getElem_cons_zero, List.getElem_cons_succ, List.setIfInBounds_toArray, List.set_cons_zero, List.set_cons_succ]))
          (refine linF_op (v := ?_) rfl rfl (by rfl) (fun w9 hS9 => ?_) ?_; rotate_left; (focus ((go_simp; (try go_bits)) <;> with_reducible rfl)); (try simp only [Act.put, List.getElem_toArray, List.getElem_cons_zero, List.getElem_cons_succ, List.setIfInBounds_toArray, List.set_cons_zero, List.set_cons_succ]))
          (refine linF_op (v := ?_) rfl rfl (by rfl) (fun w9 hS9 => ?_) ?_; rotate_left; (focus ((go_simp; (try go_bits)) <;> with_reducible rfl)); (try simp only [Act.put, List.getElem_toArray, List.getElem_cons_zero, List.getElem_cons_succ, List.setIfInBounds_toArray, List.set_cons_zero, List.set_cons_succ]))
          refine linF_fv (f := 20) (args := #[.pointer (some ⟨w.heap.size + 1 + 1, 0, none⟩)]) rfl rfl (by rfl) rfl rfl (by rfl) (enters_of Tryz.func20 (by kernel_rfl) rfl) (by simp [Act.eval]) ?_
          refine HONE.mono ?_
          intro e W2 hG
          obtain ⟨rfl, hRd2⟩ := hG.good rfl
          have hk2 := hG.kept
          have hb1d : Blk wr.drew w.heap.size 22 #[.slice a7 m7 c7] := by have := hS0; rw [HU.out.2.2.2.2.2.1] at this; exact this
          have hb12 := hb1d.kept hk2 (by simp; omega)
          have hS2 : S5 W2 := by rw [HU.out.2.2.2.2.2.1]; exact hb12
          refine ⟨_, rfl, hS2, ?_⟩
          (try simp only [Act.put, List.getElem_toArray, List.getElem_cons_zero, List.getElem_cons_succ, List.setIfInBounds_toArray, List.set_cons_zero, List.set_cons_succ])
          obtain ⟨hT, hlen, hO, hb2, hbd, hS5, hLk, hbw, hsz, hm7, hm, hlk⟩ := HU.out
          have hsd : wr.heap.size ≤ W2.heap.size := Nat.le_trans hbd.size hk2.size
          have ho2 := (hO.later hbd).kept9 hk2 (by intro g9 h9; have := (roown_above hO g9 h9).1; simp; omega)
          have r6 := roone_run x W2
          obtain ⟨a8, c8, X4, r7, o4, k4, kb⟩ := roappB_one ho2 (by omega) (by omega) x
          obtain ⟨W3, hW3⟩ : ∃ W3, W2.alloc (.cells x.cs 50) = W3 := ⟨_, rfl⟩
          rw [hW3] at r6 r7
          have hS3 : S5 W3 := by rw [hS5, ← hW3]; exact hb12.alloc _
          have b14 := kb _ _ _ hb12 (by decide)
          have b24 := kb _ _ _ ((hb2.later hbd).kept hk2 (by simp)) (by decide)
          have hS4 : S5 X4 := by rw [hS5]; exact b14
          have hgw := HB.out.2.2.2.2.2.2.2
          obtain ⟨ar, cr, hbr, _⟩ := hRd2.st
          have hRd4 := hRd2.move ((kb _ _ _ hbr (by decide)).trans hbr.symm) (k4.block g (by omega)) k4.size
          have cz : X4.cell? ⟨w.heap.size, 0, none⟩ = some (.slice a7 m7 c7) := b14.cell 0
          have fz := b14.free 0
          have hbw4 : Below w.heap.size w X4 := ((hbw.trans (hbd.mono hbw.size)).trans (hk2.below (by simp; omega) (by have := hbd.size; have := hbw.size; omega))).trans (k4.mono (by omega))
          have hsz4 : w.heap.size + 1 + 1 + 1 ≤ X4.heap.size := by have := k4.size; omega
          have HV := Lib.hid (And.intro hT (And.intro hlen (And.intro o4 (And.intro b14 (And.intro b24 (And.intro hRd4 (And.intro hbw4 (And.intro hsz4 (And.intro hgw (And.intro hLk (And.intro hm7 (And.intro hm hlk))))))))))))
          clear hlk hT hlen hO hb2 hbd hS5 hLk hbw hsz hm7 hm ho2 k4 kb hb12 hb1d b14 b24 hRd4 hRd2 hbr hgw hbw4 hsz4 hG hk2 HONE hS2 hS0 hW3 hsd o4 HU c0
          refine linF_do (v := .slice (some ⟨W2.heap.size, 0, none⟩) 1 1) (w' := W3) rfl rfl (by rfl) (by go_simp) hS3 ?_
          (try simp only [Act.put, List.getElem_toArray, List.getElem_cons_zero, List.getElem_cons_succ, List.setIfInBounds_toArray, List.set_cons_zero, List.set_cons_succ])
          refine linF_do (v := .slice a8 (m7 + 1) c8) (w' := X4) rfl rfl (by rfl) (by have r := r7 22; simp [execOp, resolve, invoke, builtin, Act.eval, r, Result.andThen]) hS4 ?_
          (try simp only [Act.put, List.getElem_toArray, List.getElem_cons_zero, List.getElem_cons_succ, List.setIfInBounds_toArray, List.set_cons_zero, List.set_cons_succ])
          refine linF_fin (w' := X4.setCell ⟨w.heap.size, 0, none⟩ (.slice a8 (m7 + 1) c8)) rfl rfl (by rfl) (by go_simp) ?_
          (try simp only [Act.put, List.getElem_toArray, List.getElem_cons_zero, List.getElem_cons_succ, List.setIfInBounds_toArray, List.set_cons_zero, List.set_cons_succ])
          clear r6 r7 hS3 hS4 cz fz
          go_wp2_with fail
          go_roundw
          case rel =>
            obtain ⟨hT, hlen, o4, b14, b24, hRd4, hbw4, hsz4, hgw, hLk, hm7, hm, hlk⟩ := HV.out
            have k5 : Kept [w.heap.size] X4 (X4.setCell ⟨w.heap.size, 0, none⟩ (.slice a8 (m7 + 1) c8)) := (Kept.refl _ X4).setCell (p := ⟨w.heap.size, 0, none⟩) (.inl (by simp)) _
            refine ⟨k + 1, R2, Lk ++ [x], _, by go_num, by omega, ?_, hlen.2, by omega, hRd4.move (k5.block _ (by have := hRd4.lt; omega) (by simp; omega)) (k5.block _ (by omega) (by simp; omega)) k5.size, by simpa using b14.set 0 (.slice a8 (m7 + 1) c8), b24.kept k5 (by simp), o4.kept9 k5 (by intro g9 h9; have := (roown_above o4 g9 h9).1; simp; omega), by simp; omega, hbw4.setCell (p := ⟨w.heap.size, 0, none⟩) (by simp) _, by have := k5.size; omega⟩
            rw [show n - (k + 1) = m by omega]; exact hT
          case measure => simp [intOf]; omega
        · rw [if_neg (by simpa using hE2)] at hT
          simp only [Prod.mk.injEq] at hT
          obtain ⟨rfl, rfl⟩ := hT
          have hbd : Below wr.heap.size wr wr.drew := (Below.refl _ _).drew
          have HONE := rroute_any (w := wr.drew) rfl hone ((hW.later hbw).later hbd) (hRd.later hbd) hBk hlk
          obtain ⟨a7, c7, rfl, _⟩ := hO.lies
          obtain ⟨m7, hm7⟩ : ∃ m7, Lk.length = m7 := ⟨_, rfl⟩
          rw [hm7] at hO hb1
          have c0 : wr.drew.cell? ⟨w.heap.size, 0, none⟩ = some (.slice a7 m7 c7) := (hb1.later hbd).cell 0
          have HU := Lib.hid (And.intro hb1 (And.intro hb2 (And.intro hbd (And.intro hbw (And.intro hsz hE2)))))
          clear hb1 hb2 hbd hbw hsz hE2 hO hRd hone hBk hlk hm7 hLk
          go_upto_region 5 with fail
          refine wp_region_die 3 [0, 1, 2] (by kernel_rfl) (by kernel_rfl) (fun listed a' => a'.defers = [{ target := .fn (.func 42) #[.pointer (some ⟨w.heap.size, 0, none⟩), .pointer (some ⟨w.heap.size + 1, 0, none⟩)], args := #[] }] ∧ a'.tmps.size = 28 ∧ a'.tmps[2]?.getD undef = .func (.func 20) #[] #[] ∧ a'.tmps[6]?.getD undef = .pointer (some ⟨w.heap.size, 0, none⟩) ∧ a'.tmps[7]?.getD undef = .pointer (some ⟨w.heap.size + 1, 0, none⟩) ∧ a'.tmps[8]?.getD undef = .pointer (some ⟨w.heap.size + 1 + 1, 0, none⟩) ∧ (listed.getD 1 false = true → a'.tmps[19]?.getD undef = .func (.func 20) #[] #[]) ∧ (listed.getD 2 false = true → a'.tmps[20]?.getD undef = .pointer (some ⟨w.heap.size + 1 + 1, 0, none⟩))) (by decide) ⟨rfl, rfl, rfl, rfl, rfl, rfl, fun h => by simp at h, fun h => by simp at h⟩ ?_ ?_
          · intro listed a' i hi hsz9 ⟨i1, i2, i3, i4, i5, i6, i7, i8⟩
            simp only [List.mem_cons, List.not_mem_nil, or_false] at hi
            rcases hi with rfl | rfl | rfl
            · refine die_op (v := .slice a7 m7 c7) rfl (by rfl) ?_ ⟨⟨?_, ?_, ?_, ?_, ?_, ?_, ?_, ?_⟩, rfl⟩
              · clear HONE i1 i2 i3 i5 i6 i7 i8
                go_simp
              · rw [put_defers]; exact i1
              · rw [put_size]; exact i2
              · exact (put_ne (by decide)).trans i3
              · exact (put_ne (by decide)).trans i4
              · exact (put_ne (by decide)).trans i5
              · exact (put_ne (by decide)).trans i6
              · intro h; rw [getD_set_ne false (by decide)] at h; exact (put_ne (by decide)).trans (i7 h)
              · intro h; rw [getD_set_ne false (by decide)] at h; exact (put_ne (by decide)).trans (i8 h)
            · refine die_op (v := .func (.func 20) #[] #[]) rfl (by rfl) ?_ ⟨⟨?_, ?_, ?_, ?_, ?_, ?_, ?_, ?_⟩, rfl⟩
              · go_simp
                rw [← i3]
                simp [i2]
              · rw [put_defers]; exact i1
              · rw [put_size]; exact i2
              · exact (put_ne (by decide)).trans i3
              · exact (put_ne (by decide)).trans i4
              · exact (put_ne (by decide)).trans i5
              · exact (put_ne (by decide)).trans i6
              · intro h; exact put_eq (by omega)
              · intro h; rw [getD_set_ne false (by decide)] at h; exact (put_ne (by decide)).trans (i8 h)
            · refine die_op (v := .pointer (some ⟨w.heap.size + 1 + 1, 0, none⟩)) rfl (by rfl) ?_ ⟨⟨?_, ?_, ?_, ?_, ?_, ?_, ?_, ?_⟩, rfl⟩
              · go_simp
                rw [← i6]
                simp [i2]
              · rw [put_defers]; exact i1
              · rw [put_size]; exact i2
              · exact (put_ne (by decide)).trans i3
              · exact (put_ne (by decide)).trans i4
              · exact (put_ne (by decide)).trans i5
              · exact (put_ne (by decide)).trans i6
              · intro h; rw [getD_set_ne false (by decide)] at h; exact (put_ne (by decide)).trans (i7 h)
              · intro h; exact put_eq (by omega)
          · intro listed a' hwt ⟨i1, i2, i3, i4, i5, i6, i7, i8⟩
            have j7 := i7 (hwt 1 (by kernel_rfl))
            have j8 := i8 (hwt 2 (by kernel_rfl))
            refine die_fv (f := 20) (args := #[.pointer (some ⟨w.heap.size + 1 + 1, 0, none⟩)]) rfl (by rfl) rfl rfl (by simp [Act.eval, j7]) (enters_of Tryz.func20 (by kernel_rfl) rfl) (by simp [Act.eval, j8]) ?_
            refine HONE.mono ?_
            intro e W2 hG
            refine ⟨_, hG.bad HU.out.2.2.2.2.2, ?_⟩
            obtain ⟨t9, d9⟩ := a'
            simp only at i1 i4 i5
            subst i1
            exact rtaken_dies ((HU.out.1.later HU.out.2.2.1).kept hG.kept (by simp; omega)) ((HU.out.2.1.later HU.out.2.2.1).kept hG.kept (by simp)) (by omega) (by simpa using i4) (by simpa using i5) ⟨_, rfl, World.ownsRow_nil _ _ _ _, ((((HU.out.2.2.2.1.trans (HU.out.2.2.1.mono HU.out.2.2.2.1.size)).trans (hG.kept.below (by simp; omega) (Nat.le_trans HU.out.2.2.2.1.size HU.out.2.2.1.size))).setCell (p := ⟨w.heap.size, 0, none⟩) (by simp) _).setCell (p := ⟨w.heap.size + 1, 0, none⟩) (by simp) _)⟩
      · obtain rfl : k = n := by omega
        rw [Nat.sub_self, takeN] at hT
        by_cases hRk : Rk = []
        · rw [if_pos hRk] at hT
          simp only [Prod.mk.injEq] at hT
          obtain ⟨rfl, rfl⟩ := hT
          subst hRk
          have HC2 := rend_ok hRd
          obtain ⟨a7, c7, rfl, _⟩ := hO.lies
          have c0 : wr.cell? ⟨w.heap.size, 0, none⟩ = some (.slice a7 Lk.length c7) := hb1.cell 0
          have f0 := hb1.free 0
          obtain ⟨m7, hm7⟩ : ∃ m7, Lk.length = m7 := ⟨_, rfl⟩
          rw [hm7] at hO hb1 c0
          have k5 : Kept [w.heap.size] wr (wr.setCell ⟨w.heap.size, 0, none⟩ (.slice a7 m7 c7)) := (Kept.refl _ wr).setCell (p := ⟨w.heap.size, 0, none⟩) (.inl (by simp)) _
          have b15 : Blk (wr.setCell ⟨w.heap.size, 0, none⟩ (.slice a7 m7 c7)) w.heap.size 22 #[.slice a7 m7 c7] := by simpa using hb1.set 0 (.slice a7 m7 c7)
          have b25 := hb2.kept k5 (by simp)
          have c1 : (wr.setCell ⟨w.heap.size, 0, none⟩ (.slice a7 m7 c7)).cell? ⟨w.heap.size + 1, 0, none⟩ = some (.int .i64 0) := b25.cell 0
          have f1 := b25.free 0
          obtain ⟨W5, hW5⟩ : ∃ W5, wr.setCell ⟨w.heap.size, 0, none⟩ (.slice a7 m7 c7) = W5 := ⟨_, rfl⟩
          rw [hW5] at k5 b15 b25 c1 f1
          have k6 : Kept [w.heap.size + 1] W5 (W5.setCell ⟨w.heap.size + 1, 0, none⟩ (.int .i64 0)) := (Kept.refl _ W5).setCell (p := ⟨w.heap.size + 1, 0, none⟩) (.inl (by simp)) _
          have b26 : Blk (W5.setCell ⟨w.heap.size + 1, 0, none⟩ (.int .i64 0)) (w.heap.size + 1) 31 #[.int .i64 0] := by simpa using b25.set 0 (.int .i64 0)
          have b16 := b15.kept k6 (by simp)
          obtain ⟨W6, hW6⟩ : ∃ W6, W5.setCell ⟨w.heap.size + 1, 0, none⟩ (.int .i64 0) = W6 := ⟨_, rfl⟩
          rw [hW6] at k6 b16 b26
          have o6 := ((hO.kept9 k5 (by intro g9 h9; have := (roown_above hO g9 h9).1; simp; omega)).kept9 k6 (by intro g9 h9; have := (roown_above hO g9 h9).1; simp; omega)).less9 (B' := w.heap.size) (by omega)
          have bw6 : Below w.heap.size w W6 := (hbw.trans (k5.below (by simp) hbw.size)).trans (k6.below (by simp) (Nat.le_trans hbw.size k5.size))
          have HU := Lib.hid (And.intro b16 (And.intro b26 (And.intro o6 bw6)))
          clear k5 k6 b15 b25 b16 b26 o6 bw6 hb1 hb2 hO hRd hBk hlk hLk hbw hsz hm7 hkn hlt
          go_wp2_with fail
          refine HC2.mono ?_
          rintro e X1 ⟨rfl, rfl⟩
          clear HC2
          go_wp2_with fail
          exact rtaken_ends HU.out.1 rfl HU.out.2.1 rfl rfl ⟨_, rfl, HU.out.2.2.1, HU.out.2.2.2⟩
        · rw [if_neg hRk] at hT
          simp only [Prod.mk.injEq] at hT
          obtain ⟨rfl, rfl⟩ := hT
          obtain ⟨y, Rk, rfl⟩ : ∃ y R9, Rk = y :: R9 := by
            cases Rk with
            | nil => exact absurd rfl hRk
            | cons y R9 => exact ⟨y, R9, rfl⟩
          have HC2 := rend_more hRd
          have HU := Lib.hid (And.intro hb1 (And.intro hb2 hbw))
          clear hb1 hb2 hO hRd hBk hlk hLk hbw hsz hkn hlt hRk
          go_wp2_with fail
          refine HC2.mono ?_
          rintro e X1 ⟨rfl, rfl⟩
          refine rtaken_dies HU.out.1 HU.out.2.1 (by omega) rfl rfl ⟨_, rfl, World.ownsRow_nil _ _ _ _, ?_⟩
          exact (HU.out.2.2.setCell (p := ⟨w.heap.size, 0, none⟩) (by simp) _).setCell (p := ⟨w.heap.size + 1, 0, none⟩) (by simp) _
theorem utaken_dies {X : World} {tmps : Array Value} {E : Int} {G1 G2 : Nat} {v1 v2 : Value} {Post : Ending → World → Prop} (hb1 : Blk X G1 25 #[v1]) (hb2 : Blk X G2 31 #[v2]) (hne : G1 ≠ G2) (h6 : tmps.getD 6 undef = .pointer (some ⟨G1, 0, none⟩)) (h7 : tmps.getD 7 undef = .pointer (some ⟨G2, 0, none⟩))
    (hP : Post (.returned (.tuple #[.slice none 0 0, .int .i64 E])) ((X.setCell ⟨G1, 0, none⟩ (.slice none 0 0)).setCell ⟨G2, 0, none⟩ (.int .i64 E))) :
    bodyPostD Tryz.prog Tryz.f26 Post (Exit.panic (flt E)) { tmps := tmps, defers := [{ target := .fn (.func 47) #[.pointer (some ⟨G1, 0, none⟩), .pointer (some ⟨G2, 0, none⟩)], args := #[] }] } X := by
  refine leaves_cons (f := 47) (args := #[.pointer (some ⟨G1, 0, none⟩), .pointer (some ⟨G2, 0, none⟩)]) (by simp) (by simp [go_sem]) ?_
  refine (ucl_panic hb1 hb2 hne).mono ?_
  rintro e u' w'' ⟨rfl, rfl, rfl⟩
  have k1 : Kept [G1] X (X.setCell ⟨G1, 0, none⟩ (.slice none 0 0)) := (Kept.refl _ X).setCell (p := ⟨G1, 0, none⟩) (.inl (by simp)) _
  have b1 := hb1.set 0 (.slice none 0 0)
  have b2 := (hb2.kept k1 (by simp; omega)).set 0 (.int .i64 E)
  have k2 : Kept [G2] (X.setCell ⟨G1, 0, none⟩ (.slice none 0 0)) ((X.setCell ⟨G1, 0, none⟩ (.slice none 0 0)).setCell ⟨G2, 0, none⟩ (.int .i64 E)) := (Kept.refl _ _).setCell (p := ⟨G2, 0, none⟩) (.inl (by simp)) _
  have c1 := (b1.kept k2 (by simp; omega)).cell 0
  have c2 := b2.cell 0
  have h6' : tmps[6]?.getD undef = .pointer (some ⟨G1, 0, none⟩) := by rw [← h6]; simp
  have h7' : tmps[7]?.getD undef = .pointer (some ⟨G2, 0, none⟩) := by rw [← h7]; simp
  obtain ⟨Y, hY⟩ : ∃ Y, ((X.setCell ⟨G1, 0, none⟩ (.slice none 0 0)).setCell ⟨G2, 0, none⟩ (.int .i64 E)) = Y := ⟨_, rfl⟩
  rw [hY] at hP c1 c2 ⊢
  simp at c1 c2
  refine ⟨.tuple #[.slice none 0 0, .int .i64 E], ?_, hP⟩
  simp [settle, results, Tryz.results26, go_sem, h6', h7', c1, c2]
theorem utaken_ends {X : World} {tmps : Array Value} {G1 G2 : Nat} {v : Value} {Post : Ending → World → Prop} (hb1 : Blk X G1 25 #[v]) (hv : v.oneCell' = true) (hb2 : Blk X G2 31 #[.int .i64 0]) (h6 : tmps.getD 6 undef = .pointer (some ⟨G1, 0, none⟩)) (h7 : tmps.getD 7 undef = .pointer (some ⟨G2, 0, none⟩))
    (hP : Post (.returned (.tuple #[v, .int .i64 0])) X) :
    bodyPostD Tryz.prog Tryz.f26 Post Exit.ret { tmps := tmps, defers := [{ target := .fn (.func 47) #[.pointer (some ⟨G1, 0, none⟩), .pointer (some ⟨G2, 0, none⟩)], args := #[] }] } X := by
  refine leaves_cons (f := 47) (args := #[.pointer (some ⟨G1, 0, none⟩), .pointer (some ⟨G2, 0, none⟩)]) (by simp) (by simp [go_sem]) ?_
  refine ucl_idle.mono ?_
  rintro e u' w'' ⟨rfl, rfl, rfl⟩
  have c1 := hb1.cell 0
  have c2 := hb2.cell 0
  have h6' : tmps[6]?.getD undef = .pointer (some ⟨G1, 0, none⟩) := by rw [← h6]; simp
  have h7' : tmps[7]?.getD undef = .pointer (some ⟨G2, 0, none⟩) := by rw [← h7]; simp
  simp at c1 c2
  refine ⟨.tuple #[v, .int .i64 0], ?_, hP⟩
  simp [settle, results, Tryz.results26, go_sem, h6', h7', c1, c2]
set_option maxHeartbeats 4000000 in
theorem utaken_any {w : World} {a : Option Addr} {R : List Nat} {c : Nat} {E : Int} {L : List Up} (hq : takeA upR 210 R = (E, L)) (hW : Wid w) (hL : Lies w a R) (hc : R.length ≤ c) (hm : c ≤ maxLen) (hB : Bys R) (hl : R.length ≤ 6000) :
    Calls Tryz.prog 26 #[.slice a R.length c, .int .i64 210, .func (.func 27) #[] #[]] w fun e w' => ∃ v, e = .returned (.tuple #[v, .int .i64 E]) ∧ OwnUp w' w.heap.size v L ∧ Below w.heap.size w w' := by
  have hmf : ∀ (fn : Fn) (first cap : Array Value) (w : World), (Instr.makeFunc fn first cap).run Tryz.prog w = .ok (.func fn first cap) w := fun _ _ _ _ => rfl
  have BR := build_rdr2 a R.length c 210
  obtain ⟨W0, hW0⟩ : ∃ W0, ((w.alloc (.cells #[.slice none 0 0] 25)).alloc (.cells #[.int .i64 0] 31)).alloc (.cells #[.slice a R.length c, .int .i64 210] 93) = W0 := ⟨_, rfl⟩
  have b1 : Blk W0 w.heap.size 25 #[.slice none 0 0] := by
    rw [← hW0]; exact ((Blk.new w _ _).alloc _).alloc _
  have b2 : Blk W0 (w.heap.size + 1) 31 #[.int .i64 0] := by
    have h9 := (Blk.new (w.alloc (.cells #[.slice none 0 0] 25)) 31 #[.int .i64 0]).alloc (.cells #[.slice a R.length c, .int .i64 210] 93)
    rw [← hW0]; simpa using h9
  have hb0 : Below w.heap.size w W0 := by rw [← hW0]; exact (((Below.refl _ _).alloc (Nat.le_refl _) _).alloc (by simp) _).alloc (by simp; omega) _
  have hrd : ∃ g, g < w.heap.size ∧ RdAt W0 (w.heap.size + 1 + 1) g R 210 := by
    have hbr : Blk W0 (w.heap.size + 1 + 1) 93 #[.slice a R.length c, .int .i64 210] := by
      have h9 := Blk.new ((w.alloc (.cells #[.slice none 0 0] 25)).alloc (.cells #[.int .i64 0] 31)) 93 #[.slice a R.length c, .int .i64 210]
      rw [← hW0]; simpa using h9
    rcases hL with h | ⟨g, o, h1, h2, h3⟩
    · exact ⟨0, cell_lt (hW 0 (by omega)), ⟨a, c, hbr, .inl h, .inl h, hc, hm⟩⟩
    · exact ⟨g, h2, ⟨a, c, hbr, (show Lies w a R from .inr ⟨g, o, h1, h2, h3⟩).kept hb0, .inr ⟨o, h1⟩, hc, hm⟩⟩
  obtain ⟨g, hgw, hrd⟩ := hrd
  have hW00 := hW.later hb0
  obtain ⟨n0, hn0⟩ : ∃ n0, R.length = n0 := ⟨_, rfl⟩
  rw [hn0] at BR ⊢
  rw [hn0] at hW0
  rcases R with _ | ⟨n, R⟩
  · clear hgw
    have HC := rnum_short hrd
    obtain ⟨rfl, rfl⟩ : 7 = E ∧ [] = L := by
      rw [takeA] at hq
      exact ⟨congrArg (·.1) hq, congrArg (·.2) hq⟩
    have HB := Lib.hid (And.intro b1 (And.intro b2 hb0))
    clear b1 b2 hb0 hrd hL hB hl hc hn0 hq hW hW00
    go_enter_defers Tryz.func26, Tryz.ntmps26
    go_wp2_with fail
    refine HC.mono ?_
    rintro e W1 ⟨rfl, rfl⟩
    refine utaken_dies HB.out.1 HB.out.2.1 (by omega) rfl rfl ⟨_, rfl, World.ownsRow_nil _ _ _ _, ?_⟩
    exact (HB.out.2.2.setCell (p := ⟨w.heap.size, 0, none⟩) (by simp) _).setCell (p := ⟨w.heap.size + 1, 0, none⟩) (by simp) _
  · have hn256 : n < 256 := hB n (by simp)
    have HC := rnum_any hrd hn256 (by simp at hl; omega)
    rw [takeA] at hq
    have hB2 : Bys R := fun x hx => hB x (by simp [hx])
    have hl2 : R.length ≤ 6000 := by simp at hl; omega
    have HB := Lib.hid (And.intro b1 (And.intro b2 (And.intro hb0 (And.intro hW00 (And.intro hq (And.intro hB2 (And.intro hl2 hgw)))))))
    clear b1 b2 hb0 hrd hL hB hl hc hn0 hq hW00 hB2 hl2 hm hgw
    go_enter_defers Tryz.func26, Tryz.ntmps26
    go_wp2_with fail
    refine HC.mono ?_
    rintro e W1 ⟨rfl, hR1, hk1⟩
    have HR := Lib.hid (And.intro hR1 hk1)
    clear HC hR1 hk1
    go_wp2_with fail
    go_loopw [16] (fun i X => ∃ (k : Nat) (Rk : List Nat) (Lk : List Up) (v : Value), i = .int .i64 (k : Int) ∧ k ≤ n ∧ takeN upR 210 (n - k) Rk Lk = (E, L) ∧ Bys Rk ∧ Rk.length ≤ 6000 ∧ RdAt X (w.heap.size + 1 + 1) g Rk 210 ∧ Blk X w.heap.size 25 #[v] ∧ Blk X (w.heap.size + 1) 31 #[.int .i64 0] ∧ OwnUp X (w.heap.size + 1 + 1 + 1) v Lk ∧ Lk.length ≤ k ∧ Below w.heap.size w X ∧ w.heap.size + 1 + 1 + 1 ≤ X.heap.size) (fun i _ => n - (intOf i).toNat)
    case atStart =>
      have hk1 := HR.out.2
      have hs0 : w.heap.size + 1 + 1 + 1 ≤ W0.heap.size := by rw [← hW0]; simp
      exact ⟨0, R, [], _, rfl, by omega, HB.out.2.2.2.2.1, HB.out.2.2.2.2.2.1, HB.out.2.2.2.2.2.2.1, HR.out.1, HB.out.1.kept hk1 (by simp; omega), HB.out.2.1.kept hk1 (by simp), World.ownsRow_nil _ _ _ _, by simp, HB.out.2.2.1.trans (hk1.below (by simp; omega) (by omega)), by have := hk1.size; omega⟩
    case round =>
      obtain ⟨k, Rk, Lk, v, rfl, hkn, hT, hBk, hlk, hRd, hb1, hb2, hO, hLk, hbw, hsz⟩ := hrel
      by_cases hlt : k < n
      · obtain ⟨m, hm⟩ : ∃ m, n - k = m + 1 := ⟨n - k - 1, by omega⟩
        rw [hm, takeN] at hT
        obtain ⟨E2, x, R2, hone⟩ : ∃ E2 x R2, upR Rk = (E2, x, R2) := ⟨_, _, _, rfl⟩
        rw [hone] at hT
        by_cases hE2 : E2 = 0
        · subst hE2
          rw [if_pos rfl] at hT
          simp only at hT
          have hlen := (upR_len hBk (by rw [hone]))
          rw [hone] at hlen
          simp only at hlen
          obtain ⟨a7, c7, rfl, _⟩ := hO.lies
          obtain ⟨m7, hm7⟩ : ∃ m7, Lk.length = m7 := ⟨_, rfl⟩
          rw [hm7] at hO hb1
          obtain ⟨S5, hS5⟩ : ∃ S5 : World → Prop, S5 = fun w' => Blk w' w.heap.size 25 #[.slice a7 m7 c7] := ⟨_, rfl⟩
          have c0 : ∀ w', S5 w' → w'.cell? ⟨w.heap.size, 0, none⟩ = some (.slice a7 m7 c7) := fun w' h => by rw [hS5] at h; exact h.cell 0
          have hbd : Below wr.heap.size wr wr.drew := (Below.refl _ _).drew
          have hS0 : S5 wr.drew := by rw [hS5]; exact hb1.later hbd
          have HONE := rupdate_any (w := wr.drew) rfl hone ((hW.later hbw).later hbd) (hRd.later hbd) hBk hlk
          have HU := Lib.hid (And.intro hT (And.intro hlen (And.intro hO (And.intro hb2 (And.intro hbd (And.intro hS5 (And.intro hLk (And.intro hbw (And.intro hsz (And.intro hm7 (And.intro hm hlk)))))))))))
          clear hT hlen hO hb2 hbd hS5 hLk hbw hsz hb1 hRd hone hBk hlk hm7
          go_upto_region 5 with fail
          refine wp_region_linF S5 6 [3, 4, 5, 6] [0, 1, 2, 3, 4, 5, 6] (by kernel_rfl) (by kernel_rfl) hS0 ?_
          (refine linF_op (v := ?_) rfl rfl (by rfl) (fun w9 hS9 => ?_) ?_; rotate_left; (focus ((have k0 := c0 w9 hS9; go_simp; (try go_bits)) <;> with_reducible rfl)); (try simp only [Act.put, List.getElem_toArray, List.getElem_cons_zero, List.getElem_cons_succ, List.setIfInBounds_toArray, List.set_cons_zero, List.set_cons_succ]))
          (refine linF_op (v := ?_) rfl rfl (by rfl) (fun w9 hS9 => ?_) ?_; rotate_left; (focus ((go_simp; (try go_bits)) <;> with_reducible rfl)); (try simp only [Act.put, List.getElem_toArray, List.getElem_cons_zero, List.getElem_cons_succ, List.setIfInBounds_toArray, List.set_cons_zero, List.set_cons_succ]))
          (refine linF_op (v := ?_) rfl rfl (by rfl) (fun w9 hS9 => ?_) ?_; rotate_left; (focus ((go_simp; (try go_bits)) <;> with_reducible rfl)); (try simp only [Act.put, List.getElem_toArray, List.getElem_cons_zero, List.getElem_cons_succ, List.setIfInBounds_toArray, List.set_cons_zero, List.set_cons_succ]))
          refine linF_fv (f := 27) (args := #[.pointer (some ⟨w.heap.size + 1 + 1, 0, none⟩)]) rfl rfl (by rfl) rfl rfl (by rfl) (enters_of Tryz.func27 (by kernel_rfl) rfl) (by simp [Act.eval]) ?_
          refine HONE.mono ?_
          intro e W2 hG
          obtain ⟨rfl, hRd2⟩ := hG.good rfl
          have hk2 := hG.kept
          have hb1d : Blk wr.drew w.heap.size 25 #[.slice a7 m7 c7] := by have := hS0; rw [HU.out.2.2.2.2.2.1] at this; exact this
          have hb12 := hb1d.kept hk2 (by simp; omega)
          have hS2 : S5 W2 := by rw [HU.out.2.2.2.2.2.1]; exact hb12
          refine ⟨_, rfl, hS2, ?_⟩
          (try simp only [Act.put, List.getElem_toArray, List.getElem_cons_zero, List.getElem_cons_succ, List.setIfInBounds_toArray, List.set_cons_zero, List.set_cons_succ])
          obtain ⟨hT, hlen, hO, hb2, hbd, hS5, hLk, hbw, hsz, hm7, hm, hlk⟩ := HU.out
          have hsd : wr.heap.size ≤ W2.heap.size := Nat.le_trans hbd.size hk2.size
          have ho2 := (hO.later hbd).kept9 hk2 (by intro g9 h9; have := (upown_above hO g9 h9).1; simp; omega)
          have r6 := upone_run x W2
          obtain ⟨a8, c8, X4, r7, o4, k4, kb⟩ := upappB_one ho2 (by omega) (by omega) x
          obtain ⟨W3, hW3⟩ : ∃ W3, W2.alloc (.cells x.cs 48) = W3 := ⟨_, rfl⟩
          rw [hW3] at r6 r7
          have hS3 : S5 W3 := by rw [hS5, ← hW3]; exact hb12.alloc _
          have b14 := kb _ _ _ hb12 (by decide)
          have b24 := kb _ _ _ ((hb2.later hbd).kept hk2 (by simp)) (by decide)
          have hS4 : S5 X4 := by rw [hS5]; exact b14
          have hgw := HB.out.2.2.2.2.2.2.2
          obtain ⟨ar, cr, hbr, _⟩ := hRd2.st
          have hRd4 := hRd2.move ((kb _ _ _ hbr (by decide)).trans hbr.symm) (k4.block g (by omega)) k4.size
          have cz : X4.cell? ⟨w.heap.size, 0, none⟩ = some (.slice a7 m7 c7) := b14.cell 0
          have fz := b14.free 0
          have hbw4 : Below w.heap.size w X4 := ((hbw.trans (hbd.mono hbw.size)).trans (hk2.below (by simp; omega) (by have := hbd.size; have := hbw.size; omega))).trans (k4.mono (by omega))
          have hsz4 : w.heap.size + 1 + 1 + 1 ≤ X4.heap.size := by have := k4.size; omega
          have HV := Lib.hid (And.intro hT (And.intro hlen (And.intro o4 (And.intro b14 (And.intro b24 (And.intro hRd4 (And.intro hbw4 (And.intro hsz4 (And.intro hgw (And.intro hLk (And.intro hm7 (And.intro hm hlk))))))))))))
          clear hlk hT hlen hO hb2 hbd hS5 hLk hbw hsz hm7 hm ho2 k4 kb hb12 hb1d b14 b24 hRd4 hRd2 hbr hgw hbw4 hsz4 hG hk2 HONE hS2 hS0 hW3 hsd o4 HU c0
          refine linF_do (v := .slice (some ⟨W2.heap.size, 0, none⟩) 1 1) (w' := W3) rfl rfl (by rfl) (by go_simp) hS3 ?_
          (try simp only [Act.put, List.getElem_toArray, List.getElem_cons_zero, List.getElem_cons_succ, List.setIfInBounds_toArray, List.set_cons_zero, List.set_cons_succ])
          refine linF_do (v := .slice a8 (m7 + 1) c8) (w' := X4) rfl rfl (by rfl) (by have r := r7 25; simp [execOp, resolve, invoke, builtin, Act.eval, r, Result.andThen]) hS4 ?_
          (try simp only [Act.put, List.getElem_toArray, List.getElem_cons_zero, List.getElem_cons_succ, List.setIfInBounds_toArray, List.set_cons_zero, List.set_cons_succ])
          refine linF_fin (w' := X4.setCell ⟨w.heap.size, 0, none⟩ (.slice a8 (m7 + 1) c8)) rfl rfl (by rfl) (by go_simp) ?_
          (try simp only [Act.put, List.getElem_toArray, List.getElem_cons_zero, List.getElem_cons_succ, List.setIfInBounds_toArray, List.set_cons_zero, List.set_cons_succ])
          clear r6 r7 hS3 hS4 cz fz
          go_wp2_with fail
          go_roundw
          case rel =>
            obtain ⟨hT, hlen, o4, b14, b24, hRd4, hbw4, hsz4, hgw, hLk, hm7, hm, hlk⟩ := HV.out
            have k5 : Kept [w.heap.size] X4 (X4.setCell ⟨w.heap.size, 0, none⟩ (.slice a8 (m7 + 1) c8)) := (Kept.refl _ X4).setCell (p := ⟨w.heap.size, 0, none⟩) (.inl (by simp)) _
            refine ⟨k + 1, R2, Lk ++ [x], _, by go_num, by omega, ?_, hlen.2, by omega, hRd4.move (k5.block _ (by have := hRd4.lt; omega) (by simp; omega)) (k5.block _ (by omega) (by simp; omega)) k5.size, by simpa using b14.set 0 (.slice a8 (m7 + 1) c8), b24.kept k5 (by simp), o4.kept9 k5 (by intro g9 h9; have := (upown_above o4 g9 h9).1; simp; omega), by simp; omega, hbw4.setCell (p := ⟨w.heap.size, 0, none⟩) (by simp) _, by have := k5.size; omega⟩
            rw [show n - (k + 1) = m by omega]; exact hT
          case measure => simp [intOf]; omega
        · rw [if_neg (by simpa using hE2)] at hT
          simp only [Prod.mk.injEq] at hT
          obtain ⟨rfl, rfl⟩ := hT
          have hbd : Below wr.heap.size wr wr.drew := (Below.refl _ _).drew
          have HONE := rupdate_any (w := wr.drew) rfl hone ((hW.later hbw).later hbd) (hRd.later hbd) hBk hlk
          obtain ⟨a7, c7, rfl, _⟩ := hO.lies
          obtain ⟨m7, hm7⟩ : ∃ m7, Lk.length = m7 := ⟨_, rfl⟩
          rw [hm7] at hO hb1
          have c0 : wr.drew.cell? ⟨w.heap.size, 0, none⟩ = some (.slice a7 m7 c7) := (hb1.later hbd).cell 0
          have HU := Lib.hid (And.intro hb1 (And.intro hb2 (And.intro hbd (And.intro hbw (And.intro hsz hE2)))))
          clear hb1 hb2 hbd hbw hsz hE2 hO hRd hone hBk hlk hm7 hLk
          go_upto_region 5 with fail
          refine wp_region_die 3 [0, 1, 2] (by kernel_rfl) (by kernel_rfl) (fun listed a' => a'.defers = [{ target := .fn (.func 47) #[.pointer (some ⟨w.heap.size, 0, none⟩), .pointer (some ⟨w.heap.size + 1, 0, none⟩)], args := #[] }] ∧ a'.tmps.size = 28 ∧ a'.tmps[2]?.getD undef = .func (.func 27) #[] #[] ∧ a'.tmps[6]?.getD undef = .pointer (some ⟨w.heap.size, 0, none⟩) ∧ a'.tmps[7]?.getD undef = .pointer (some ⟨w.heap.size + 1, 0, none⟩) ∧ a'.tmps[8]?.getD undef = .pointer (some ⟨w.heap.size + 1 + 1, 0, none⟩) ∧ (listed.getD 1 false = true → a'.tmps[19]?.getD undef = .func (.func 27) #[] #[]) ∧ (listed.getD 2 false = true → a'.tmps[20]?.getD undef = .pointer (some ⟨w.heap.size + 1 + 1, 0, none⟩))) (by decide) ⟨rfl, rfl, rfl, rfl, rfl, rfl, fun h => by simp at h, fun h => by simp at h⟩ ?_ ?_
          · intro listed a' i hi hsz9 ⟨i1, i2, i3, i4, i5, i6, i7, i8⟩
            simp only [List.mem_cons, List.not_mem_nil, or_false] at hi
            rcases hi with rfl | rfl | rfl
            · refine die_op (v := .slice a7 m7 c7) rfl (by rfl) ?_ ⟨⟨?_, ?_, ?_, ?_, ?_, ?_, ?_, ?_⟩, rfl⟩
              · clear HONE i1 i2 i3 i5 i6 i7 i8
                go_simp
              · rw [put_defers]; exact i1
              · rw [put_size]; exact i2
              · exact (put_ne (by decide)).trans i3
              · exact (put_ne (by decide)).trans i4
              · exact (put_ne (by decide)).trans i5
              · exact (put_ne (by decide)).trans i6
              · intro h; rw [getD_set_ne false (by decide)] at h; exact (put_ne (by decide)).trans (i7 h)
              · intro h; rw [getD_set_ne false (by decide)] at h; exact (put_ne (by decide)).trans (i8 h)
            · refine die_op (v := .func (.func 27) #[] #[]) rfl (by rfl) ?_ ⟨⟨?_, ?_, ?_, ?_, ?_, ?_, ?_, ?_⟩, rfl⟩
              · go_simp
                rw [← i3]
                simp [i2]
              · rw [put_defers]; exact i1
              · rw [put_size]; exact i2
              · exact (put_ne (by decide)).trans i3
              · exact (put_ne (by decide)).trans i4
              · exact (put_ne (by decide)).trans i5
              · exact (put_ne (by decide)).trans i6
              · intro h; exact put_eq (by omega)
              · intro h; rw [getD_set_ne false (by decide)] at h; exact (put_ne (by decide)).trans (i8 h)
            · refine die_op (v := .pointer (some ⟨w.heap.size + 1 + 1, 0, none⟩)) rfl (by rfl) ?_ ⟨⟨?_, ?_, ?_, ?_, ?_, ?_, ?_, ?_⟩, rfl⟩
              · go_simp
                rw [← i6]
                simp [i2]
              · rw [put_defers]; exact i1
              · rw [put_size]; exact i2
              · exact (put_ne (by decide)).trans i3
              · exact (put_ne (by decide)).trans i4
              · exact (put_ne (by decide)).trans i5
              · exact (put_ne (by decide)).trans i6
              · intro h; rw [getD_set_ne false (by decide)] at h; exact (put_ne (by decide)).trans (i7 h)
              · intro h; exact put_eq (by omega)
          · intro listed a' hwt ⟨i1, i2, i3, i4, i5, i6, i7, i8⟩
            have j7 := i7 (hwt 1 (by kernel_rfl))
            have j8 := i8 (hwt 2 (by kernel_rfl))
            refine die_fv (f := 27) (args := #[.pointer (some ⟨w.heap.size + 1 + 1, 0, none⟩)]) rfl (by rfl) rfl rfl (by simp [Act.eval, j7]) (enters_of Tryz.func27 (by kernel_rfl) rfl) (by simp [Act.eval, j8]) ?_
            refine HONE.mono ?_
            intro e W2 hG
            refine ⟨_, hG.bad HU.out.2.2.2.2.2, ?_⟩
            obtain ⟨t9, d9⟩ := a'
            simp only at i1 i4 i5
            subst i1
            exact utaken_dies ((HU.out.1.later HU.out.2.2.1).kept hG.kept (by simp; omega)) ((HU.out.2.1.later HU.out.2.2.1).kept hG.kept (by simp)) (by omega) (by simpa using i4) (by simpa using i5) ⟨_, rfl, World.ownsRow_nil _ _ _ _, ((((HU.out.2.2.2.1.trans (HU.out.2.2.1.mono HU.out.2.2.2.1.size)).trans (hG.kept.below (by simp; omega) (Nat.le_trans HU.out.2.2.2.1.size HU.out.2.2.1.size))).setCell (p := ⟨w.heap.size, 0, none⟩) (by simp) _).setCell (p := ⟨w.heap.size + 1, 0, none⟩) (by simp) _)⟩
      · obtain rfl : k = n := by omega
        rw [Nat.sub_self, takeN] at hT
        by_cases hRk : Rk = []
        · rw [if_pos hRk] at hT
          simp only [Prod.mk.injEq] at hT
          obtain ⟨rfl, rfl⟩ := hT
          subst hRk
          have HC2 := rend_ok hRd
          obtain ⟨a7, c7, rfl, _⟩ := hO.lies
          have c0 : wr.cell? ⟨w.heap.size, 0, none⟩ = some (.slice a7 Lk.length c7) := hb1.cell 0
          have f0 := hb1.free 0
          obtain ⟨m7, hm7⟩ : ∃ m7, Lk.length = m7 := ⟨_, rfl⟩
          rw [hm7] at hO hb1 c0
          have k5 : Kept [w.heap.size] wr (wr.setCell ⟨w.heap.size, 0, none⟩ (.slice a7 m7 c7)) := (Kept.refl _ wr).setCell (p := ⟨w.heap.size, 0, none⟩) (.inl (by simp)) _
          have b15 : Blk (wr.setCell ⟨w.heap.size, 0, none⟩ (.slice a7 m7 c7)) w.heap.size 25 #[.slice a7 m7 c7] := by simpa using hb1.set 0 (.slice a7 m7 c7)
          have b25 := hb2.kept k5 (by simp)
          have c1 : (wr.setCell ⟨w.heap.size, 0, none⟩ (.slice a7 m7 c7)).cell? ⟨w.heap.size + 1, 0, none⟩ = some (.int .i64 0) := b25.cell 0
          have f1 := b25.free 0
          obtain ⟨W5, hW5⟩ : ∃ W5, wr.setCell ⟨w.heap.size, 0, none⟩ (.slice a7 m7 c7) = W5 := ⟨_, rfl⟩
          rw [hW5] at k5 b15 b25 c1 f1
          have k6 : Kept [w.heap.size + 1] W5 (W5.setCell ⟨w.heap.size + 1, 0, none⟩ (.int .i64 0)) := (Kept.refl _ W5).setCell (p := ⟨w.heap.size + 1, 0, none⟩) (.inl (by simp)) _
          have b26 : Blk (W5.setCell ⟨w.heap.size + 1, 0, none⟩ (.int .i64 0)) (w.heap.size + 1) 31 #[.int .i64 0] := by simpa using b25.set 0 (.int .i64 0)
          have b16 := b15.kept k6 (by simp)
          obtain ⟨W6, hW6⟩ : ∃ W6, W5.setCell ⟨w.heap.size + 1, 0, none⟩ (.int .i64 0) = W6 := ⟨_, rfl⟩
          rw [hW6] at k6 b16 b26
          have o6 := ((hO.kept9 k5 (by intro g9 h9; have := (upown_above hO g9 h9).1; simp; omega)).kept9 k6 (by intro g9 h9; have := (upown_above hO g9 h9).1; simp; omega)).less9 (B' := w.heap.size) (by omega)
          have bw6 : Below w.heap.size w W6 := (hbw.trans (k5.below (by simp) hbw.size)).trans (k6.below (by simp) (Nat.le_trans hbw.size k5.size))
          have HU := Lib.hid (And.intro b16 (And.intro b26 (And.intro o6 bw6)))
          clear k5 k6 b15 b25 b16 b26 o6 bw6 hb1 hb2 hO hRd hBk hlk hLk hbw hsz hm7 hkn hlt
          go_wp2_with fail
          refine HC2.mono ?_
          rintro e X1 ⟨rfl, rfl⟩
          clear HC2
          go_wp2_with fail
          exact utaken_ends HU.out.1 rfl HU.out.2.1 rfl rfl ⟨_, rfl, HU.out.2.2.1, HU.out.2.2.2⟩
        · rw [if_neg hRk] at hT
          simp only [Prod.mk.injEq] at hT
          obtain ⟨rfl, rfl⟩ := hT
          obtain ⟨y, Rk, rfl⟩ : ∃ y R9, Rk = y :: R9 := by
            cases Rk with
            | nil => exact absurd rfl hRk
            | cons y R9 => exact ⟨y, R9, rfl⟩
          have HC2 := rend_more hRd
          have HU := Lib.hid (And.intro hb1 (And.intro hb2 hbw))
          clear hb1 hb2 hO hRd hBk hlk hLk hbw hsz hkn hlt hRk
          go_wp2_with fail
          refine HC2.mono ?_
          rintro e X1 ⟨rfl, rfl⟩
          refine utaken_dies HU.out.1 HU.out.2.1 (by omega) rfl rfl ⟨_, rfl, World.ownsRow_nil _ _ _ _, ?_⟩
          exact (HU.out.2.2.setCell (p := ⟨w.heap.size, 0, none⟩) (by simp) _).setCell (p := ⟨w.heap.size + 1, 0, none⟩) (by simp) _
end Go.Proofs.YtikdgbmdepplgaaGreatDoor
