/-
  The contracts of disk's Read. Nothing here is a statement of the document.
-/
import Derived.Test.YtkfpkolgikpcpaaDskF
import Derived.Test.YtkfpkolgikpcpaaDskK
import Derived.Laws.ResultCell
namespace Go.Proofs.Ytkfpkolgikpcpaa
open Go.RowKit Go.Shelf
set_option linter.unusedVariables false

theorem change_fail {w : World} {B p pb : Nat} {bv : Value} {D : Dk} (h : Dsk w B p pb bv D) (hf : D.fuse ≠ some 0) (hl : D.flaw = some 0) (f : Fn) (xs ys : Array Value) :
    Calls Try.prog 72 #[.pointer (some ⟨p, 0, none⟩), .func f xs ys] w fun e w' => e = .returned (.int .i64 8) ∧ (Dsk w' B p pb bv (failM D) ∧ Goes w w' p pb bv bv) :=
  change_acts h hf f xs ys _ _ fun W q hD hG hq b1 b2 => (act_fail hD hl _).mono fun e w' ⟨he, h1, h2⟩ => ⟨he, h1, hG.trans h2⟩

theorem Dsk.sep {w : World} {B p pb q : Nat} {bv : Value} {D : Dk} {t : TypeId} {cs : Array Value} (hD : Dsk w B p pb bv D) (b : Blk w q t cs) (h1 : t ≠ 102) (h2 : t ≠ 77) (h3 : t ≠ 108) : q ∉ fp p pb bv := by
  intro hm
  simp only [fp, List.mem_cons, Option.mem_toList] at hm
  rcases hm with h9 | h9 | h9
  · exact b.ne hD.cells h1 h9
  · exact b.ne hD.plate h2 h9
  · rcases hD.buf.2 with ⟨rfl, _⟩ | ⟨g, cap, cur, rfl, _, hg, _⟩
    · simp [Value.ownBlock] at h9
    · obtain rfl : g = q := by simpa [Value.ownBlock] using h9
      exact b.ne (show Blk w g _ cur from hg) h3 rfl

theorem change_ok {w : World} {B p pb : Nat} {bv : Value} {D D2 : Dk} (h : Dsk w B p pb bv D) (hf : D.fuse ≠ some 0) (hl : D.flaw ≠ some 0) (c : Nat) (caps : Array Value) (eg : ∀ args w, (callFunc c args).run Try.prog w = .ok (.enter c args) w) (X : Value → World → Prop) (hX : ∀ b w' v, X b w' → X b (w'.setCell ⟨p, 7, none⟩ v))
    (hcl : ∀ W1, Dsk W1 B p pb bv (fuseM (flawM D)) → Goes w W1 p pb bv bv → Calls Try.prog c caps W1 fun e w' => e = .returned (.tuple #[]) ∧ ∃ bv', Dsk w' B p pb bv' D2 ∧ Goes W1 w' p pb bv bv' ∧ X bv' w') :
    Calls Try.prog 72 #[.pointer (some ⟨p, 0, none⟩), .func (.func c) #[] caps] w fun e w' => e = .returned (.int .i64 0) ∧ ∃ bv', Dsk w' B p pb bv' (countM D2) ∧ Goes w w' p pb bv bv' ∧ X bv' w' :=
  change_acts h hf (.func c) #[] caps _ _ fun W q hD hG hq b1 b2 =>
    (act_ok hD hl 88 _ (enters_of Try.func88 (by kernel_rfl) rfl) X hX fun W1 hD1 hG1 =>
      change1_any hD1 hf (b1.kept hG1.kept (hD.sep b1 (by decide) (by decide) (by decide))) c caps (b2.kept hG1.kept (hD.sep b2 (by decide) (by decide) (by decide))) eg X fun W2 hD2 hG2 =>
        (hcl W2 hD2 ((hG.trans hG1).trans hG2)).mono fun e w' ⟨he, bv', h1, h2, h3⟩ => ⟨he, bv', h1, h2, h3⟩).mono fun e w' ⟨he, bv', h1, h2, h3⟩ => ⟨he, bv', h1, hG.trans h2, h3⟩

/-- Blocks that lie beside a disk. -/
theorem Goes.blk {w w' : World} {p pb g : Nat} {bv bv' : Value} {t : TypeId} {cs : Array Value} (h : Goes w w' p pb bv bv') (hb : Blk w g t cs) (hg : g ∉ fp p pb bv) : Blk w' g t cs := hb.kept h.kept hg
theorem Dsk.beside {w : World} {B p pb g : Nat} {bv : Value} {D : Dk} (h : Dsk w B p pb bv D) (hg : w.heap.size ≤ g) : g ∉ fp p pb bv := fun hm => by
  simp only [fp, List.mem_cons, Option.mem_toList] at hm
  rcases hm with h9 | h9 | h9
  · have := h.lt; omega
  · have := h.plate.lt; omega
  · have := (h.far g h9).2.2.2; omega

/-! ### Read -/
set_option maxHeartbeats 1000000 in
theorem read1_any {W : World} {B p pb q i qb : Nat} {bv : Value} {D : Dk} {C : Array Value} (hD : Dsk W B p pb bv D) (hi : i < D.plate.length) (b1 : Blk W q 37 #[.pointer (some ⟨p, 0, none⟩)]) (b2 : Blk W (q + 1) 3 #[.int .i64 (i : Int)]) (b3 : Blk W qb 77 C) (hC : C.size = 64) (hqb : qb ∉ fp p pb bv) :
    Calls Try.prog 83 #[.pointer (some ⟨q, 0, none⟩), .pointer (some ⟨q + 1, 0, none⟩), .pointer (some ⟨qb, 0, none⟩)] W fun e w' => e = .returned (.tuple #[]) ∧ Dsk w' B p pb bv D ∧ Kept [qb] W w' ∧ Blk w' qb 77 (showsM D i).cs := by
  have c0 := b1.cell 0
  have c1 := b2.cell 0
  have hs := shows_any hD i hi
  generalize showsM D i = b at *
  have hfit : 0 + b.cs.size ≤ C.size := by rw [b.size]; omega
  have ho := over_all (C := C) (vs := b.cs) (by rw [b.size]; exact hC)
  have HO := Lib.hid ho
  clear b1 b2 ho hC
  go_enter Try.func83, Try.ntmps83
  go_wp2_with fail
  refine hs.mono ?_
  rintro e W1 ⟨rfl, hb⟩
  have b3' : Blk W1 qb 77 C := b3.kept (Kept.of_below [] hb) (by simp)
  have hD1 := hD.later hb
  clear hs b3 hD
  go_wp2_with (with_reducible refine wpList_store_blk rfl 77 (.tmp 2) (.tmp 5) rfl qb 0 b.cs C _ rfl rfl b3' hfit (s_blk b) b.one ?_)
  go_end0
  rw [HO.out]
  exact ⟨rfl, hD1.apart ((Kept.refl [qb] W1).setRow (.inl (by simp)) _) (fun x hx => (show x = qb by simpa using hx) ▸ hqb), (Kept.of_below _ hb).setRow (.inl (by simp)) _, b3'.row _⟩

theorem results_blk {fn : Func} {p u : Tmp} {ty : TypeId} (h : fn.results = #[.cell p ty, .tmp u]) (tmps : Array Value) (w : World) (g : Nat) (vs : Array Value) (d : TypeDesc)
    (hp : tmps.getD p undef = .pointer (some ⟨g, 0, none⟩)) (hb : Blk w g ty vs) (hu : Try.prog.underlying ty = some d) (hd : d.isRow = true) (hi : (Try.prog.info? ty).map (·.size) = some vs.size) :
    (results fn tmps).run Try.prog w = .ok (.tuple #[.agg vs, tmps.getD u undef]) w := by
  have hl := run_loadVar_row (P := Try.prog) w g ty ty vs (0, 0) d hb hu (by cases d <;> simp_all) hi
  rw [results_cell_tmp h, hp]
  simp [asAddr, hl, Result.andThen]

def readM (D : Dk) (i : Int) : Dk × Bk × Int :=
  if reachE D i ≠ 0 then (D, Bk.zero, reachE D i) else if D.flaw = some 0 then (failM D, Bk.zero, 8) else (countM (flawM D), showsM D i.toNat, 0)

theorem zero_store : over Bk.zero.cs 0 Bk.zero.cs = Bk.zero.cs := over_all rfl

theorem build_blk_zero (w : World) : (Instr.build 77 #[]).run Try.prog w = .ok (.agg Bk.zero.cs) w := by
  have hz := (zero_of_info z_blk).1 w
  have hu := run_underlying (P := Try.prog) Try.underlying77 w
  unfold Instr.build
  simp only [Sem.run_bind, hz, hu, Result.andThen_ok]
  go_simp
theorem wpList_build_zero {ops : Array Oper} {rest : List Oper} {op : Oper} {a : Act} {w : World} {Q : Exit → Act → World → Prop} (hgd : op.guard = none) (ho : op.op = .build 77 #[])
    (hK : wpList Try.prog ops Q rest (a.put op.dst (.agg Bk.zero.cs)) w) : wpList Try.prog ops Q (op :: rest) a w := by
  refine wpList_plain hgd fun K hK' => ?_
  have hrun := build_blk_zero w
  unfold Oper.wp
  simp only [execOp, ho, List.map_toArray, List.map_nil, Sem.run_bind, hrun, Result.andThen_ok]
  exact hK' _ _ hK

set_option maxHeartbeats 1000000 in
theorem read_far (p : Option Addr) (i err : Int) (w : World) (he : err ≠ 0) (hr : ∀ W, Below w.heap.size w W → Calls Try.prog 71 #[.pointer p, .int .i64 i] W fun e w' => e = .returned (.int .i64 err) ∧ W = w') :
    Calls Try.prog 64 #[.pointer p, .int .i64 i] w fun e w' => e = .returned (.tuple #[.agg Bk.zero.cs, .int .i64 err]) ∧ Below w.heap.size w w' := by
  obtain ⟨W1, hW1⟩ : ∃ W1, ((w.alloc (.cells #[.pointer p] 37)).alloc (.cells #[.int .i64 i] 3)).alloc (.cells Bk.zero.cs 77) = W1 := ⟨_, rfl⟩
  have hb : Below w.heap.size w W1 := by rw [← hW1]; exact (((Below.refl _ _).alloc (Nat.le_refl _) _).alloc (by simp) _).alloc (by simp; omega) _
  have b0 : Blk W1 w.heap.size 37 #[.pointer p] := by rw [← hW1]; exact ((Blk.new w _ _).alloc _).alloc _
  have b1 : Blk W1 (w.heap.size + 1) 3 #[.int .i64 i] := by
    rw [← hW1]
    have := (Blk.new (w.alloc (.cells #[.pointer p] 37)) 3 #[.int .i64 i]).alloc (.cells Bk.zero.cs 77)
    rwa [World.size_alloc] at this
  have b2 : Blk W1 (w.heap.size + 2) 77 Bk.zero.cs := by
    rw [← hW1]
    have := Blk.new ((w.alloc (.cells #[.pointer p] 37)).alloc (.cells #[.int .i64 i] 3)) 77 Bk.zero.cs
    rwa [World.size_alloc, World.size_alloc] at this
  have c0 := b0.cell 0
  have c1 := b1.cell 0
  have hcall := hr W1 hb
  have heb : (err != 0) = true := by simpa using he
  have heb2 : (err == 0) = false := by simpa using he
  have b3 := b2.row Bk.zero.cs
  have hb3 : Below w.heap.size w (W1.setRow (w.heap.size + 2) Bk.zero.cs) := below_setRow hb (by omega) _
  have HZ := Lib.hid zero_store
  clear hr b0 b1 hb
  go_enter Try.func64, Try.ntmps64
  go_wp2_with (with_reducible refine wpList_alloc_z rfl 77 rfl Bk.zero.cs 64 z_blk ?_)
  clear hW1
  refine hcall.mono ?_
  rintro e w' ⟨rfl, rfl⟩
  go_wp2_with (first | (with_reducible refine wpList_build_zero rfl rfl ?_) | (with_reducible refine wpList_store_blk rfl 77 (.tmp 4) (.tmp 14) rfl (w.heap.size + 2) 0 Bk.zero.cs Bk.zero.cs _ rfl rfl b2 (by simp) (s_blk Bk.zero) Bk.zero.one ?_))
  rw [HZ.out]
  refine bodyPost_ret (results_blk rfl _ _ (w.heap.size + 2) Bk.zero.cs _ rfl b3 Try.underlying77 rfl (s_blk Bk.zero)) rfl ?_
  exact ⟨rfl, hb3⟩

set_option maxHeartbeats 1000000 in
theorem read_acts {w : World} {B p pb : Nat} {bv : Value} {D D' : Dk} (h : Dsk w B p pb bv D) (i : Nat) (hi : i < D.plate.length) (hdead : D.dead = false) (err : Int) (b : Bk)
    (hact : ∀ W q qb, Dsk W B p pb bv D → Blk W q 37 #[.pointer (some ⟨p, 0, none⟩)] → Blk W (q + 1) 3 #[.int .i64 (i : Int)] → Blk W qb 77 Bk.zero.cs → qb ∉ fp p pb bv → qb ≠ p →
      Calls Try.prog 82 #[.pointer (some ⟨p, 0, none⟩), .func (.func 83) #[] #[.pointer (some ⟨q, 0, none⟩), .pointer (some ⟨q + 1, 0, none⟩), .pointer (some ⟨qb, 0, none⟩)]] W fun e w' =>
        e = .returned (.int .i64 err) ∧ Dsk w' B p pb bv D' ∧ Kept (qb :: fp p pb bv) W w' ∧ Blk w' qb 77 b.cs) :
    Calls Try.prog 64 #[.pointer (some ⟨p, 0, none⟩), .int .i64 (i : Int)] w fun e w' => e = .returned (.tuple #[.agg b.cs, .int .i64 err]) ∧ Dsk w' B p pb bv D' ∧ Goes w w' p pb bv bv := by
  have hmf : ∀ (fn : Fn) (first cap : Array Value) (w : World), (Instr.makeFunc fn first cap).run Try.prog w = .ok (.func fn first cap) w := fun _ _ _ _ => rfl
  obtain ⟨W1, hW1⟩ : ∃ W1, ((w.alloc (.cells #[.pointer (some ⟨p, 0, none⟩)] 37)).alloc (.cells #[.int .i64 (i : Int)] 3)).alloc (.cells Bk.zero.cs 77) = W1 := ⟨_, rfl⟩
  have hsz1 : W1.heap.size = w.heap.size + 3 := by rw [← hW1]; simp
  have hb : Below w.heap.size w W1 := by rw [← hW1]; exact (((Below.refl _ _).alloc (Nat.le_refl _) _).alloc (by simp) _).alloc (by simp; omega) _
  have b0 : Blk W1 w.heap.size 37 #[.pointer (some ⟨p, 0, none⟩)] := by rw [← hW1]; exact ((Blk.new w _ _).alloc _).alloc _
  have b1 : Blk W1 (w.heap.size + 1) 3 #[.int .i64 (i : Int)] := by
    rw [← hW1]
    have := (Blk.new (w.alloc (.cells #[.pointer (some ⟨p, 0, none⟩)] 37)) 3 #[.int .i64 (i : Int)]).alloc (.cells Bk.zero.cs 77)
    rwa [World.size_alloc] at this
  have b2 : Blk W1 (w.heap.size + 2) 77 Bk.zero.cs := by
    rw [← hW1]
    have := Blk.new ((w.alloc (.cells #[.pointer (some ⟨p, 0, none⟩)] 37)).alloc (.cells #[.int .i64 (i : Int)] 3)) 77 Bk.zero.cs
    rwa [World.size_alloc, World.size_alloc] at this
  have hD1 := h.later hb
  obtain ⟨W2, hW2⟩ : ∃ W2, W1.alloc (.cells Bk.zero.cs 77) = W2 := ⟨_, rfl⟩
  have hD2 : Dsk W2 B p pb bv D := by rw [← hW2]; exact hD1.alloc _
  have d0 : Blk W2 w.heap.size 37 #[.pointer (some ⟨p, 0, none⟩)] := by rw [← hW2]; exact b0.alloc _
  have d1 : Blk W2 (w.heap.size + 1) 3 #[.int .i64 (i : Int)] := by rw [← hW2]; exact b1.alloc _
  have d2 : Blk W2 (w.heap.size + 2) 77 Bk.zero.cs := by rw [← hW2]; exact b2.alloc _
  have d3 : Blk W2 W1.heap.size 77 Bk.zero.cs := by rw [← hW2]; exact Blk.new _ _ _
  have hb2 : Below w.heap.size w W2 := by rw [← hW2]; exact hb.alloc (by omega) _
  have hreach := reach_any hD1 (i : Int)
  have hre : reachE D (i : Int) = 0 := by unfold reachE; rw [hdead, if_neg (by simp), if_pos (by omega)]
  rw [hre] at hreach
  have hlp := h.lt
  have hcall := hact W2 w.heap.size W1.heap.size hD2 d0 d1 d3 (h.beside (by omega)) (by omega)
  have hn2 : w.heap.size + 2 ∉ W1.heap.size :: fp p pb bv := by
    intro hm
    rcases List.mem_cons.1 hm with h9 | h9
    · omega
    · exact h.beside (by omega) h9
  have c0 := b0.cell 0
  have c1 := b1.cell 0
  have e0 := d0.cell 0
  have hb9 := h.beside (g := W1.heap.size) (by omega)
  have h00 : ∀ j, j < b.cs.size → b.cs[0 + j]? = b.cs[j]? := fun j _ => by rw [Nat.zero_add]
  have H0 := Lib.hid h00
  have ho := over_all (C := Bk.zero.cs) (vs := b.cs) (by rw [b.size]; rfl)
  have HO := Lib.hid ho
  have hfit : 0 + b.cs.size ≤ Bk.zero.cs.size := by rw [b.size, Bk.size]; omega
  have HSZ := Lib.hid hsz1
  clear hact b0 b1 b2 hb hD1 hD2 d0 d1 d3 hre hdead h00 ho h hsz1
  go_enter Try.func64, Try.ntmps64
  go_wp2_with (with_reducible refine wpList_alloc_z rfl 77 rfl Bk.zero.cs 64 z_blk ?_)
  clear hW1
  refine hreach.mono ?_
  rintro e w' ⟨rfl, rfl⟩
  go_wp2_with (with_reducible refine wpList_alloc_z rfl 77 rfl Bk.zero.cs 64 z_blk ?_)
  clear hW2
  refine hcall.mono ?_
  rintro e W3 ⟨rfl, hD3, hk3, bq⟩
  have d2' := d2.kept hk3 hn2
  have hkf : Kept (fp p pb bv) w (W3.setRow (w.heap.size + 2) b.cs) := ((Kept.of_below (fp p pb bv) hb2).trans2 hk3 (fun i hi => by
    rcases List.mem_cons.1 hi with rfl | h9
    · right; have := HSZ.out; omega
    · exact .inl h9)).setRow (.inr (by omega)) _
  have hn2' : w.heap.size + 2 ∉ fp p pb bv := fun hm => hn2 (List.mem_cons_of_mem _ hm)
  have hk9 : Kept [w.heap.size + 2] W3 (W3.setRow (w.heap.size + 2) b.cs) := (Kept.refl _ W3).setRow (.inl (by simp)) b.cs
  have hD4 := hD3.apart hk9 (fun x hx => (show x = w.heap.size + 2 by simpa using hx) ▸ hn2')
  have b5 := d2'.row b.cs
  clear hcall hreach hk3 hD3 d2 hb2 hk9 hn2' hn2
  go_wp2_with (first | (with_reducible refine wpList_load_blk rfl 77 (.tmp 7) rfl W1.heap.size 0 rfl b.cs b.cs _ bq H0.out _ Try.underlying77 rfl (s_blk b) ?_) | (with_reducible refine wpList_store_blk rfl 77 (.tmp 4) (.tmp 19) rfl (w.heap.size + 2) 0 b.cs Bk.zero.cs _ rfl rfl d2' hfit (s_blk b) b.one ?_))
  rw [HO.out]
  refine bodyPost_ret (results_blk rfl _ _ (w.heap.size + 2) b.cs _ rfl b5 Try.underlying77 rfl (s_blk b)) rfl ?_
  exact ⟨rfl, hD4, hkf, fun k hk => .inl hk⟩

/-- Read. -/
theorem dread_any {w : World} {B p pb : Nat} {bv : Value} {D : Dk} (h : Dsk w B p pb bv D) (i : Int) :
    Calls Try.prog 64 #[.pointer (some ⟨p, 0, none⟩), .int .i64 i] w fun e w' => e = .returned (.tuple #[.agg (readM D i).2.1.cs, .int .i64 (readM D i).2.2]) ∧ Dsk w' B p pb bv (readM D i).1 ∧ Goes w w' p pb bv bv := by
  unfold readM
  by_cases hr : reachE D i = 0
  · rw [if_neg (by simpa using hr)]
    have hdead : D.dead = false := by
      unfold reachE at hr
      cases hd : D.dead
      · rfl
      · rw [hd] at hr; simp at hr
    have hin : 0 ≤ i ∧ i < D.plate.length := by
      unfold reachE at hr
      rw [hdead, if_neg (by simp)] at hr
      split at hr
      · assumption
      · omega
    obtain ⟨n, rfl⟩ := Int.eq_ofNat_of_zero_le hin.1
    clear hr
    have hn : n < D.plate.length := by omega
    by_cases hf : D.flaw = some 0
    · rw [if_pos hf]
      exact read_acts h n hn hdead 8 Bk.zero (fun W q qb hD b0 b1 b2 hq hqp => (act_fail hD hf _).mono fun e w' ⟨he, h1, h2⟩ => ⟨he, h1, h2.kept.more (fun x hx => List.mem_cons_of_mem _ hx), b2.kept h2.kept hq⟩)
    · rw [if_neg hf]
      refine read_acts h n hn hdead 0 (showsM D n) (fun W q qb hD b0 b1 b2 hq hqp => ?_)
      refine (act_ok' (D2 := flawM D) hD hf 83 _ (enters_of Try.func83 (by kernel_rfl) rfl) (fun W1 w' bv' => bv' = bv ∧ Kept [qb] W1 w' ∧ Blk w' qb 77 (showsM D n).cs) (fun W1 hD1 hG1 => ?_)).mono ?_
      · refine (read1_any hD1 hn (b0.kept hG1.kept (hD.sep b0 (by decide) (by decide) (by decide))) (b1.kept hG1.kept (hD.sep b1 (by decide) (by decide) (by decide))) (b2.kept hG1.kept hq) (Bk.size _) hq).mono ?_
        rintro e w' ⟨rfl, h1, h2, h3⟩
        exact ⟨rfl, bv, h1, rfl, h2, h3⟩
      · rintro e w' ⟨rfl, bv', WB, w3, hG, hD3, ⟨rfl, hk, hb⟩, rfl, hD4⟩
        refine ⟨rfl, hD4, ?_, hb.far (p := ⟨p, 7, none⟩) hqp _⟩
        exact ((hG.kept.more (fun x hx => List.mem_cons_of_mem _ hx)).trans (hk.more (by simp))).setCell (.inl (by simp [fp])) _
  · rw [if_pos hr]
    refine (read_far (some ⟨p, 0, none⟩) i (reachE D i) w hr (fun W hb => reach_any (h.later hb) i)).mono ?_
    rintro e w' ⟨rfl, hb⟩
    exact ⟨rfl, h.later hb, Kept.of_below _ hb, fun k hk => .inl hk⟩
theorem read_nil (i : Int) (w : World) : Calls Try.prog 64 #[.pointer none, .int .i64 i] w fun e w' => e = .returned (.tuple #[.agg Bk.zero.cs, .int .i64 1]) ∧ Below w.heap.size w w' :=
  read_far none i 1 w (by decide) (fun W _ => reach_nil i W)
end Go.Proofs.Ytkfpkolgikpcpaa
