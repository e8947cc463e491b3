/-
  The contracts of prefix's reader: read, Err, refuse, taken, version, bits, addr. Nothing here is a statement of the document.
-/
import Derived.Test.YtclkfmblogkakaaDoorPfxF
import Derived.Laws.ResultCell
import Derived.Test.YtclkfmblogkakaaDoorOctM
import Derived.Laws.AppendOwnNone
import Derived.Laws.CopyOwn
import Derived.Laws.Rows
namespace Go.Proofs.YtclkfmblogkakaaDoor
open Go.RowKit Go.Shelf
set_option linter.unusedVariables false

theorem results_blk {fn : Func} {p u : Tmp} {ty : TypeId} (h : fn.results = #[.cell p ty, .tmp u]) (tmps : Array Value) (w : World) (g : Nat) (vs : Array Value) (d : TypeDesc)
    (hp : tmps.getD p undef = .pointer (some ⟨g, 0, none⟩)) (hb : Blk w g ty vs) (hu : Tryd.prog.underlying ty = some d) (hd : d.isRow = true) (hi : (Tryd.prog.info? ty).map (·.size) = some vs.size) :
    (results fn tmps).run Tryd.prog w = .ok (.tuple #[.agg vs, tmps.getD u undef]) w := by
  have hl := run_loadVar_row (P := Tryd.prog) w g ty ty vs (0, 0) d hb hu (by cases d <;> simp_all) hi
  rw [results_cell_tmp h, hp]
  simp [asAddr, hl, Result.andThen]
def buildSem (ty : TypeId) (ps : Array (Nat × Value)) : Sem Value := Instr.build ty ps
theorem build_ad_rule (ps : Array (Nat × Value)) : Instr.build 63 ps = buildSem 63 ps := rfl
theorem build_px_rule (ps : Array (Nat × Value)) : Instr.build 65 ps = buildSem 65 ps := rfl
theorem list16 {l : List Nat} (h : l.length = 16) : ∃ a0 a1 a2 a3 a4 a5 a6 a7 a8 a9 a10 a11 a12 a13 a14 a15, l = [a0, a1, a2, a3, a4, a5, a6, a7, a8, a9, a10, a11, a12, a13, a14, a15] := by
  rcases l with _ | ⟨a0, _ | ⟨a1, _ | ⟨a2, _ | ⟨a3, _ | ⟨a4, _ | ⟨a5, _ | ⟨a6, _ | ⟨a7, _ | ⟨a8, _ | ⟨a9, _ | ⟨a10, _ | ⟨a11, _ | ⟨a12, _ | ⟨a13, _ | ⟨a14, _ | ⟨a15, _ | ⟨a16, l⟩⟩⟩⟩⟩⟩⟩⟩⟩⟩⟩⟩⟩⟩⟩⟩⟩ <;> first | exact ⟨_, _, _, _, _, _, _, _, _, _, _, _, _, _, _, _, rfl⟩ | (exfalso; simp at h; done) | (exfalso; simp at h; omega)
theorem B16.out (b : B16) : ∃ a0 a1 a2 a3 a4 a5 a6 a7 a8 a9 a10 a11 a12 a13 a14 a15, b.cs = #[byc a0, byc a1, byc a2, byc a3, byc a4, byc a5, byc a6, byc a7, byc a8, byc a9, byc a10, byc a11, byc a12, byc a13, byc a14, byc a15] := by
  obtain ⟨a0, a1, a2, a3, a4, a5, a6, a7, a8, a9, a10, a11, a12, a13, a14, a15, h⟩ := list16 b.len
  refine ⟨a0, a1, a2, a3, a4, a5, a6, a7, a8, a9, a10, a11, a12, a13, a14, a15, ?_⟩
  unfold B16.cs
  rw [h]
  rfl
theorem build_ad0 (w : World) : (buildSem 63 #[]).run Tryd.prog w = .ok (.agg Ad.zero.cs) w := by kernel_rfl
theorem build_px0 (w : World) : (buildSem 65 #[]).run Tryd.prog w = .ok (.agg Px.zero.cs) w := by kernel_rfl
theorem build_adv (v : Int) (w : World) : (buildSem 63 #[(0, .int .i64 v)]).run Tryd.prog w = .ok (.agg (Ad.mk v B16.zero).cs) w := by kernel_rfl
theorem build_ad (v : Int) (b : B16) (w : World) : (buildSem 63 #[(0, .int .i64 v), (1, .agg b.cs)]).run Tryd.prog w = .ok (.agg (Ad.mk v b).cs) w := by
  unfold Ad.cs
  show (buildSem 63 #[(0, .int .i64 v), (1, .agg b.cs)]).run Tryd.prog w = .ok (.agg (#[.int .i64 v] ++ b.cs)) w
  obtain ⟨a0, a1, a2, a3, a4, a5, a6, a7, a8, a9, a10, a11, a12, a13, a14, a15, h⟩ := b.out
  rw [h]
  kernel_rfl
theorem build_px (a : Ad) (n : Int) (w : World) : (buildSem 65 #[(0, .agg a.cs), (1, .int .i64 n)]).run Tryd.prog w = .ok (.agg (Px.mk a n).cs) w := by
  unfold Px.cs
  show (buildSem 65 #[(0, .agg a.cs), (1, .int .i64 n)]).run Tryd.prog w = .ok (.agg (a.cs ++ #[.int .i64 n])) w
  unfold Ad.cs
  obtain ⟨a0, a1, a2, a3, a4, a5, a6, a7, a8, a9, a10, a11, a12, a13, a14, a15, h⟩ := a.b.out
  rw [h]
  kernel_rfl
theorem over_b (a : Ad) (b : B16) : over a.cs 1 b.cs = (Ad.mk a.v b).cs := by
  apply Array.ext_getElem?
  intro i
  have hs : 1 + b.cs.size ≤ a.cs.size := by rw [B16.size, Ad.size]; omega
  rw [over_get hs, B16.size]
  rcases i with _ | i
  · rw [if_pos (by omega), a.c0, Ad.c0]
  · rw [if_neg (by omega), show i + 1 = 1 + i from by omega]
    by_cases h : i < 16
    · rw [if_pos (by omega), show 1 + i - 1 = i from by omega]
      exact (Ad.c1 ⟨a.v, b⟩ i).symm
    · rw [if_neg (by omega), Array.getElem?_eq_none (by rw [Ad.size]; omega), Array.getElem?_eq_none (by rw [Ad.size]; omega)]
theorem st_px {w : World} {g : Nat} {p q : Px} (h : Blk w g 65 p.cs) : (storeSem 65 (.pointer (some ⟨g, 0, none⟩)) (.agg q.cs)).run Tryd.prog w = .ok () (w.setRow g q.cs) := by
  have := storeRes_of (P := Tryd.prog) (ty := 65) (o := 0) (vs := q.cs) h (by rw [Px.size, Px.size]; omega) (s_px q) q.one
  rwa [over_all (by rw [Px.size, Px.size])] at this
theorem st_ad {w : World} {g : Nat} {p q : Ad} (h : Blk w g 63 p.cs) : (storeSem 63 (.pointer (some ⟨g, 0, none⟩)) (.agg q.cs)).run Tryd.prog w = .ok () (w.setRow g q.cs) := by
  have := storeRes_of (P := Tryd.prog) (ty := 63) (o := 0) (vs := q.cs) h (by rw [Ad.size, Ad.size]; omega) (s_ad q) q.one
  rwa [over_all (by rw [Ad.size, Ad.size])] at this
theorem st_b {w : World} {g : Nat} {p : Ad} {b : B16} (h : Blk w g 63 p.cs) : (storeSem 61 (.pointer (some ⟨g, 1, none⟩)) (.agg b.cs)).run Tryd.prog w = .ok () (w.setRow g (Ad.mk p.v b).cs) := by
  have := storeRes_of (P := Tryd.prog) (ty := 61) (o := 1) (vs := b.cs) h (by rw [B16.size, Ad.size]; omega) (s_b16 b) b.one
  rwa [over_b] at this
theorem below_setRow {B : Nat} {w w' : World} {g : Nat} (h : Below B w w') (hg : B ≤ g) (cs : Array Value) : Below B w (w'.setRow g cs) :=
  ⟨h.os, h.tape, h.output, by have := h.size; simpa using this, fun k hk => (setRow_other w' g k cs (by omega)).trans (h.block k hk)⟩

/-- What Of answers. -/
noncomputable def ofE (a : Ad) (n : Int) : Int := if okA a then (if 0 ≤ n ∧ n ≤ (wid a.v : Int) then 0 else 2) else 150
noncomputable def ofP (a : Ad) (n : Int) : Px := if okA a ∧ 0 ≤ n ∧ n ≤ (wid a.v : Int) then ⟨⟨a.v, keptB a.b n.toNat⟩, n⟩ else Px.zero
attribute [local go_sem ↓] load_b16_rule store_b16_rule load_ad_rule store_ad_rule load_px_rule store_px_rule eq_b16_rule eq_ad_rule eq_px_rule build_ad_rule build_px_rule

theorem keep_next : ∀ x, x < 256 → ∀ s, s < 8 → keepN x (s + 1) = keepN x s + (x / 2 ^ (7 - s) % 2) * 2 ^ (7 - s) := by decide +kernel
theorem keep_room : ∀ x, x < 256 → ∀ s, s < 8 → keepN x s + 2 ^ (7 - s) < 256 := by
  intro x hx s hs
  have h : ∀ x, x < 256 → ∀ s, s < 8 → keepN x s + 2 ^ (7 - s) < 256 := by decide +kernel
  exact h x hx s hs
theorem kept_next (b : B16) (m : Nat) (hm : m < 128) (i : Nat) (hi : i < 16) : (keptB b (m + 1)).at i = if i = m / 8 then (keptB b m).at i + (bt b m).toNat * 2 ^ (7 - m % 8) else (keptB b m).at i := by
  rw [keptB_at _ _ _ hi, keptB_at _ _ _ hi]
  by_cases h : i = m / 8
  · rw [if_pos h]
    have h1 : stayN m i = m % 8 := by unfold stayN; omega
    have h2 : stayN (m + 1) i = m % 8 + 1 := by unfold stayN; omega
    rw [h1, h2, keep_next _ (b.lt _) _ (by omega)]
    unfold bt
    rw [← bit_num, h]
  · rw [if_neg h]
    have h1 : stayN (m + 1) i = stayN m i := by unfold stayN; omega
    rw [h1]
theorem kept_same (b : B16) (m : Nat) (hm : m < 128) (h : bt b m = false) : keptB b (m + 1) = keptB b m := B16.ext_at fun i hi => by
  rw [kept_next b m hm i hi, h]
  simp
theorem px_set {p : Px} {b : B16} {k x : Nat} (hk : k < 16) (h : ∀ i, i < 16 → b.at i = if i = k then x else p.a.b.at i) : p.cs.setIfInBounds (1 + k) (.int .u8 (x : Int)) = (Px.mk ⟨p.a.v, b⟩ p.n).cs := by
  apply Array.ext_getElem?
  intro i
  rw [Array.getElem?_setIfInBounds]
  by_cases h1 : i < 17
  · rw [Px.ca _ i h1, Px.ca _ i h1]
    rcases i with _ | i
    · rw [if_neg (by omega), Ad.c0, Ad.c0]
    · rw [show i + 1 = 1 + i from by omega, Ad.c1]
      have hi : i < 16 := by omega
      by_cases h2 : k = i
      · subst h2
        rw [if_pos rfl, if_pos (by rw [Px.size]; omega)]
        have e := b.get k hk
        rw [h k hk, if_pos rfl] at e
        exact ((Ad.c1 ⟨p.a.v, b⟩ k).trans e).symm
      · rw [if_neg (by omega), p.a.b.get i hi]
        have e := b.get i hi
        rw [h i hi, if_neg (fun e => h2 e.symm)] at e
        exact ((Ad.c1 ⟨p.a.v, b⟩ i).trans e).symm
  · rw [if_neg (by omega)]
    by_cases h2 : i = 17
    · subst h2; rw [Px.cn, Px.cn]
    · rw [Array.getElem?_eq_none (by rw [Px.size]; omega), Array.getElem?_eq_none (by rw [Px.size]; omega)]

end Go.Proofs.YtclkfmblogkakaaDoor
namespace Go.Proofs.YtclkfmblogkakaaDoor
open Go.RowKit
set_option linter.unusedVariables false

/-- In the variable at block x there is a slice of the call's own that holds these bytes. -/
def Out (w : World) (x : Nat) (l : List Nat) : Prop :=
  ∃ v, w.heap[x]? = some (.cells #[v] 49 (0, 0)) ∧ w.ownsRow (x + 1) 5 1 v l.length (l.map byc)

theorem out_next {x b : Nat} {l : List Nat} {w w1 : World} {v v' : Value} {o : Obj} (hx : w.heap[x]? = some (.cells #[v] 49 (0, 0))) (hown : w.ownsRow (x + 1) 5 1 v l.length (l.map byc))
    (hown' : w1.ownsRow (x + 1) 5 1 v' (l.length + 1) (l.map byc ++ [.int .u8 (b : Int)])) (hg : (w.alloc o).grownBy w1 v.ownBlock) :
    Out (w1.setCell ⟨x, 0, none⟩ v') x (l ++ [b]) ∧ Below x w (w1.setCell ⟨x, 0, none⟩ v') ∧ w1.cell? ⟨x, 0, none⟩ = some v ∧ w1.frozen? ⟨x, 0, none⟩ = false := by
  have hxl := lt_of_block hx
  have hne : some x ≠ v.ownBlock := fun e => by have := (hown.lt x e.symm).1; omega
  have hx1 : w1.heap[x]? = some (.cells #[v] 49 (0, 0)) := (hg.block x (by simp; omega) hne).trans ((Below.heap_alloc w o x hxl).trans hx)
  refine ⟨⟨v', one_setCell hx1, ?_⟩, ?_, cell_of_one hx1, free_of_one hx1⟩
  · have h := ownsRow_setCell_below hown' (a := ⟨x, 0, none⟩) (by show x < x + 1; omega) v'
    have e : (l ++ [b]).map byc = l.map byc ++ [.int .u8 (b : Int)] := by simp [byc]
    rw [e, List.length_append]
    exact h
  · exact (((Below.refl x w).alloc (by omega) o).grown hg (by simp; omega) (fun k hk => by have := (hown.lt k hk).1; omega)).setCell (Nat.le_refl _) _

/-- Below block x two worlds differ at block p at most. -/
structure Thru (p x : Nat) (w w' : World) : Prop where
  os : w'.os = w.os
  tape : w'.tape = w.tape
  output : w'.output = w.output
  size : w.heap.size ≤ w'.heap.size
  block : ∀ k, k < x → k ≠ p → w'.heap[k]? = w.heap[k]?
theorem Thru.refl (p x : Nat) (w : World) : Thru p x w w := ⟨rfl, rfl, rfl, Nat.le_refl _, fun _ _ _ => rfl⟩
theorem Thru.trans {p x : Nat} {a b c : World} (h : Thru p x a b) (k : Thru p x b c) : Thru p x a c :=
  ⟨k.os.trans h.os, k.tape.trans h.tape, k.output.trans h.output, Nat.le_trans h.size k.size, fun i h1 h2 => (k.block i h1 h2).trans (h.block i h1 h2)⟩
theorem Thru.set (p x i : Nat) (w : World) (v : Value) : Thru p x w (w.setCell ⟨p, i, none⟩ v) :=
  ⟨rfl, rfl, rfl, by simp [World.setCell], fun k h1 h2 => Below.heap_setCell _ _ _ _ h2⟩
theorem Thru.of {p x : Nat} {w w' : World} (h : Below x w w') : Thru p x w w' := ⟨h.os, h.tape, h.output, h.size, fun k hk _ => h.block k hk⟩

theorem Out.set {w : World} {p x i : Nat} {l : List Nat} (h : Out w x l) (hp : p < x) (v : Value) : Out (w.setCell ⟨p, i, none⟩ v) x l := by
  obtain ⟨u, hx, hown⟩ := h
  exact ⟨u, (Below.heap_setCell _ _ _ _ (Nat.ne_of_gt hp)).trans hx, ownsRow_setCell_below hown (a := ⟨p, i, none⟩) (by show p < x + 1; omega) v⟩

/-- A slice of the call's own, as bytes that lie. -/
theorem owns_lies {w : World} {base : Nat} {v : Value} {l : List Nat} (h : w.ownsRow base 5 1 v l.length (l.map byc)) :
    ∃ a cap, v = .slice a l.length cap ∧ Lies w a l ∧ (∀ y, a = some y → base ≤ y.block) ∧ (a = none → cap = 0) := by
  rcases h.2 with ⟨rfl, h0⟩ | ⟨g, cap, cur, rfl, hb, hg, h1, h2, h3, h4⟩
  · exact ⟨none, 0, by rw [h0], .inl (List.eq_nil_of_length_eq_zero h0), by simp, fun _ => rfl⟩
  · refine ⟨some ⟨g, 0, none⟩, cap, rfl, .inr ⟨g, 0, rfl, lt_of_block hg, fun i hi => ?_⟩, fun y hy => by cases hy; exact hb, fun e => by cases e⟩
    rw [Nat.zero_add]
    have e : cur[i]? = (l.map byc)[i]? := by
      rw [← h4, Nat.mul_one, List.getElem?_take, if_pos hi]; simp
    simp only [World.cell?, hg, e]
    simp [byc, hi]

theorem Thru.grown {p x : Nat} {w w1 w' : World} (hA : w.grownBy w1 none) (h : Thru p x w1 w') (hx : w.heap.size ≤ x) : w.grownBy w' (some p) :=
  ⟨h.os.trans hA.os, h.tape.trans hA.tape, h.output.trans hA.output, Nat.le_trans hA.size h.size,
    fun k hk hp => (h.block k (by omega) (fun e => hp (by rw [e]))).trans (hA.block k hk (by simp))⟩

/-- What Raw hands back: bytes that lie in new memory, or nothing. -/
def Handed (w w' : World) (v : Value) (l : List Nat) : Prop := ∃ a cap, v = .slice a l.length cap ∧ Lies w' a l ∧ (∀ y, a = some y → w.heap.size ≤ y.block) ∧ (a = none → cap = 0)

theorem Out.handed {w w' : World} {l : List Nat} {v : Value} (hv : w'.heap[w.heap.size]? = some (.cells #[v] 49 (0, 0))) (hown : w'.ownsRow (w.heap.size + 1) 5 1 v l.length (l.map byc)) : Handed w w' v l := by
  obtain ⟨a, cap, h1, h2, h3, h4⟩ := owns_lies hown
  exact ⟨a, cap, h1, h2, fun y hy => by have := h3 y hy; omega, h4⟩

end Go.Proofs.YtclkfmblogkakaaDoor
namespace Go.Proofs.YtclkfmblogkakaaDoor
open Go.RowKit
set_option linter.unusedVariables false

/-- Bytes that lie somewhere, appended to a row of the call's own. -/
theorem wpList_append_got {w : World} {ops : Array Oper} {rest : List Oper} {o : Oper} {a : Act} {Q : Exit → Act → World → Prop} (hgd : o.guard = none) (s x : Operand)
    (ho : o.op = .call { callee := .builtin .append, args := #[s, x], argTypes := #[49, 49] })
    (base : Nat) (v : Value) (n : Nat) (xs : List Value) (hs : a.eval s = v) (hown : w.ownsRow base 5 1 v n xs) (ao : Option Addr) (cap : Nat) (l : List Nat)
    (hx : a.eval x = .slice ao l.length cap) (hL : Lies w ao l) (hcap : ao = none → cap = 0) (hlen : n + l.length ≤ 140737488355328) (hbase : base ≤ w.heap.size)
    (h : ∀ v' w', w'.ownsRow base 5 1 v' (n + l.length) (xs ++ l.map byc) → w.grownBy w' v.ownBlock → wpList Tryd.prog ops Q rest (a.put o.dst v') w') : wpList Tryd.prog ops Q (o :: rest) a w := by
  obtain ⟨i0, hi, hz0, hz1, hz2⟩ := info_parts Tryd.info5
  cases ao with
  | none =>
    have hc := hcap rfl
    obtain rfl : l = [] := by
      rcases hL with h | ⟨_, _, h, _⟩
      · exact h
      · cases h
    subst hc
    refine wpList_append_own_none hgd s x 49 ho base 5 i0 1 Tryd.underlying49 hi v n xs hs hown hx (h v w (by simpa using hown) (World.grownBy.refl _ _))
  | some ad =>
    refine wpList_append_own w hgd s x 49 ho base 5 i0 (.int .u8 0) 1 1 Tryd.underlying49 hi hz0 hz1 hz2 rfl (by decide) v n xs hs hown ad l.length cap (l.map byc) hx (by simp) ?_ (byc_one l) (by unfold maxLen; omega) (by omega) hbase (fun v' w' h1 h2 _ => h v' w' h1 h2)
    intro j u hj
    by_cases h0 : l = []
    · subst h0; simp at hj
    · obtain ⟨ad', e, hc⟩ := hL.cells (by rcases l with _ | _; exact absurd rfl h0; simp)
      cases e
      exact hc j u hj

end Go.Proofs.YtclkfmblogkakaaDoor
namespace Go.Proofs.YtclkfmblogkakaaDoor
open Go.RowKit Go.Shelf
set_option linter.unusedVariables false
attribute [local go_sem ↓] load_b16_rule store_b16_rule load_ad_rule store_ad_rule load_px_rule store_px_rule eq_b16_rule eq_ad_rule eq_px_rule

theorem px_cell {W : World} {g : Nat} {p : Px} (h : Blk W g 65 p.cs) (j : Nat) (hj : j < 16) : ∀ w', Below W.heap.size W w' → w'.cell? ⟨g, 1 + j, none⟩ = some (.int .u8 (p.a.b.at j : Int)) :=
  fun w' k => ((h.later k).cell _).trans ((p.cb j hj).trans (p.a.b.get j hj))
theorem World.size_drew' (w : World) : w.drew.heap.size = w.heap.size := rfl
theorem bel_alloc_all (W : World) : ∀ w' o, Below W.heap.size W w' → Below W.heap.size W (w'.alloc o) := fun w' o h => h.alloc h.size o
/-- A row of ints that lies at the head of a block. -/
def Ints (w : World) (q : Nat) (l : List Nat) : Prop := Blk w q 3 (l.map fun n : Nat => Value.int .i64 (n : Int)).toArray
theorem Ints.cell {w : World} {q : Nat} {l : List Nat} (h : Ints w q l) {i : Nat} (hi : i < l.length) : w.cell? ⟨q, i, none⟩ = some (.int .i64 ((l.getD i 0 : Nat) : Int)) := by
  unfold Ints at h
  rw [h.cell]
  simp [hi]
theorem pown_mono {w : World} {B B' : Nat} {e : TypeId} {z : Nat} {v : Value} {n : Nat} {xs : List Value} (h : w.ownsRow B e z v n xs) (hB : B' ≤ B) : w.ownsRow B' e z v n xs := by
  refine ⟨h.1, ?_⟩
  rcases h.2 with h9 | ⟨g, cap, cur, h1, h2, h3⟩
  · exact .inl h9
  · exact .inr ⟨g, cap, cur, h1, Nat.le_trans hB h2, h3⟩
theorem own_later2 {w w' : World} {b : Nat} {e : TypeId} {size : Nat} {v : Value} {n : Nat} {xs : List Value} (h : w.ownsRow b e size v n xs) (hb : Below w.heap.size w w') : w'.ownsRow b e size v n xs := by
  refine ⟨h.1, ?_⟩
  rcases h.2 with h9 | ⟨g, cap, cur, h1, h2, h3, h4⟩
  · exact .inl h9
  · exact .inr ⟨g, cap, cur, h1, h2, (hb.block g (Array.getElem?_eq_some_iff.1 h3).1).trans h3, h4⟩
/-- A slice of the call's own that holds these bytes. -/
def Gets (w w' : World) (v : Value) (l : List Nat) : Prop := w'.ownsRow w.heap.size 5 1 v l.length (l.map byc)
theorem B16.lies {w : World} {g o : Nat} {b : B16} (h : ∀ j, j < 16 → w.cell? ⟨g, o + j, none⟩ = some (.int .u8 (b.at j : Int))) (hg : g < w.heap.size) (n : Nat) (hn : n ≤ 16) : Lies w (some ⟨g, o, none⟩) (b.l.take n) := by
  refine .inr ⟨g, o, rfl, hg, fun i hi => ?_⟩
  rw [List.length_take, b.len] at hi
  rw [h i (by omega)]
  have e : (b.l.take n).getD i 0 = b.l.getD i 0 := by simp [List.getElem?_take, show i < n by omega]
  rw [e]
  rfl

set_option maxRecDepth 100000 in
set_option maxHeartbeats 1600000 in
theorem laid_any (b : B16) (n : Nat) (hn : n ≤ 128) (q : Nat) (hs : List Nat) (w : World) (hq : Ints w q hs) (hB : Bys hs) (hl : hs.length ≤ 2) :
    Calls Tryd.prog 99 #[.agg b.cs, .int .i64 (n : Int), .slice (some ⟨q, 0, none⟩) hs.length hs.length] w fun e w' => ∃ v, e = .returned v ∧ Gets w w' v (hs ++ b.l.take (fill8 n)) ∧ Below w.heap.size w w' := by
  obtain ⟨i0, hi, hz0, hz1, hz2⟩ := info_parts Tryd.info5
  obtain ⟨W1, hW1⟩ : ∃ W1, w.alloc (.cells b.cs 61) = W1 := ⟨_, rfl⟩
  have hb1 : Below w.heap.size w W1 := by rw [← hW1]; exact (Below.refl _ _).alloc (Nat.le_refl _) _
  have b1 : Blk W1 w.heap.size 61 b.cs := by rw [← hW1]; exact Blk.new w _ _
  have hs1 : W1.heap.size = w.heap.size + 1 := by rw [← hW1]; simp
  have hq1 : Ints W1 q hs := (show Blk w q _ _ from hq).later hb1
  have H1 := Lib.hid (And.intro hb1 (And.intro b1 (And.intro hq1 hs1)))
  obtain ⟨m, hm⟩ : ∃ m, hs.length = m := ⟨_, rfl⟩
  rw [hm] at hl ⊢
  have HM := Lib.hid hm
  clear hb1 b1 hq1 hs1 hq hm
  go_enter Tryd.func99, Tryd.ntmps99
  go_wp2_with fail
  clear hW1
  go_loopw [7, 9, 12] (fun o x i wr => ∃ k : Nat, k ≤ m ∧ i = .int .i64 k ∧ Below W1.heap.size W1 wr ∧ wr.ownsRow W1.heap.size 5 1 o k ((hs.take k).map byc)) (fun o x i _ => m - (intOf i).toNat)
  case atStart => exact ⟨0, Nat.zero_le _, rfl, Below.refl _ _, by simp, .inl ⟨rfl, rfl⟩⟩
  case round =>
    obtain ⟨k, hk, rfl, hb, hown⟩ := hrel
    have hbs := hb.size
    by_cases hlt : k < m
    · have hc : wr.cell? ⟨q, k, none⟩ = some (.int .i64 ((hs.getD k 0 : Nat) : Int)) := ((show Blk W1 q _ _ from H1.out.2.2.1).later hb |> fun h => (show Ints wr q hs from h)).cell (by have := HM.out; omega)
      have hx := hB.at k
      have hsnoc : hs.take (k + 1) = hs.take k ++ [hs.getD k 0] := by
        rw [List.take_add_one]
        have : k < hs.length := by have := HM.out; omega
        simp [this]
      have HS := Lib.hid hsnoc
      have hwx : IntKind.u8.wrap ((hs.getD k 0 : Nat) : Int) = ((hs.getD k 0 : Nat) : Int) := by rw [IntKind.wrap_u8]; omega
      generalize hs.getD k 0 = x at *
      clear hsnoc
      go_wp2_with (at_builtin; refine wpList_append_own _ rfl _ _ 49 rfl W1.heap.size 5 i0 (.int .u8 0) 1 1 Tryd.underlying49 hi hz0 hz1 hz2 rfl (by decide) _ _ _ rfl (hown.alloc _) ⟨wr.heap.size, 0, none⟩ 1 1 [.int .u8 (x : Int)] rfl rfl ?c1 ?c2 ?c3 ?c4 ?c5 ?_)
      case c1 =>
        intro j u hj
        match j, hj with
        | 0, hj => simp at hj; subst hj; simp [Addr.add]
      case c2 => intro u hu; simp at hu; subst hu; rfl
      case c3 => unfold maxLen; omega
      case c4 => omega
      case c5 => simp; omega
      intro v' w1 hown' hgrow _
      have hb2 : Below W1.heap.size W1 w1 := (hb.alloc hbs _).grown hgrow (by simp; omega) (fun j hj => (hown.lt j hj).1)
      have e2 : (hs.map byc).take k ++ [.int .u8 (x : Int)] = (hs.take (k + 1)).map byc := by rw [HS.out]; simp [byc]
      rw [e2] at hown'
      have HX := Lib.hid (And.intro hb2 hown')
      clear hown' hgrow hown hb2 hb
      go_wp2
      go_roundw
      case rel => exact ⟨k + 1, by omega, by go_num, HX.out.1, HX.out.2⟩
      case measure => simp [intOf]; omega
    · obtain rfl : k = m := by omega
      have hfill := filled_any n (by omega)
      have hf16 : fill8 n ≤ 16 := by unfold fill8; omega
      have b3 := H1.out.2.1.later hb
      have hL := B16.lies (w := wr) (g := w.heap.size) (o := 0) (b := b) (fun j hj => by rw [Nat.zero_add]; exact (b3.cell j).trans (b.get j hj)) b3.lt (fill8 n) hf16
      have htl : hs.take k = hs := List.take_of_length_le (by have := HM.out; omega)
      rw [htl] at hown
      have hlen : (b.l.take (fill8 n)).length = fill8 n := by rw [List.length_take, b.len]; omega
      obtain ⟨f, hf⟩ : ∃ f, fill8 n = f := ⟨_, rfl⟩
      rw [hf] at hfill hf16 hL hlen
      have hf2 : (f : Int) ≤ 16 := by omega
      obtain ⟨M, hMM⟩ : ∃ M, M = b.l.take f := ⟨_, rfl⟩
      rw [← hMM] at hL hlen
      have HE := Lib.hid (show hs ++ b.l.take (fill8 n) = hs ++ M by rw [hf, hMM])
      have HL := Lib.hid hL
      have HO := Lib.hid hown
      clear hL hMM hf htl hown b3
      subst hlen
      go_wp2_with (first | (go_at_call 108; refine (hfill _).mono ?_; rintro e w2 ⟨rfl, rfl⟩) | (at_builtin; refine wpList_append_got rfl _ _ rfl W1.heap.size _ _ _ rfl HO.out (some ⟨w.heap.size, 0, none⟩) 16 M rfl HL.out (fun h => by cases h) (by omega) hbs ?_))
      intro v' w1 hown' hgrow
      have hb2 : Below W1.heap.size W1 w1 := hb.grown hgrow hbs (fun j hj => (HO.out.lt j hj).1)
      have HX := Lib.hid (And.intro hb2 hown')
      clear hown' hgrow hb2 hb
      go_wp2
      go_ret
      refine ⟨v', rfl, ?_, bel_trans H1.out.1 HX.out.1⟩
      rw [HE.out]
      unfold Gets
      rw [List.length_append, HM.out, List.map_append]
      exact pown_mono HX.out.2 (by have := H1.out.2.2.2; omega)

/-- The bytes of an address, of a prefix. -/
def encA (a : Ad) : List Nat := a.v.toNat :: a.b.l.take (wid a.v / 8)
def encP (p : Px) : List Nat := [p.a.v.toNat, p.n.toNat] ++ p.a.b.l.take (fill8 p.n.toNat)
theorem wid_cases {v : Int} (h : wid v ≠ 0) : v = 4 ∨ v = 6 := by
  unfold wid at h
  split at h
  · exact .inl ‹_›
  · split at h
    · exact .inr ‹_›
    · exact absurd rfl h
theorem fill_wid (v : Int) : fill8 (wid v) = wid v / 8 := by
  unfold fill8 wid
  split
  · rfl
  · split <;> rfl
theorem bys_one {x : Nat} (h : x < 256) : Bys [x] := fun m hm => by rw [List.mem_singleton.1 hm]; exact h
theorem bys_two {x y : Nat} (h : x < 256) (h2 : y < 256) : Bys [x, y] := fun m hm => by
  rcases List.mem_cons.1 hm with h9 | h9
  · omega
  · rw [List.mem_singleton.1 h9]; exact h2

set_option maxRecDepth 100000 in
set_option maxHeartbeats 1600000 in
theorem encode_any (p : Px) (w : World) (hW : Wid w) :
    Calls Tryd.prog 76 #[.agg p.cs] w fun e w' => ∃ v, e = .returned (.tuple #[v, .int .i64 (eP p)]) ∧ (okP p → Gets w w' v (encP p)) ∧ (¬ okP p → v = .slice none 0 0) ∧ Below w.heap.size w w' := by
  obtain ⟨W1, hW1⟩ : ∃ W1, w.alloc (.cells p.cs 65) = W1 := ⟨_, rfl⟩
  have hb1 : Below w.heap.size w W1 := by rw [← hW1]; exact ((Below.refl w.heap.size w).alloc (Nat.le_refl _) _)
  have b1 : Blk W1 (w.heap.size) 65 p.cs := by
    have h9 := Blk.new w 65 p.cs
    rw [← hW1]; exact h9
  have LP := px_p b1
  have LA := px_a b1
  have LB := px_b b1
  have LV := px_v b1
  have LN := px_n b1
  have HW : ∀ w', Below W1.heap.size W1 w' → Wid w' := fun w' h => (hW.later hb1).later h
  have h0 : Below W1.heap.size W1 W1 := Below.refl _ _
  have HB := Lib.hid hb1
  clear hb1 b1
  have HCA := fun w' h => check_any p w' (HW w' h)
  have LD := bel_drew_all W1
  have LE := bel_alloc_all W1
  by_cases h1 : okP p
  · rw [eP_ok h1] at HCA ⊢
    obtain ⟨x, hx⟩ := Int.eq_ofNat_of_zero_le (show 0 ≤ p.a.v by have := wid_cases h1.1.1; omega)
    obtain ⟨n, hn⟩ := Int.eq_ofNat_of_zero_le h1.2.1
    have hx6 : x ≤ 6 := by have := wid_cases h1.1.1; omega
    have hn128 : n ≤ 128 := by have := okP_le h1; omega
    have HE := Lib.hid (show [x, n] ++ p.a.b.l.take (fill8 n) = encP p by unfold encP; rw [hx, hn]; rfl)
    have HLA := fun q w' h => laid_any p.a.b n hn128 q [x, n] w' h (bys_two (by omega) (by omega)) (by simp)
    rw [hx] at LV
    rw [hn] at LN
    have HO := Lib.hid h1
    clear h1 hx hn
    go_enter Tryd.func76, Tryd.ntmps76
    go_wp2_with (first | (go_at_call 59; refine (HCA _ (by assumption)).mono ?_; rintro e w2 ⟨rfl, hb2⟩; have hk2 : Below W1.heap.size W1 w2 := bel_trans (by assumption) hb2; clear hb2))
    refine (HLA w2.heap.size _ (Blk.new _ _ _)).mono ?_
    rintro e w3 ⟨v, rfl, hgets, hb3⟩
    have hk3 : Below W1.heap.size W1 w3 := bel_trans (LE _ _ (by assumption)) hb3
    have hsz := hk2.size
    go_wp2
    refine bodyPost_ret (results_tmp2 rfl _ _ _) rfl ?_
    exact ⟨v, rfl, fun _ => by rw [← HE.out]; exact pown_mono hgets (Nat.le_trans HB.out.size (by rw [World.size_alloc]; omega)), fun h => absurd HO.out h, bel_trans HB.out hk3⟩
  · rw [eP_no h1] at HCA ⊢
    have HO := Lib.hid h1
    clear h1
    go_enter Tryd.func76, Tryd.ntmps76
    go_wp2_with (first | (go_at_call 59; refine (HCA _ (by assumption)).mono ?_; rintro e w2 ⟨rfl, hb2⟩; have hk2 : Below W1.heap.size W1 w2 := bel_trans (by assumption) hb2; clear hb2) | (refine wp_region_lin (fun w' => Below W1.heap.size W1 w') (by kernel_rfl) (by kernel_rfl) (bel_drew (by assumption)) ?_; (repeat (first | (refine lin_off (by rfl) ?_; (try simp only [Act.put, List.setIfInBounds_toArray, List.set_cons_zero, List.set_cons_succ])) | (refine lin_op (v := ?_) (by rfl) (fun w9 hS9 => ?_) ?_; rotate_left; (focus (((try dsimp only at hS9); go_simp; (try go_bits)) <;> with_reducible rfl)); (try simp only [Act.put, List.setIfInBounds_toArray, List.set_cons_zero, List.set_cons_succ])) | (refine lin_fn (f := 59) (by rfl) rfl rfl (enters_of Tryd.func59 (by kernel_rfl) rfl) (fun w9 hS9 => (HCA w9 hS9).mono (fun e w' h => ⟨h.1, bel_trans hS9 h.2⟩)) ?_ ?_; (focus (simp [Act.eval]; done)); (try simp only [Act.put, List.setIfInBounds_toArray, List.set_cons_zero, List.set_cons_succ])))); refine lin_nil (fun w8 hS8 => ?_)))
    refine bodyPost_ret (results_tmp2 rfl _ _ _) rfl ?_
    exact ⟨_, rfl, fun h => absurd h HO.out, fun _ => rfl, bel_trans HB.out (by assumption)⟩

theorem take_more0 (L : List Nat) (k : Nat) (h : k < L.length) : L.take (k + 1) = L.take k ++ [L.getD k 0] := by
  rw [List.take_add_one]
  simp [h]
theorem own_one (w : World) (x : Nat) : (w.alloc (.cells #[.int .u8 (x : Int)] 5)).ownsRow w.heap.size 5 1 (.slice (some ⟨w.heap.size, 0, none⟩) 1 1) 1 ([x].map byc) :=
  ⟨rfl, .inr ⟨w.heap.size, 1, #[.int .u8 (x : Int)], rfl, Nat.le_refl _, heap_alloc_new _ _, Nat.le_refl _, by unfold maxLen; omega, rfl, rfl⟩⟩
theorem own_two (w : World) (x y : Nat) : (w.alloc (.cells #[.int .u8 (x : Int), .int .u8 (y : Int)] 5)).ownsRow w.heap.size 5 1 (.slice (some ⟨w.heap.size, 0, none⟩) 2 2) 2 ([x, y].map byc) :=
  ⟨rfl, .inr ⟨w.heap.size, 2, #[.int .u8 (x : Int), .int .u8 (y : Int)], rfl, Nat.le_refl _, heap_alloc_new _ _, Nat.le_refl _, by unfold maxLen; omega, rfl, rfl⟩⟩

set_option maxRecDepth 100000 in
set_option maxHeartbeats 1600000 in
theorem refbytes_any (p : Px) (w : World) (hok : okP p) :
    Calls Tryd.prog 58 #[.agg p.cs] w fun e w' => ∃ v, e = .returned v ∧ Gets w w' v (encP p) ∧ Below w.heap.size w w' := by
  obtain ⟨i0, hi, hz0, hz1, hz2⟩ := info_parts Tryd.info5
  obtain ⟨W1, hW1⟩ : ∃ W1, w.alloc (.cells p.cs 65) = W1 := ⟨_, rfl⟩
  have hb1 : Below w.heap.size w W1 := by rw [← hW1]; exact ((Below.refl w.heap.size w).alloc (Nat.le_refl _) _)
  have b1 : Blk W1 (w.heap.size) 65 p.cs := by
    have h9 := Blk.new w 65 p.cs
    rw [← hW1]; exact h9
  have LP := px_p b1
  have LA := px_a b1
  have LB := px_b b1
  have LV := px_v b1
  have LN := px_n b1
  have LC := fun j hj => px_cell b1 j hj
  have h0 : Below W1.heap.size W1 W1 := Below.refl _ _
  have HB := Lib.hid hb1
  clear hb1 b1
  have LD := bel_drew_all W1
  have LE := bel_alloc_all W1
  obtain ⟨x, hx⟩ := Int.eq_ofNat_of_zero_le (show 0 ≤ p.a.v by have := wid_cases hok.1.1; omega)
  have hx6 : x ≤ 6 := by have := wid_cases hok.1.1; omega
  have hwx : IntKind.u8.wrap (x : Int) = (x : Int) := by rw [IntKind.wrap_u8]; omega
  obtain ⟨n, hn⟩ := Int.eq_ofNat_of_zero_le hok.2.1
  have hn128 : n ≤ 128 := by have := okP_le hok; omega
  have hwn : IntKind.u8.wrap (n : Int) = (n : Int) := by rw [IntKind.wrap_u8]; omega
  have hf16 : fill8 n ≤ 16 := by unfold fill8; omega
  have HE := Lib.hid (show [x, n] ++ p.a.b.l.take (fill8 n) = encP p by unfold encP; rw [hx, hn]; rfl)
  have hdiv : ((n : Int) + 7) / 8 = ((fill8 n : Nat) : Int) := by unfold fill8; omega
  rw [hx] at LV
  rw [hn] at LN
  clear hok hx hn
  generalize fill8 n = f at *
  have hlen := p.a.b.len
  have HLEN := Lib.hid hlen
  clear hlen
  go_enter Tryd.func58, Tryd.ntmps58
  go_wp2
  clear hW1
  go_loopw [3, 4] (fun o i wr => ∃ k : Nat, k ≤ f ∧ i = .int .i64 k ∧ Below W1.heap.size W1 wr ∧ wr.ownsRow W1.heap.size 5 1 o (2 + k) (([x, n] ++ p.a.b.l.take k).map byc)) (fun o i _ => f - (intOf i).toNat)
  case atStart => exact ⟨0, Nat.zero_le _, rfl, LE _ _ h0, by simpa using own_two W1 x n⟩
  case round =>
    obtain ⟨k, hk, rfl, hb, hown⟩ := hrel
    have hbs := hb.size
    by_cases hlt : k < f
    · have d1 : decide (k < f) = true := by simpa using hlt
      have hc := LC k (by omega)
      have hsnoc := take_more0 p.a.b.l k (by have := HLEN.out; omega)
      have HS := Lib.hid (show [x, n] ++ p.a.b.l.take (k + 1) = ([x, n] ++ p.a.b.l.take k) ++ [p.a.b.at k] by rw [hsnoc]; simp [B16.at])
      have hk16 : (k : Int) < 16 := by omega
      generalize p.a.b.at k = y at *
      clear hsnoc
      go_wp2_with (first | (at_builtin; refine wpList_append_own _ rfl _ _ 49 rfl W1.heap.size 5 i0 (.int .u8 0) 1 1 Tryd.underlying49 hi hz0 hz1 hz2 rfl (by decide) _ _ _ rfl (hown.alloc _) ⟨wr.heap.size, 0, none⟩ 1 1 [.int .u8 (y : Int)] rfl rfl ?c1 ?c2 ?c3 ?c4 ?c5 ?_))
      case c1 =>
        intro j u hj
        match j, hj with
        | 0, hj => simp at hj; subst hj; simp [Addr.add]
      case c2 => intro u hu; simp at hu; subst hu; rfl
      case c3 => unfold maxLen; omega
      case c4 => omega
      case c5 => simp; omega
      intro v' w1 hown' hgrow _
      have hb2 : Below W1.heap.size W1 w1 := (hb.alloc hbs _).grown hgrow (by simp; omega) (fun j hj => (hown.lt j hj).1)
      have hown3 : w1.ownsRow W1.heap.size 5 1 v' (2 + k + 1) (([x, n] ++ p.a.b.l.take (k + 1)).map byc) := by
        rw [HS.out]
        simpa [byc] using hown'
      have HX := Lib.hid (And.intro hb2 hown3)
      clear hown' hgrow hown hb2 hb hown3
      go_wp2
      go_roundw
      case rel => exact ⟨k + 1, by omega, by go_num, HX.out.1, HX.out.2⟩
      case measure => simp [intOf]; omega
    · obtain rfl : k = f := by omega
      have d1 : decide (k < k) = false := by simp
      go_wp2_with (first | fail)
      go_ret
      refine ⟨_, rfl, ?_, bel_trans HB.out hb⟩
      rw [← HE.out]
      unfold Gets
      rw [show ([x, n] ++ p.a.b.l.take k).length = 2 + k from by have := HLEN.out; simp; omega]
      exact pown_mono hown HB.out.size
end Go.Proofs.YtclkfmblogkakaaDoor
namespace Go.Proofs.YtclkfmblogkakaaDoor
open Go.RowKit Go.Shelf
set_option linter.unusedVariables false
attribute [local go_sem ↓] load_b16_rule store_b16_rule load_ad_rule store_ad_rule load_px_rule store_px_rule eq_b16_rule eq_ad_rule eq_px_rule build_ad_rule build_px_rule

theorem Wid.kept {w w' : World} {S : List Nat} (h : Wid w) (k : Kept S w w') (h0 : 0 ∉ S) : Wid w' := fun j hj => by
  have h1 := h j hj
  have h2 := cell_lt h1
  have h3 := k.block 0 h2 h0
  rw [← h1]
  unfold World.cell?
  rw [h3]
theorem offTo_some {len j n : Nat} (h : j + n ≤ len) : offTo len j 0 (n : Int) = (j + n, 0) := by
  unfold offTo
  rw [if_neg (by simp), if_neg (by omega), if_neg (by omega)]
  simp
theorem came_some {L : List Nat} {j n : Nat} (h : j + n ≤ L.length) : came L j 0 (n : Int) = (L.drop j).take n := by
  unfold came
  rw [if_neg (by simp), if_neg (by omega), if_neg (by omega)]
  simp
/-- Is there nothing to come off? -/
def dry (len j : Nat) (err : Int) (n : Nat) : Prop := err ≠ 0 ∨ len < j + n
def dryE (err : Int) : Int := if err = 0 then 7 else err
theorem dryE_ne (err : Int) : dryE err ≠ 0 := by unfold dryE; split <;> omega
theorem offTo_none {len j n : Nat} {err : Int} (hj : j ≤ len) (h : dry len j err n) : offTo len j err (n : Int) = (j, dryE err) := by
  unfold offTo dryE
  by_cases he : err = 0
  · rcases h with h | h
    · exact absurd he h
    · rw [if_neg (by simpa using he), if_neg (by omega), if_pos (by omega), if_pos he]
  · rw [if_pos he, if_neg he]
theorem came_none {L : List Nat} {j n : Nat} {err : Int} (hj : j ≤ L.length) (h : dry L.length j err n) : came L j err (n : Int) = [] := by
  unfold came
  by_cases he : err = 0
  · rcases h with h | h
    · exact absurd he h
    · rw [if_neg (by simpa using he), if_neg (by omega), if_pos (by omega)]
  · rw [if_pos he]
theorem one_more {L : List Nat} {j : Nat} (h : j < L.length) : (L.drop j).take 1 = [L.getD j 0] := by
  have := take_more L j 0 (by omega)
  simpa using this

theorem u8_came {L : List Nat} {j : Nat} (hB : Bys L) (h : j < L.length) : pile 0 (came L j 0 1) % 256 = L.getD j 0 := by
  rw [show (1 : Int) = ((1 : Nat) : Int) from rfl, came_some (n := 1) (by omega), one_more h]
  have := hB.at j
  simp only [pile, List.foldl_cons, List.foldl_nil]
  omega

end Go.Proofs.YtclkfmblogkakaaDoor
