/-
  slices.Insert of one row into rows that a call owns. Nothing here is a statement of the document.
-/
import Derived.Test.YtdbdmnahgkkjiaaDoorTbD
import Derived.Laws.CopyRow
import Derived.Laws.OwnMore
import Derived.Lib.AppendZerosOnto
import Derived.Lib.SliceRun
import Derived.Lib.Overlaps
import Derived.Deep.DeepCutAuto
namespace Go.Proofs.YtdbdmnahgkkjiaaDoor
open Go.RowKit Go.Shelf
set_option linter.unusedVariables false
set_option maxRecDepth 100000

def rtcs (L : List Rt) : List Value := L.flatMap (fun r => r.cs.toList)
theorem rtcs_nil : rtcs [] = [] := rfl
theorem rtcs_append (L M : List Rt) : rtcs (L ++ M) = rtcs L ++ rtcs M := by simp [rtcs]
theorem rtcs_one (r : Rt) : rtcs [r] = r.cs.toList := by simp [rtcs]
theorem rtcs_cons (r : Rt) (L : List Rt) : rtcs (r :: L) = r.cs.toList ++ rtcs L := by simp [rtcs]
theorem rtcs_len : ∀ L : List Rt, (rtcs L).length = L.length * 19
  | [] => rfl
  | r :: L => by rw [rtcs_cons, List.length_append, rtcs_len L]; simp [r.size]; omega
theorem rtcs_all (L : List Rt) : ∀ u ∈ rtcs L, u.oneCell' = true := fun u hu => by
  obtain ⟨r, _, h⟩ := List.mem_flatMap.1 hu
  exact Array.all_eq_true_iff_forall_mem.1 r.one u (by simpa using h)
theorem rtcs_get : ∀ (L : List Rt) {i j : Nat}, i < L.length → j < 19 → (rtcs L)[i * 19 + j]? = (rt L i).cs[j]?
  | [], i, j, h, _ => by simp at h
  | r :: L, 0, j, _, hj => by
    rw [rtcs_cons, Nat.zero_mul, Nat.zero_add, List.getElem?_append_left (by simp [r.size]; exact hj)]
    simp [rt]
  | r :: L, i + 1, j, h, hj => by
    rw [rtcs_cons, List.getElem?_append_right (by simp [r.size]; omega)]
    rw [show (i + 1) * 19 + j - r.cs.toList.length = i * 19 + j by simp [r.size]; omega, rtcs_get L (by simpa using h) hj]
    simp [rt]
theorem rtcs_take : ∀ (L : List Rt) (i : Nat), (rtcs L).take (i * 19) = rtcs (L.take i)
  | [], i => by simp [rtcs]
  | r :: L, 0 => by simp [rtcs]
  | r :: L, i + 1 => by
    rw [rtcs_cons, List.take_succ_cons, rtcs_cons, List.take_append, List.take_of_length_le (by simp [r.size]; omega)]
    rw [show (i + 1) * 19 - r.cs.toList.length = i * 19 by simp [r.size]; omega, rtcs_take L i]
theorem rtcs_drop : ∀ (L : List Rt) (i : Nat), (rtcs L).drop (i * 19) = rtcs (L.drop i)
  | [], i => by simp [rtcs]
  | r :: L, 0 => by simp [rtcs]
  | r :: L, i + 1 => by
    rw [rtcs_cons, List.drop_succ_cons, List.drop_append, List.drop_eq_nil_of_le (by simp [r.size]; omega), List.nil_append]
    rw [show (i + 1) * 19 - r.cs.toList.length = i * 19 by simp [r.size]; omega, rtcs_drop L i]
theorem row_cells (w : World) (g : Nat) (L : List Rt) (o : Nat) (hg : g < w.heap.size) (h : ∀ k u, (rtcs L)[k]? = some u → w.cell? ⟨g, o + k, none⟩ = some u) : Rws w g o L := by
  refine ⟨hg, fun i hi j hj => ?_⟩
  have h1 := rtcs_get L hi hj
  have h2 : j < (rt L i).cs.size := by rw [Rt.size]; exact hj
  rw [Array.getElem?_eq_getElem h2] at h1 ⊢
  rw [Nat.add_assoc]
  exact h _ _ h1
theorem Rws.cells {w : World} {g o : Nat} {L : List Rt} (h : Rws w g o L) : ∀ k u, (rtcs L)[k]? = some u → w.cell? ⟨g, o + k, none⟩ = some u := by
  intro k u hk
  have hl : k < L.length * 19 := by rw [← rtcs_len]; exact (List.getElem?_eq_some_iff.1 hk).1
  have e := rtcs_get L (i := k / 19) (j := k % 19) (by omega) (by omega)
  rw [show k / 19 * 19 + k % 19 = k by omega] at e
  have h1 := h.row (k / 19) (by omega) (k % 19) (by omega)
  rw [← e, hk, Nat.add_assoc, show k / 19 * 19 + k % 19 = k by omega] at h1
  exact h1

/-- Rows that a call owns, from block B on. -/
abbrev OwnT (w : World) (B : Nat) (v : Value) (L : List Rt) : Prop := w.ownsRow B 48 19 v L.length (rtcs L)
theorem OwnT.lies {w : World} {B : Nat} {v : Value} {L : List Rt} (h : OwnT w B v L) : ∃ a c, v = .slice a L.length c ∧ L.length ≤ c ∧ c ≤ maxLen ∧ RowsAt w a L ∧ ∀ x, a = some x → B ≤ x.block := by
  rcases h.2 with ⟨rfl, h0⟩ | ⟨g, cap, cur, rfl, hb, hg, hc, hm, hs, ht⟩
  · have : L = [] := List.eq_nil_of_length_eq_zero h0
    subst this
    exact ⟨none, 0, rfl, by simp, by unfold maxLen; omega, .inl rfl, fun x hx => by cases hx⟩
  · refine ⟨_, cap, rfl, hc, hm, .inr ⟨g, 0, rfl, row_cells w g L 0 (Array.getElem?_eq_some_iff.1 hg).1 fun k u hk => ?_⟩, fun x hx => by cases hx; exact hb⟩
    rw [Nat.zero_add, cell_of_row w g k cur _ _ hg, ← Array.getElem?_toList]
    have hl : k < L.length * 19 := by rw [← rtcs_len]; exact (List.getElem?_eq_some_iff.1 hk).1
    rw [← ht, List.getElem?_take, if_pos hl] at hk
    exact hk
theorem info_rt : (Tryd.prog.info? 48).map (fun i => (i.zero, i.size, i.bytes)) = some (some (.agg Rt.zero.cs), 19, 40) := by kernel_rfl

/-! ### Nothing built, appended to -/
def tbuildSem (n : Nat) (parts : Array (Nat × Value)) : Sem Value := Instr.buildSlice 22 n parts
theorem tbuild_rule (n : Nat) (parts : Array (Nat × Value)) : Instr.buildSlice 22 n parts = tbuildSem n parts := rfl
theorem tbuild0_run (w : World) : (tbuildSem 0 #[]).run Tryd.prog w = .ok (.slice (some ⟨w.heap.size, 0, none⟩) 0 0) (w.alloc (.cells #[] 48)) := by
  have hu := run_underlying (P := Tryd.prog) Tryd.underlying22 w
  have hz := (zero_of_info z_rt).1 w
  unfold tbuildSem Instr.buildSlice
  simp only [Sem.run_bind, hu, Result.andThen_ok]
  go_simp
def tappSem (ty : TypeId) (args : Array Value) : Sem Value := Builtin.append_ #[22, 22] ty args
theorem tapp_rule (ty : TypeId) (args : Array Value) : Builtin.append_ #[22, 22] ty args = tappSem ty args := rfl
theorem own0 (w : World) (B : Nat) (hB : B ≤ w.heap.size) : OwnT (w.alloc (.cells #[] 48)) B (.slice (some ⟨w.heap.size, 0, none⟩) 0 0) [] :=
  ⟨rfl, .inr ⟨_, 0, #[], rfl, hB, heap_alloc_new w _, Nat.le_refl _, by simp, rfl, rfl⟩⟩
/-- Rows that lie anywhere are appended to rows that a call owns. -/
theorem tapp_run {w : World} (ty : TypeId) {B : Nat} {v : Value} {L M : List Rt} {x : Addr} {m c : Nat} (h : OwnT w B v L) (hm : M.length = m) (hM : RowsAt w (some x) M) (hs : L.length + m ≤ 1000000) (hB : B ≤ w.heap.size) :
    ∃ v' w', (tappSem ty #[v, .slice (some x) m c]).run Tryd.prog w = .ok v' w' ∧ OwnT w' B v' (L ++ M) ∧ w.grownBy w' v.ownBlock ∧ (v' = .slice none 0 0 ↔ v = .slice none 0 0 ∧ m = 0) := by
  obtain ⟨i0, hi, hz0, hz1, hz2⟩ := info_parts info_rt
  have hsrc : ∀ j u, (rtcs M)[j]? = some u → w.cell? (x.add j) = some u := by
    intro j u hj
    rcases hM with rfl | ⟨g, o, e, hr⟩
    · simp [rtcs] at hj
    · cases e
      rw [Addr.add_lit]
      exact hr.cells j u hj
  obtain ⟨v', w', h1, h2, h3, h4⟩ := run_append_own (P := Tryd.prog) w B 22 ty 48 i0 (.agg Rt.zero.cs) 19 40 Tryd.underlying22 hi hz0 hz1 hz2 (Rt.size _) (by decide) v L.length (rtcs L) h x m c (rtcs M) (by rw [rtcs_len, hm]) hsrc (rtcs_all M) (by unfold maxLen; omega) (by omega) hB
  refine ⟨v', w', h1, ?_, h3, h4⟩
  show w'.ownsRow B _ 19 v' (L ++ M).length (rtcs (L ++ M))
  rw [List.length_append, hm, rtcs_append]
  exact h2

/-! ### Rows copied into a block -/
def layC (o : Nat) (vs cur : List Value) : List Value := cur.take o ++ vs ++ cur.drop (o + vs.length)
def tcopySem (ty : TypeId) (args : Array Value) : Sem Value := Builtin.copy_ #[22, 22] ty args
theorem tcopy_rule (ty : TypeId) (args : Array Value) : Builtin.copy_ #[22, 22] ty args = tcopySem ty args := rfl
theorem tcopy_run {w : World} {g o : Nat} {a : Addr} {cur : Array Value} {cs : List Value} {n dl sl : Nat} (ty : TypeId) (dc sc : Nat) (hg : Blk w g 48 cur) (hn : Nat.min sl dl = n) (hcs : cs.length = n * 19) (hcur : o + n * 19 ≤ cur.size)
    (hsrc : ∀ j v, cs[j]? = some v → w.cell? (a.add j) = some v) (hone : ∀ v ∈ cs, v.oneCell' = true) :
    (tcopySem ty #[.slice (some ⟨g, o, none⟩) dl dc, .slice (some a) sl sc]).run Tryd.prog w = .ok (.int .i64 (n : Int)) (w.setRow g (layC o cs cur.toList).toArray) := by
  have hl := run_loadCells_list (P := Tryd.prog) w a cs hsrc
  have hst := run_storeCells_at Tryd.prog g o 48 cs 0 cur w hg (by omega) hone
  obtain ⟨i0, hi, hz0, hz1, hz2⟩ := info_parts info_rt
  rw [hcs] at hl
  rw [Nat.add_zero] at hst
  unfold tcopySem layC
  simp [Builtin.copy_, run_underlying Tryd.underlying22, Builtin.lenOf, Builtin.firstCells, sizeOf, typeInfo, hi, hz1, hn, hl, hst]
  rfl

theorem eql_nil_rt (a : Option Addr) (l c : Nat) (w : World) : (binOp .eql 22 (.slice a l c) (.slice none 0 0)).run Tryd.prog w = .ok (.bool a.isNone) w :=
  Lib.run_eql_slice_nil w _ _ a l c 0 0 Tryd.underlying22
attribute [local go_sem ↓] tbuild_rule tapp_rule tcopy_rule
set_option maxHeartbeats 1000000 in
theorem tclone_any (a : Option Addr) (n c : Nat) (L : List Rt) (w : World) (hn : L.length = n) (hs : n ≤ 1000) (hR : RowsAt w a L) (h0 : a = none → c = 0) :
    Calls Tryd.prog 39 #[.slice a n c] w fun e w' => ∃ v, e = .returned v ∧ OwnT w' w.heap.size v L ∧ Below w.heap.size w w' := by
  cases a with
  | none =>
    obtain rfl : L = [] := by
      rcases hR with h | ⟨g, o, h, _⟩
      · exact h
      · cases h
    obtain rfl := h0 rfl
    obtain rfl : n = 0 := hn.symm
    have hq := fun w => eql_nil_rt none 0 0 w
    simp only [Option.isNone_none] at hq
    go_enter Tryd.func39, Tryd.ntmps39
    go_wp2
    go_ret
    exact ⟨_, rfl, World.ownsRow_nil _ _ _ _, Below.refl _ _⟩
  | some x =>
    have hq := fun w => eql_nil_rt (some x) n c w
    simp only [Option.isNone_some] at hq
    have hb1 : Below w.heap.size w (w.alloc (.cells #[] 48)) := (Below.refl _ _).alloc (Nat.le_refl _) _
    obtain ⟨v', w', hrun, hown, hgr, _⟩ := tapp_run (c := c) 22 (own0 w w.heap.size (Nat.le_refl _)) hn (hR.later hb1) (by simp; omega) (by simp)
    have hbs := fun w => tbuild0_run w
    have HE := Lib.hid (And.intro hown (hb1.grown hgr (by simp) (fun k hk => by cases hk; exact Nat.le_refl _)))
    clear hown hgr hb1 hR
    go_enter Tryd.func39, Tryd.ntmps39
    go_wp2
    go_ret
    exact ⟨_, rfl, by simpa using HE.out.1, HE.out.2⟩
end Go.Proofs.YtdbdmnahgkkjiaaDoor
namespace Go.Proofs.YtdbdmnahgkkjiaaDoor
open Go.RowKit Go.Shelf
set_option linter.unusedVariables false
set_option maxRecDepth 100000

theorem layC_len {o : Nat} {vs cur : List Value} (h : o + vs.length ≤ cur.length) : (layC o vs cur).length = cur.length := by
  unfold layC
  simp
  omega
theorem layC_get {o : Nat} {vs cur : List Value} (h : o + vs.length ≤ cur.length) (k : Nat) : (layC o vs cur)[k]? = if k < o then cur[k]? else if k < o + vs.length then vs[k - o]? else cur[k]? := by
  unfold layC
  by_cases h1 : k < o
  · rw [if_pos h1, List.append_assoc, List.getElem?_append_left (by simp; omega), List.getElem?_take, if_pos h1]
  · rw [if_neg h1]
    by_cases h2 : k < o + vs.length
    · rw [if_pos h2, List.append_assoc, List.getElem?_append_right (by simp; omega)]
      have e : (cur.take o).length = o := by simp; omega
      rw [e, List.getElem?_append_left (by omega)]
    · rw [if_neg h2, List.getElem?_append_right (by simp; omega)]
      have e : (cur.take o ++ vs).length = o + vs.length := by simp; omega
      rw [e, List.getElem?_drop]
      congr 1
      omega
theorem ins_cells {cur xs X D : List Value} {n i : Nat} (hi : i ≤ n) (hX : X.length = 19) (hD : D.length = (n - i) * 19) (hc : (n + 1) * 19 ≤ cur.length) (hxs : cur.take (i * 19) = xs) (cur2 : List Value)
    (h2 : cur2.length = cur.length) (hg : ∀ k, k < (n + 1) * 19 → cur2[k]? = if k < i * 19 then cur[k]? else if k < (i + 1) * 19 then X[k - i * 19]? else D[k - (i + 1) * 19]?) : cur2.take ((n + 1) * 19) = xs ++ X ++ D := by
  have hxl : xs.length = i * 19 := by rw [← hxs]; simp; omega
  apply List.ext_getElem?
  intro k
  by_cases hk : k < (n + 1) * 19
  · rw [List.getElem?_take, if_pos hk, hg k hk]
    by_cases h3 : k < i * 19
    · rw [if_pos h3, List.append_assoc, List.getElem?_append_left (by omega), ← hxs, List.getElem?_take, if_pos h3]
    · rw [if_neg h3]
      by_cases h4 : k < (i + 1) * 19
      · rw [if_pos h4, List.append_assoc, List.getElem?_append_right (by omega), hxl, List.getElem?_append_left (by omega)]
      · rw [if_neg h4, List.getElem?_append_right (by simp [hxl, hX]; omega)]
        congr 1
        simp [hxl, hX]
        omega
  · rw [List.getElem?_eq_none (by simp; omega), List.getElem?_eq_none (by simp [hxl, hX, hD]; omega)]
theorem own_of {w : World} {B g cap : Nat} {cur : List Value} {L : List Rt} (hb : B ≤ g) (hg : Blk w g 48 cur.toArray) (hn : L.length ≤ cap) (hm : cap ≤ maxLen) (hs : cur.length = cap * 19) (ht : cur.take (L.length * 19) = rtcs L) : OwnT w B (.slice (some ⟨g, 0, none⟩) L.length cap) L :=
  ⟨rtcs_len L, .inr ⟨g, cap, cur.toArray, rfl, hb, hg, hn, hm, by simpa using hs, by simpa using ht⟩⟩
def insL (L : List Rt) (i : Nat) (x : Rt) : List Rt := L.take i ++ x :: L.drop i
theorem insL_len {L : List Rt} {i : Nat} (h : i ≤ L.length) (x : Rt) : (insL L i x).length = L.length + 1 := by simp [insL]; omega
theorem insL_cells (L : List Rt) (i : Nat) (x : Rt) : rtcs (insL L i x) = rtcs (L.take i) ++ x.cs.toList ++ rtcs (L.drop i) := by rw [insL, rtcs_append, rtcs_cons, List.append_assoc]
theorem insL_end {L : List Rt} {x : Rt} : insL L L.length x = L ++ [x] := by simp [insL]

attribute [local go_sem ↓] tbuild_rule tapp_rule tcopy_rule
set_option maxHeartbeats 2000000 in
theorem insert_end {w : World} {B q : Nat} {v : Value} {L : List Rt} (h : OwnT w B v L) (x : Rt) (hq : Blk w q 48 x.cs) (hs : L.length ≤ 100) (hB : B ≤ w.heap.size) :
    Calls Tryd.prog 43 #[v, .int .i64 (L.length : Int), .slice (some ⟨q, 0, none⟩) 1 1] w fun e w' => ∃ v', e = .returned v' ∧ OwnT w' B v' (insL L L.length x) ∧ Below B w w' := by
  have hM : RowsAt w (some ⟨q, 0, none⟩) [x] := .inr ⟨q, 0, rfl, row_cells w q [x] 0 hq.lt (fun k u hk => by rw [Nat.zero_add, hq.cell]; simpa [rtcs] using hk)⟩
  obtain ⟨v', w', hrun, hown, hgr, _⟩ := tapp_run (c := 1) 22 h (m := 1) rfl hM (by omega) hB
  have hbel : Below B w w' := (Below.refl B w).grown hgr hB (fun k hk => (h.lt k hk).1)
  have HE := Lib.hid (And.intro hown hbel)
  obtain ⟨a, c, rfl, hnc, hcm, _, _⟩ := h.lies
  have HC := Lib.hid (And.intro hnc hcm)
  have hsm := Lib.hid hs
  obtain ⟨n, hn⟩ : ∃ n, L.length = n := ⟨_, rfl⟩
  rw [hn] at hrun HC hsm ⊢
  have hnc := HC.out.1
  have d1 : ¬ ((c : Int) < (n : Int)) := by omega
  clear hown hgr hbel h hM hq
  go_enter Tryd.func43, Tryd.ntmps43
  go_wp2
  all_goals go_ret
  all_goals exact ⟨v', rfl, by rw [← hn, insL_end]; exact HE.out.1, HE.out.2⟩

theorem wrap_next {n : Nat} (h : n ≤ 1000000) : wrap64 ((n : Int) + 1) = (n : Int) + 1 := by unfold wrap64; omega
theorem wrap_nat {n : Nat} (h : n ≤ 1000000) : wrap64 (n : Int) = (n : Int) := by unfold wrap64; omega
theorem sizeof_rt (w : World) : (Go.sizeOf 48).run Tryd.prog w = .ok 19 w := by kernel_rfl
/-- What lies ahead, the row, what lay from there on. -/
theorem own_cells {w : World} {g : Nat} {L : List Rt} {cur : Array Value} (hg : Blk w g 48 cur) (ht : cur.toList.take (L.length * 19) = rtcs L) : ∀ j u, (rtcs L)[j]? = some u → w.cell? ⟨g, j, none⟩ = some u := fun j u hj => by
  rw [hg.cell, ← Array.getElem?_toList]
  have hl : j < L.length * 19 := by rw [← rtcs_len]; exact (List.getElem?_eq_some_iff.1 hj).1
  rw [← ht, List.getElem?_take, if_pos hl] at hj
  exact hj
set_option maxHeartbeats 4000000 in
theorem insert_shift {w : World} {B q g c i : Nat} {L : List Rt} {cur : Array Value} (hb : B ≤ g) (hg : Blk w g 48 cur) (hcs : cur.size = c * 19) (ht : cur.toList.take (L.length * 19) = rtcs L) (hi : i < L.length) (hc : L.length < c) (hm : c ≤ maxLen) (x : Rt) (hq : Blk w q 48 x.cs) (hqg : q ≠ g) (hs : L.length ≤ 100) (hB : B ≤ w.heap.size) :
    Calls Tryd.prog 43 #[.slice (some ⟨g, 0, none⟩) L.length c, .int .i64 (i : Int), .slice (some ⟨q, 0, none⟩) 1 1] w fun e w' => ∃ v', e = .returned v' ∧ OwnT w' B v' (insL L i x) ∧ Below B w w' := by
  obtain ⟨n, hn⟩ : ∃ n, L.length = n := ⟨_, rfl⟩
  have hcells := own_cells hg ht
  have hdl : (rtcs (L.drop i)).length = (n - i) * 19 := by rw [rtcs_len, List.length_drop, hn]
  -- first what stands from there on goes one place to the right
  have hcp1 : ∀ (ty : TypeId) (dc sc : Nat), (tcopySem ty #[.slice (some ⟨g, (i + 1) * 19, none⟩) (n - i) dc, .slice (some ⟨g, i * 19, none⟩) (n + 1 - i) sc]).run Tryd.prog w.drew = .ok (.int .i64 ((n - i : Nat) : Int)) (w.drew.setRow g (layC ((i + 1) * 19) (rtcs (L.drop i)) cur.toList).toArray) := fun ty dc sc =>
    tcopy_run (w := w.drew) (n := n - i) ty dc sc hg (by simp only [Nat.min_def]; split <;> omega) hdl (by rw [hcs]; omega) (fun j v hj => by
      rw [Addr.add_lit]
      rw [← rtcs_drop, List.getElem?_drop] at hj
      exact hcells _ _ hj) (rtcs_all _)
  obtain ⟨W1, hW1⟩ : ∃ W1, w.drew.setRow g (layC ((i + 1) * 19) (rtcs (L.drop i)) cur.toList).toArray = W1 := ⟨_, rfl⟩
  have hl1 : (layC ((i + 1) * 19) (rtcs (L.drop i)) cur.toList).length = cur.size := by rw [layC_len]; simp; rw [hdl]; simp [hcs]; omega
  have b1 : Blk W1 g 48 (layC ((i + 1) * 19) (rtcs (L.drop i)) cur.toList).toArray := by rw [← hW1]; exact Blk.row (w := w.drew) hg _
  have q1 : Blk W1 q 48 x.cs := by rw [← hW1]; exact (setRow_other w.drew g q _ hqg).trans hq
  have hcp2 : ∀ (ty : TypeId) (dc sc : Nat), (tcopySem ty #[.slice (some ⟨g, i * 19, none⟩) (n + 1 - i) dc, .slice (some ⟨q, 0, none⟩) 1 sc]).run Tryd.prog W1 = .ok (.int .i64 ((1 : Nat) : Int)) (W1.setRow g (layC (i * 19) x.cs.toList (layC ((i + 1) * 19) (rtcs (L.drop i)) cur.toList)).toArray) := fun ty dc sc =>
    tcopy_run (n := 1) (cs := x.cs.toList) ty dc sc b1 (by simp only [Nat.min_def]; split <;> omega) (by simp [x.size]) (show i * 19 + 1 * 19 ≤ (layC ((i + 1) * 19) (rtcs (L.drop i)) cur.toList).toArray.size by rw [List.size_toArray, hl1, hcs]; omega) (fun j v hj => by
      rw [Addr.add_lit, Nat.zero_add, q1.cell]; simpa using hj) (fun u hu => Array.all_eq_true_iff_forall_mem.1 x.one u (by simpa using hu))
  obtain ⟨W2, hW2⟩ : ∃ W2, W1.setRow g (layC (i * 19) x.cs.toList (layC ((i + 1) * 19) (rtcs (L.drop i)) cur.toList)).toArray = W2 := ⟨_, rfl⟩
  have hl2 : (layC (i * 19) x.cs.toList (layC ((i + 1) * 19) (rtcs (L.drop i)) cur.toList)).length = cur.size := by rw [layC_len, hl1]; simp [x.size, hl1, hcs]; omega
  have b2 : Blk W2 g 48 (layC (i * 19) x.cs.toList (layC ((i + 1) * 19) (rtcs (L.drop i)) cur.toList)).toArray := by rw [← hW2]; exact b1.row _
  have hown : OwnT W2 B (.slice (some ⟨g, 0, none⟩) (n + 1) c) (insL L i x) := by
    have hil := insL_len (Nat.le_of_lt hi) x
    rw [hn] at hil
    rw [← hil]
    refine own_of hb b2 (by omega) hm (by rw [hl2, hcs]) ?_
    rw [hil, insL_cells]
    refine ins_cells (cur := cur.toList) (i := i) (by omega) (by simp [x.size]) hdl (by simp [hcs]; omega) ?_ _ (by rw [hl2]; simp) (fun k hk => ?_)
    · rw [← rtcs_take, ← ht, List.take_take]; congr 1; omega
    · rw [layC_get (by rw [hl1]; simp [x.size, hcs]; omega), layC_get (by rw [hdl]; simp [hcs]; omega)]
      have e19 : x.cs.toList.length = 19 := by simp [x.size]
      rw [e19, hdl]
      by_cases h1 : k < i * 19
      · rw [if_pos h1, if_pos h1, if_pos (by omega)]
      · rw [if_neg h1, if_neg h1]
        by_cases h2 : k < (i + 1) * 19
        · rw [if_pos (by omega), if_pos h2]
        · rw [if_neg (by omega), if_neg h2, if_neg h2, if_pos (by omega)]
  have hbel : Below B w W2 := by
    rw [← hW2, ← hW1]
    have k1 : Below B w w.drew := ⟨rfl, rfl, rfl, Nat.le_refl _, fun _ _ => rfl⟩
    exact below_setRow (below_setRow k1 hb _) hb _
  have hfr : ∀ o, w.frozen? ⟨q, o, none⟩ = false := hq.free
  have hov : ∀ lb cb, (callFunc 62 #[.slice (some ⟨q, 0, none⟩) 1 1, .slice (some ⟨g, (i + 1) * 19, none⟩) lb cb]).run Tryd.prog w = .ok (.value (.bool false)) w := fun lb cb => by
    rw [run_callFunc_extern Tryd.func62 (by kernel_rfl) (by kernel_rfl) (by kernel_rfl) (e := Extern.SlicesOverlaps.overlaps #[22, 22] #[4]) (by kernel_rfl),
      Lib.run_overlaps_apart w 22 4 48 Tryd.underlying22 19 sizeof_rt ⟨q, 0, none⟩ ⟨g, (i + 1) * 19, none⟩ 1 1 lb cb hqg 48 48 x.cs.size cur.size (by simp [World.shape?, show w.heap[q]? = _ from hq]) (by simp [World.shape?, show w.heap[g]? = _ from hg]) (by omega) (hfr 0) (hfr _)]
    rfl
  have HE := Lib.hid (And.intro hown hbel)
  have hin : i < n := by omega
  have hin2 : i ≤ n := by omega
  have hb1 : (0 : Int) ≤ (i : Int) + 1 := by omega
  have hb3 : (i : Int) ≤ (n : Int) + 1 := by omega
  have hb6 : i ≤ n + 1 := by omega
  have hic : n < c := by omega
  have hz2 : ¬ ((i : Int) = (n : Int)) := by omega
  have hz3 : ¬ ((c : Int) < (n : Int) + 1) := by omega
  have hb2 : ¬ (c = i + 1) := by omega
  have hb4 : ¬ (c = i) := by omega
  have hb5 : (n : Int) + 1 ≤ (c : Int) := by omega
  have e1 : ((i : Int) + 1).toNat = i + 1 := by omega
  have e2 : ((n : Int) + 1).toNat = n + 1 := by omega
  have hm63 : c ≤ 9223372036854775807 := by unfold maxLen at hm; omega
  have hi6 : i ≤ 1000000 := by omega
  have hn6 : n ≤ 1000000 := by omega
  have w1 : wrap64 ((i : Int) + 1) = (i : Int) + 1 := wrap_next hi6
  have w2 : wrap64 ((n : Int) + 1) = (n : Int) + 1 := wrap_next hn6
  clear hi6 hn6
  rw [hn]
  clear hown hbel b1 b2 q1 hl1 hl2 hdl hcells hg hq hcs ht hi hc hm hfr hs hB hb
  go_enter Tryd.func43, Tryd.ntmps43
  go_wp2_with (simp only [hov])
  refine wp_region_linX (fun _ => True) [8] [0, 1, 2, 3, 4, 5, 6, 7, 8] (by kernel_rfl) (by kernel_rfl) trivial ?_
  (repeat (first | (refine linX_off rfl rfl (by rfl) ?_; (try simp only [Act.put, List.getElem_toArray, List.getElem_cons_zero, List.getElem_cons_succ, List.setIfInBounds_toArray, List.set_cons_zero, List.set_cons_succ])) | (refine linX_op (v := ?_) rfl rfl (by rfl) (fun w9 hS9 => ?_) ?_; rotate_left; (focus (((try dsimp only at hS9); go_simp; (try go_bits)) <;> with_reducible rfl)); (try simp only [Act.put, List.getElem_toArray, List.getElem_cons_zero, List.getElem_cons_succ, List.setIfInBounds_toArray, List.set_cons_zero, List.set_cons_succ])) ))
  refine linX_do (v := .int .i64 ((n - i : Nat) : Int)) (w' := W1) rfl rfl (by rfl) ?_ trivial ?_; (focus (go_simp; done))
  (try simp only [Act.put, List.getElem_toArray, List.getElem_cons_zero, List.getElem_cons_succ, List.setIfInBounds_toArray, List.set_cons_zero, List.set_cons_succ])
  refine linX_nil ?_
  go_wp2
  go_ret
  exact ⟨_, rfl, HE.out.1, HE.out.2⟩

def tapzSem (ty : TypeId) (args : Array Value) : Sem Value := Builtin.append_ #[22, 3] ty args
theorem tapz_rule (ty : TypeId) (args : Array Value) : Builtin.append_ #[22, 3] ty args = tapzSem ty args := rfl
attribute [local go_sem ↓] tapz_rule
set_option maxHeartbeats 4000000 in
theorem grow_walk {w W1 W2 W3 : World} {q g c i n m G N : Nat} (hin : i < n) (hin2 : i ≤ n) (hb3 : (i : Int) ≤ (n : Int) + 1) (hb6 : i ≤ n + 1) (hz2 : ¬ ((i : Int) = (n : Int))) (hb1 : (0 : Int) ≤ (i : Int) + 1) (e1 : ((i : Int) + 1).toNat = i + 1) (e2 : ((n : Int) + 1).toNat = n + 1) (w1 : wrap64 ((i : Int) + 1) = (i : Int) + 1) (w2 : wrap64 ((n : Int) + 1) = (n : Int) + 1) (hm63 : c ≤ 9223372036854775807) (hb4 : ¬ (c = i))
    (hz3 : (c : Int) < (n : Int) + 1) (hnc2 : n ≤ c) (hic : i ≤ c) (e3 : (n : Int) + 1 - (i : Int) = (m : Int)) (w3 : wrap64 (m : Int) = (m : Int)) (hap : ∀ ty : TypeId, (tapzSem ty #[.slice (some ⟨g, 0, none⟩) i c, .int .i64 (m : Int)]).run Tryd.prog w = .ok (.slice (some ⟨N, 0, none⟩) (n + 1) G) W1) (hGi : ¬ (G = i)) (hGj : ¬ (G = i + 1)) (hG63 : G ≤ 9223372036854775807)
    (hcp1 : ∀ (ty : TypeId) (dc sc : Nat), (tcopySem ty #[.slice (some ⟨N, i * 19, none⟩) (n + 1 - i) dc, .slice (some ⟨q, 0, none⟩) 1 sc]).run Tryd.prog W1 = .ok (.int .i64 ((1 : Nat) : Int)) W2)
    (hcp2 : ∀ (ty : TypeId) (dc sc : Nat), (tcopySem ty #[.slice (some ⟨N, (i + 1) * 19, none⟩) (n - i) dc, .slice (some ⟨g, i * 19, none⟩) (n - i) sc]).run Tryd.prog W2.drew = .ok (.int .i64 ((n - i : Nat) : Int)) W3) :
    Calls Tryd.prog 43 #[.slice (some ⟨g, 0, none⟩) n c, .int .i64 (i : Int), .slice (some ⟨q, 0, none⟩) 1 1] w fun e w' => e = .returned (.slice (some ⟨N, 0, none⟩) (n + 1) G) ∧ w' = W3 := by
  go_enter Tryd.func43, Tryd.ntmps43
  go_wp2_with fail
  refine wp_region_linX (fun _ => True) [8] [0, 1, 2, 3, 4, 5, 6, 7, 8] (by kernel_rfl) (by kernel_rfl) trivial ?_
  (repeat (first | (refine linX_off rfl rfl (by rfl) ?_; (try simp only [Act.put, List.getElem_toArray, List.getElem_cons_zero, List.getElem_cons_succ, List.setIfInBounds_toArray, List.set_cons_zero, List.set_cons_succ])) | (refine linX_op (v := ?_) rfl rfl (by rfl) (fun w9 hS9 => ?_) ?_; rotate_left; (focus (((try dsimp only at hS9); go_simp; (try go_bits)) <;> with_reducible rfl)); (try simp only [Act.put, List.getElem_toArray, List.getElem_cons_zero, List.getElem_cons_succ, List.setIfInBounds_toArray, List.set_cons_zero, List.set_cons_succ])) ))
  refine linX_do (v := .int .i64 ((n - i : Nat) : Int)) (w' := W3) rfl rfl (by rfl) ?_ trivial ?_; (focus (go_simp; done))
  (try simp only [Act.put, List.getElem_toArray, List.getElem_cons_zero, List.getElem_cons_succ, List.setIfInBounds_toArray, List.set_cons_zero, List.set_cons_succ])
  refine linX_nil ?_
  clear hcp2 hcp1 hap
  go_wp2
  go_ret
  exact ⟨rfl, rfl⟩
set_option maxHeartbeats 4000000 in
theorem insert_grow {w : World} {B q g c i : Nat} {L : List Rt} {cur : Array Value} (hb : B ≤ g) (hg : Blk w g 48 cur) (hcs : cur.size = L.length * 19) (ht : cur.toList.take (L.length * 19) = rtcs L) (hi : i < L.length) (hcl : c = L.length) (x : Rt) (hq : Blk w q 48 x.cs) (hs : L.length ≤ 100) (hB : B ≤ w.heap.size) :
    Calls Tryd.prog 43 #[.slice (some ⟨g, 0, none⟩) L.length c, .int .i64 (i : Int), .slice (some ⟨q, 0, none⟩) 1 1] w fun e w' => ∃ v', e = .returned v' ∧ OwnT w' B v' (insL L i x) ∧ Below B w w' := by
  obtain ⟨n, hn⟩ : ∃ n, L.length = n := ⟨_, rfl⟩
  have hcells := own_cells hg ht
  have hcn : c = n := by omega
  have hdl : (rtcs (L.drop i)).length = (n - i) * 19 := by rw [rtcs_len, List.length_drop, hn]
  have htl : (rtcs (L.take i)).length = i * 19 := by rw [rtcs_len, List.length_take, hn]; congr 1; omega
  obtain ⟨i0, hi0, hz0, hz1, hz2⟩ := info_parts info_rt
  have hold : (Builtin.firstCells i0.size i (.slice (some ⟨g, 0, none⟩) i n)).run Tryd.prog w.drew = .ok (rtcs (L.take i)).toArray w.drew := by
    rw [hz1]
    exact run_firstCells_some w.drew 19 i ⟨g, 0, none⟩ i n (rtcs (L.take i)) htl (fun j v hj => by
      rw [Addr.add_lit, Nat.zero_add]
      rw [← rtcs_take, List.getElem?_take] at hj
      split at hj
      · exact hcells _ _ hj
      · cases hj)
  obtain ⟨G, hG⟩ : ∃ G, grownCap w (n + 1) n 48 = G := ⟨_, rfl⟩
  obtain ⟨ROW, hROW⟩ : ∃ ROW : Array Value, (rtcs (L.take i)).toArray ++ Builtin.zeroCells (Value.agg Rt.zero.cs).cells (n + 1 - i) ++ Builtin.zeroCells (Value.agg Rt.zero.cs).cells (G - (n + 1)) = ROW := ⟨_, rfl⟩
  have hGn : n + 1 ≤ G := by rw [← hG]; exact grownCap_ge w _ _ _
  have hGm : G ≤ maxLen := by rw [← hG]; exact grownCap_le_maxLen w (n + 1) n _ (by unfold maxLen; omega)
  obtain ⟨W1, hW1⟩ : ∃ W1, w.drew.alloc (.cells ROW 48) = W1 := ⟨_, rfl⟩
  have hap : ∀ (ty : TypeId), (tapzSem ty #[.slice (some ⟨g, 0, none⟩) i c, .int .i64 ((n + 1 - i : Nat) : Int)]).run Tryd.prog w = .ok (.slice (some ⟨w.heap.size, 0, none⟩) (n + 1) G) W1 := fun ty => by
    rw [hcn]
    have h := Lib.run_append_grow_zeros w 22 3 ty 48 i0 _ .i64 .i64 Tryd.underlying22 Tryd.underlying3 hi0 hz0 (some ⟨g, 0, none⟩) i n (rtcs (L.take i)) hold (n + 1 - i) (by omega) (by omega) (by omega) (by omega) (by rw [hz2]; omega) (by rw [hz2, show i + (n + 1 - i) = n + 1 by omega]; exact growslice_fits (by omega) (by omega))
    rw [show i + (n + 1 - i) = n + 1 by omega, hG, hROW, hW1] at h
    exact h
  have hzc : ∀ k, (Builtin.zeroCells (Value.agg Rt.zero.cs).cells k).size = k * 19 := fun k => by simp [Builtin.zeroCells, Value.cells, Rt.size]
  have hRs : ROW.size = G * 19 := by rw [← hROW, Array.size_append, Array.size_append, hzc, hzc, List.size_toArray, htl]; omega
  have hRt : ROW.toList.take (i * 19) = rtcs (L.take i) := by
    rw [← hROW]
    simp only [Array.toList_append, List.append_assoc]
    rw [List.take_append_of_le_length (by simp [htl]), List.take_of_length_le (by simp [htl])]
  have b1 : Blk W1 w.heap.size 48 ROW := by rw [← hW1]; exact Blk.new w.drew _ _
  have k01 : Below w.heap.size w W1 := by
    rw [← hW1]
    exact (show Below w.heap.size w w.drew from ⟨rfl, rfl, rfl, Nat.le_refl _, fun _ _ => rfl⟩).alloc (Nat.le_refl _) _
  have q1 : Blk W1 q 48 x.cs := hq.later k01
  have g1 : Blk W1 g 48 cur := hg.later k01
  have e19 : x.cs.toList.length = 19 := by simp [x.size]
  have hcp1 : ∀ (W : World), W.heap = W1.heap → ∀ (ty : TypeId) (dc sc : Nat), (tcopySem ty #[.slice (some ⟨w.heap.size, i * 19, none⟩) (n + 1 - i) dc, .slice (some ⟨q, 0, none⟩) 1 sc]).run Tryd.prog W = .ok (.int .i64 ((1 : Nat) : Int)) (W.setRow w.heap.size (layC (i * 19) x.cs.toList ROW.toList).toArray) := fun W hWh ty dc sc =>
    tcopy_run (n := 1) (cs := x.cs.toList) ty dc sc (show W.heap[w.heap.size]? = _ by rw [hWh]; exact b1) (by simp only [Nat.min_def]; split <;> omega) (by simp [x.size]) (by rw [hRs]; omega) (fun j v hj => by
      have q2 : Blk W q 48 x.cs := show W.heap[q]? = _ by rw [hWh]; exact q1
      rw [Addr.add_lit, Nat.zero_add, q2.cell]; simpa using hj) (fun u hu => Array.all_eq_true_iff_forall_mem.1 x.one u (by simpa using hu))
  have hl1 : (layC (i * 19) x.cs.toList ROW.toList).length = ROW.size := by rw [layC_len]; simp; rw [e19]; simp [hRs]; omega
  obtain ⟨W2, hW2⟩ : ∃ W2, W1.setRow w.heap.size (layC (i * 19) x.cs.toList ROW.toList).toArray = W2 := ⟨_, rfl⟩
  have b2 : Blk W2 w.heap.size 48 (layC (i * 19) x.cs.toList ROW.toList).toArray := by rw [← hW2]; exact b1.row _
  have hgn : g ≠ w.heap.size := by have := hg.lt; omega
  have g2 : Blk W2 g 48 cur := by rw [← hW2]; exact (setRow_other _ _ _ _ hgn).trans g1
  have hcp2 : ∀ (ty : TypeId) (dc sc : Nat), (tcopySem ty #[.slice (some ⟨w.heap.size, (i + 1) * 19, none⟩) (n - i) dc, .slice (some ⟨g, i * 19, none⟩) (n - i) sc]).run Tryd.prog W2.drew = .ok (.int .i64 ((n - i : Nat) : Int)) (W2.drew.setRow w.heap.size (layC ((i + 1) * 19) (rtcs (L.drop i)) (layC (i * 19) x.cs.toList ROW.toList)).toArray) := fun ty dc sc =>
    tcopy_run (w := W2.drew) (n := n - i) ty dc sc b2 (by simp only [Nat.min_def]; split <;> omega) hdl (show (i + 1) * 19 + (n - i) * 19 ≤ (layC (i * 19) x.cs.toList ROW.toList).toArray.size by rw [List.size_toArray, hl1, hRs]; omega) (fun j v hj => by
      rw [Addr.add_lit]
      rw [← rtcs_drop, List.getElem?_drop] at hj
      exact own_cells (w := W2.drew) g2 ht _ _ hj) (rtcs_all _)
  obtain ⟨W3, hW3⟩ : ∃ W3, W2.drew.setRow w.heap.size (layC ((i + 1) * 19) (rtcs (L.drop i)) (layC (i * 19) x.cs.toList ROW.toList)).toArray = W3 := ⟨_, rfl⟩
  have hl2 : (layC ((i + 1) * 19) (rtcs (L.drop i)) (layC (i * 19) x.cs.toList ROW.toList)).length = ROW.size := by rw [layC_len, hl1]; rw [hdl, hl1, hRs]; omega
  have b3 : Blk W3 w.heap.size 48 (layC ((i + 1) * 19) (rtcs (L.drop i)) (layC (i * 19) x.cs.toList ROW.toList)).toArray := by rw [← hW3]; exact Blk.row (w := W2.drew) b2 _
  have hown : OwnT W3 B (.slice (some ⟨w.heap.size, 0, none⟩) (n + 1) G) (insL L i x) := by
    have hil := insL_len (Nat.le_of_lt hi) x
    rw [hn] at hil
    rw [← hil]
    refine own_of hB b3 (by omega) hGm (by rw [hl2, hRs]) ?_
    rw [hil, insL_cells]
    refine ins_cells (cur := ROW.toList) (i := i) (by omega) e19 hdl (by simp [hRs]; omega) hRt _ (by rw [hl2]; simp) (fun k hk => ?_)
    rw [layC_get (by rw [hl1, hdl, hRs]; omega), layC_get (by rw [e19]; simp [hRs]; omega)]
    rw [e19, hdl]
    by_cases h1 : k < i * 19
    · rw [if_pos (by omega), if_pos h1, if_pos h1]
    · rw [if_neg h1]
      by_cases h2 : k < (i + 1) * 19
      · rw [if_pos h2, if_neg h1, if_pos (by omega), if_pos h2]
      · rw [if_neg h2, if_pos (by omega), if_neg h2, if_neg h1]
  have hbel : Below B w W3 := by
    rw [← hW3, ← hW2]
    exact below_setRow (bel_drew (below_setRow (k01.mono hB) hB _)) hB _
  have hm63 : G ≤ 9223372036854775807 := by unfold maxLen at hGm; omega
  rw [hW3] at hcp2
  have hcp1' := hcp1 W1 rfl
  rw [hW2] at hcp1'
  rw [hn]
  refine (grow_walk (m := n + 1 - i) (by omega) (by omega) (by omega) (by omega) (by omega) (by omega) (by omega) (by omega) (wrap_next (by omega)) (wrap_next (by omega)) (by omega) (by omega) (by omega) (by omega) (by omega) (by omega) (wrap_nat (by omega)) hap (by omega) (by omega) hm63 hcp1' hcp2).mono ?_
  rintro e w' ⟨rfl, rfl⟩
  exact ⟨_, rfl, hown, hbel⟩

theorem insert_any {w : World} {B q i : Nat} {v : Value} {L : List Rt} (h : OwnT w B v L) (hi : i ≤ L.length) (x : Rt) (hq : Blk w q 48 x.cs) (hqv : v.ownBlock ≠ some q) (hs : L.length ≤ 100) (hB : B ≤ w.heap.size) :
    Calls Tryd.prog 43 #[v, .int .i64 (i : Int), .slice (some ⟨q, 0, none⟩) 1 1] w fun e w' => ∃ v', e = .returned v' ∧ OwnT w' B v' (insL L i x) ∧ Below B w w' := by
  by_cases he : i = L.length
  · rw [he]
    exact insert_end h x hq hs hB
  · rcases h.2 with ⟨rfl, h0⟩ | ⟨g, cap, cur, rfl, hb, hg, hc, hm, hcs, ht⟩
    · omega
    · by_cases hr : L.length < cap
      · exact insert_shift hb hg hcs ht (by omega) hr hm x hq (fun e => hqv (by rw [e]; rfl)) hs hB
      · obtain rfl : cap = L.length := by omega
        exact insert_grow hb hg hcs ht (by omega) rfl x hq hs hB
end Go.Proofs.YtdbdmnahgkkjiaaDoor
