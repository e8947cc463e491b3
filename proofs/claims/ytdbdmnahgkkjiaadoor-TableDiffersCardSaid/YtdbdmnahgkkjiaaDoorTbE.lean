/-
  Rows of a table that a call owns: as cells, cloned, appended to, copied. Nothing here is a statement of the document.
-/
import Derived.Test.YtdbdmnahgkkjiaaDoorTbD
import Derived.Laws.CopyRow
import Derived.Laws.OwnMore
import Derived.Lib.AppendZerosOnto
import Derived.Lib.SliceRun
namespace Go.Proofs.YtdbdmnahgkkjiaaDoor
open Go.RowKit Go.Shelf
set_option linter.unusedVariables false
set_option maxRecDepth 100000

def rtcs (L : List Rt) : List Value := L.flatMap (fun r => r.cs.toList)
theorem rtcs_nil : rtcs [] = [] := rfl
theorem rtcs_append (L M : List Rt) : rtcs (L ++ M) = rtcs L ++ rtcs M := by simp [rtcs]
theorem rtcs_one (r : Rt) : rtcs [r] = r.cs.toList := by simp [rtcs]
theorem rtcs_cons (r : Rt) (L : List Rt) : rtcs (r :: L) = r.cs.toList ++ rtcs L := by simp [rtcs]
theorem rtcs_len : ∀ L : List Rt, (rtcs L).length = L.length * 19
  | [] => rfl
  | r :: L => by rw [rtcs_cons, List.length_append, rtcs_len L]; simp [r.size]; omega
theorem rtcs_all (L : List Rt) : ∀ u ∈ rtcs L, u.oneCell' = true := fun u hu => by
  obtain ⟨r, _, h⟩ := List.mem_flatMap.1 hu
  exact Array.all_eq_true_iff_forall_mem.1 r.one u (by simpa using h)
theorem rtcs_get : ∀ (L : List Rt) {i j : Nat}, i < L.length → j < 19 → (rtcs L)[i * 19 + j]? = (rt L i).cs[j]?
  | [], i, j, h, _ => by simp at h
  | r :: L, 0, j, _, hj => by
    rw [rtcs_cons, Nat.zero_mul, Nat.zero_add, List.getElem?_append_left (by simp [r.size]; exact hj)]
    simp [rt]
  | r :: L, i + 1, j, h, hj => by
    rw [rtcs_cons, List.getElem?_append_right (by simp [r.size]; omega)]
    rw [show (i + 1) * 19 + j - r.cs.toList.length = i * 19 + j by simp [r.size]; omega, rtcs_get L (by simpa using h) hj]
    simp [rt]
theorem rtcs_take : ∀ (L : List Rt) (i : Nat), (rtcs L).take (i * 19) = rtcs (L.take i)
  | [], i => by simp [rtcs]
  | r :: L, 0 => by simp [rtcs]
  | r :: L, i + 1 => by
    rw [rtcs_cons, List.take_succ_cons, rtcs_cons, List.take_append, List.take_of_length_le (by simp [r.size]; omega)]
    rw [show (i + 1) * 19 - r.cs.toList.length = i * 19 by simp [r.size]; omega, rtcs_take L i]
theorem rtcs_drop : ∀ (L : List Rt) (i : Nat), (rtcs L).drop (i * 19) = rtcs (L.drop i)
  | [], i => by simp [rtcs]
  | r :: L, 0 => by simp [rtcs]
  | r :: L, i + 1 => by
    rw [rtcs_cons, List.drop_succ_cons, List.drop_append, List.drop_eq_nil_of_le (by simp [r.size]; omega), List.nil_append]
    rw [show (i + 1) * 19 - r.cs.toList.length = i * 19 by simp [r.size]; omega, rtcs_drop L i]
theorem row_cells (w : World) (g : Nat) (L : List Rt) (o : Nat) (hg : g < w.heap.size) (h : ∀ k u, (rtcs L)[k]? = some u → w.cell? ⟨g, o + k, none⟩ = some u) : Rws w g o L := by
  refine ⟨hg, fun i hi j hj => ?_⟩
  have h1 := rtcs_get L hi hj
  have h2 : j < (rt L i).cs.size := by rw [Rt.size]; exact hj
  rw [Array.getElem?_eq_getElem h2] at h1 ⊢
  rw [Nat.add_assoc]
  exact h _ _ h1
theorem Rws.cells {w : World} {g o : Nat} {L : List Rt} (h : Rws w g o L) : ∀ k u, (rtcs L)[k]? = some u → w.cell? ⟨g, o + k, none⟩ = some u := by
  intro k u hk
  have hl : k < L.length * 19 := by rw [← rtcs_len]; exact (List.getElem?_eq_some_iff.1 hk).1
  have e := rtcs_get L (i := k / 19) (j := k % 19) (by omega) (by omega)
  rw [show k / 19 * 19 + k % 19 = k by omega] at e
  have h1 := h.row (k / 19) (by omega) (k % 19) (by omega)
  rw [← e, hk, Nat.add_assoc, show k / 19 * 19 + k % 19 = k by omega] at h1
  exact h1

/-- Rows that a call owns, from block B on. -/
abbrev OwnT (w : World) (B : Nat) (v : Value) (L : List Rt) : Prop := w.ownsRow B 48 19 v L.length (rtcs L)
theorem OwnT.lies {w : World} {B : Nat} {v : Value} {L : List Rt} (h : OwnT w B v L) : ∃ a c, v = .slice a L.length c ∧ L.length ≤ c ∧ c ≤ maxLen ∧ RowsAt w a L ∧ ∀ x, a = some x → B ≤ x.block := by
  rcases h.2 with ⟨rfl, h0⟩ | ⟨g, cap, cur, rfl, hb, hg, hc, hm, hs, ht⟩
  · have : L = [] := List.eq_nil_of_length_eq_zero h0
    subst this
    exact ⟨none, 0, rfl, by simp, by unfold maxLen; omega, .inl rfl, fun x hx => by cases hx⟩
  · refine ⟨_, cap, rfl, hc, hm, .inr ⟨g, 0, rfl, row_cells w g L 0 (Array.getElem?_eq_some_iff.1 hg).1 fun k u hk => ?_⟩, fun x hx => by cases hx; exact hb⟩
    rw [Nat.zero_add, cell_of_row w g k cur _ _ hg, ← Array.getElem?_toList]
    have hl : k < L.length * 19 := by rw [← rtcs_len]; exact (List.getElem?_eq_some_iff.1 hk).1
    rw [← ht, List.getElem?_take, if_pos hl] at hk
    exact hk
theorem info_rt : (Tryd.prog.info? 48).map (fun i => (i.zero, i.size, i.bytes)) = some (some (.agg Rt.zero.cs), 19, 40) := by kernel_rfl

/-! ### Nothing built, appended to -/
def tbuildSem (n : Nat) (parts : Array (Nat × Value)) : Sem Value := Instr.buildSlice 22 n parts
theorem tbuild_rule (n : Nat) (parts : Array (Nat × Value)) : Instr.buildSlice 22 n parts = tbuildSem n parts := rfl
theorem tbuild0_run (w : World) : (tbuildSem 0 #[]).run Tryd.prog w = .ok (.slice (some ⟨w.heap.size, 0, none⟩) 0 0) (w.alloc (.cells #[] 48)) := by
  have hu := run_underlying (P := Tryd.prog) Tryd.underlying22 w
  have hz := (zero_of_info z_rt).1 w
  unfold tbuildSem Instr.buildSlice
  simp only [Sem.run_bind, hu, Result.andThen_ok]
  go_simp
def tappSem (ty : TypeId) (args : Array Value) : Sem Value := Builtin.append_ #[22, 22] ty args
theorem tapp_rule (ty : TypeId) (args : Array Value) : Builtin.append_ #[22, 22] ty args = tappSem ty args := rfl
theorem own0 (w : World) (B : Nat) (hB : B ≤ w.heap.size) : OwnT (w.alloc (.cells #[] 48)) B (.slice (some ⟨w.heap.size, 0, none⟩) 0 0) [] :=
  ⟨rfl, .inr ⟨_, 0, #[], rfl, hB, heap_alloc_new w _, Nat.le_refl _, by simp, rfl, rfl⟩⟩
/-- Rows that lie anywhere are appended to rows that a call owns. -/
theorem tapp_run {w : World} (ty : TypeId) {B : Nat} {v : Value} {L M : List Rt} {x : Addr} {m c : Nat} (h : OwnT w B v L) (hm : M.length = m) (hM : RowsAt w (some x) M) (hs : L.length + m ≤ 1000000) (hB : B ≤ w.heap.size) :
    ∃ v' w', (tappSem ty #[v, .slice (some x) m c]).run Tryd.prog w = .ok v' w' ∧ OwnT w' B v' (L ++ M) ∧ w.grownBy w' v.ownBlock ∧ (v' = .slice none 0 0 ↔ v = .slice none 0 0 ∧ m = 0) := by
  obtain ⟨i0, hi, hz0, hz1, hz2⟩ := info_parts info_rt
  have hsrc : ∀ j u, (rtcs M)[j]? = some u → w.cell? (x.add j) = some u := by
    intro j u hj
    rcases hM with rfl | ⟨g, o, e, hr⟩
    · simp [rtcs] at hj
    · cases e
      rw [Addr.add_lit]
      exact hr.cells j u hj
  obtain ⟨v', w', h1, h2, h3, h4⟩ := run_append_own (P := Tryd.prog) w B 22 ty 48 i0 (.agg Rt.zero.cs) 19 40 Tryd.underlying22 hi hz0 hz1 hz2 (Rt.size _) (by decide) v L.length (rtcs L) h x m c (rtcs M) (by rw [rtcs_len, hm]) hsrc (rtcs_all M) (by unfold maxLen; omega) (by omega) hB
  refine ⟨v', w', h1, ?_, h3, h4⟩
  show w'.ownsRow B _ 19 v' (L ++ M).length (rtcs (L ++ M))
  rw [List.length_append, hm, rtcs_append]
  exact h2

/-! ### Rows copied into a block -/
def layC (o : Nat) (vs cur : List Value) : List Value := cur.take o ++ vs ++ cur.drop (o + vs.length)
def tcopySem (ty : TypeId) (args : Array Value) : Sem Value := Builtin.copy_ #[22, 22] ty args
theorem tcopy_rule (ty : TypeId) (args : Array Value) : Builtin.copy_ #[22, 22] ty args = tcopySem ty args := rfl
theorem tcopy_run {w : World} {g o : Nat} {a : Addr} {cur : Array Value} {cs : List Value} {n dl sl : Nat} (ty : TypeId) (dc sc : Nat) (hg : Blk w g 48 cur) (hn : Nat.min sl dl = n) (hcs : cs.length = n * 19) (hcur : o + n * 19 ≤ cur.size)
    (hsrc : ∀ j v, cs[j]? = some v → w.cell? (a.add j) = some v) (hone : ∀ v ∈ cs, v.oneCell' = true) :
    (tcopySem ty #[.slice (some ⟨g, o, none⟩) dl dc, .slice (some a) sl sc]).run Tryd.prog w = .ok (.int .i64 (n : Int)) (w.setRow g (layC o cs cur.toList).toArray) := by
  have hl := run_loadCells_list (P := Tryd.prog) w a cs hsrc
  have hst := run_storeCells_at Tryd.prog g o 48 cs 0 cur w hg (by omega) hone
  obtain ⟨i0, hi, hz0, hz1, hz2⟩ := info_parts info_rt
  rw [hcs] at hl
  rw [Nat.add_zero] at hst
  unfold tcopySem layC
  simp [Builtin.copy_, run_underlying Tryd.underlying22, Builtin.lenOf, Builtin.firstCells, sizeOf, typeInfo, hi, hz1, hn, hl, hst]
  rfl

theorem eql_nil_rt (a : Option Addr) (l c : Nat) (w : World) : (binOp .eql 22 (.slice a l c) (.slice none 0 0)).run Tryd.prog w = .ok (.bool a.isNone) w :=
  Lib.run_eql_slice_nil w _ _ a l c 0 0 Tryd.underlying22
attribute [local go_sem ↓] tbuild_rule tapp_rule tcopy_rule
set_option maxHeartbeats 1000000 in
theorem tclone_any (a : Option Addr) (n c : Nat) (L : List Rt) (w : World) (hn : L.length = n) (hs : n ≤ 1000) (hR : RowsAt w a L) (h0 : a = none → c = 0) :
    Calls Tryd.prog 39 #[.slice a n c] w fun e w' => ∃ v, e = .returned v ∧ OwnT w' w.heap.size v L ∧ Below w.heap.size w w' := by
  cases a with
  | none =>
    obtain rfl : L = [] := by
      rcases hR with h | ⟨g, o, h, _⟩
      · exact h
      · cases h
    obtain rfl := h0 rfl
    obtain rfl : n = 0 := hn.symm
    have hq := fun w => eql_nil_rt none 0 0 w
    simp only [Option.isNone_none] at hq
    go_enter Tryd.func39, Tryd.ntmps39
    go_wp2
    go_ret
    exact ⟨_, rfl, World.ownsRow_nil _ _ _ _, Below.refl _ _⟩
  | some x =>
    have hq := fun w => eql_nil_rt (some x) n c w
    simp only [Option.isNone_some] at hq
    have hb1 : Below w.heap.size w (w.alloc (.cells #[] 48)) := (Below.refl _ _).alloc (Nat.le_refl _) _
    obtain ⟨v', w', hrun, hown, hgr, _⟩ := tapp_run (c := c) 22 (own0 w w.heap.size (Nat.le_refl _)) hn (hR.later hb1) (by simp; omega) (by simp)
    have hbs := fun w => tbuild0_run w
    have HE := Lib.hid (And.intro hown (hb1.grown hgr (by simp) (fun k hk => by cases hk; exact Nat.le_refl _)))
    clear hown hgr hb1 hR
    go_enter Tryd.func39, Tryd.ntmps39
    go_wp2
    go_ret
    exact ⟨_, rfl, by simpa using HE.out.1, HE.out.2⟩
end Go.Proofs.YtdbdmnahgkkjiaaDoor
