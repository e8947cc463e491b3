/-
  A transaction more: chain.add. Nothing here is a statement of the document.
-/
import Derived.Test.YtkfpkolgikpcpaaWalM
import Derived.Test.YtkfpkolgikpcpaaDskG
namespace Go.Proofs.Ytkfpkolgikpcpaa
open Go.RowKit Go.Shelf
set_option linter.unusedVariables false

def txSem (ty : TypeId) (args : Array Value) : Sem Value := Builtin.append_ #[29, 29] ty args
theorem tx_rule (ty : TypeId) (args : Array Value) : Builtin.append_ #[29, 29] ty args = txSem ty args := rfl
theorem i_bytes : (Try.prog.info? 22).map (fun i => (i.zero, i.size, i.bytes)) = some (some (.slice none 0 0), 1, 24) := by kernel_rfl
theorem txSem_run {w : World} {B m : Nat} {tv v : Value} {vs : List Value} {q : Nat} (ty : TypeId) (h : w.ownsRow B 22 1 tv m vs) (hm : m ≤ 1000) (hq : Blk w q 22 #[v]) (hv : v.oneCell' = true) (hB : B ≤ w.heap.size) :
    ∃ g cap w', (txSem ty #[tv, .slice (some ⟨q, 0, none⟩) 1 1]).run Try.prog w = .ok (.slice (some ⟨g, 0, none⟩) (m + 1) cap) w' ∧
      w'.ownsRow B 22 1 (.slice (some ⟨g, 0, none⟩) (m + 1) cap) (m + 1) (vs ++ [v]) ∧ w.grownBy w' tv.ownBlock ∧ (tv.ownBlock = some g ∨ w.heap.size ≤ g) := by
  obtain ⟨i0, hi, hz0, hz1, hz2⟩ := info_parts i_bytes
  have hone : ∀ u ∈ [v], u.oneCell' = true := fun u hu => by rw [List.mem_singleton.1 hu]; exact hv
  have hsrc : ∀ j u, [v][j]? = some u → w.cell? ((⟨q, 0, none⟩ : Addr).add j) = some u := fun j u hj => by rw [Addr.add_lit, Nat.zero_add, hq.cell]; simpa using hj
  have hnl : [v].length = 1 * 1 := rfl
  have hrun := fun (B' : Nat) (h' : w.ownsRow B' 22 1 tv m vs) (hB' : B' ≤ w.heap.size) => run_append_own (P := Try.prog) w B' 29 ty 22 i0 (.slice none 0 0) 1 24 Try.underlying29 hi hz0 hz1 hz2 rfl (by decide) tv m vs h' ⟨q, 0, none⟩ 1 1 [v] hnl hsrc hone (by unfold maxLen; omega) (by omega) hB'
  rcases h.2 with ⟨rfl, h0⟩ | ⟨g, cap, cur, rfl, hbg, hg, hnc, hcm, hcs, htake⟩
  · subst h0
    obtain ⟨v', w', hr, h1, h2, _⟩ := hrun w.heap.size ⟨h.1, .inl ⟨rfl, rfl⟩⟩ (Nat.le_refl _)
    obtain ⟨g, cap, rfl⟩ := ownsRow_succ h1
    have hge := (h1.lt g rfl).1
    refine ⟨g, cap, w', hr, ⟨h1.1, ?_⟩, h2, .inr hge⟩
    rcases h1.2 with ⟨h9, _⟩ | ⟨g', cap', cur', h9, hb, rest⟩
    · simp at h9
    · exact .inr ⟨g', cap', cur', h9, Nat.le_trans hB hb, rest⟩
  · by_cases hroom : m + 1 ≤ cap
    · obtain ⟨w', hr, h1, h2⟩ := run_append_fits (P := Try.prog) w B 29 ty 22 i0 1 Try.underlying29 hi hz1 g m cap vs h ⟨q, 0, none⟩ 1 1 [v] hnl hsrc hone hroom
      exact ⟨g, cap, w', hr, h1, h2, .inl rfl⟩
    · obtain ⟨v', w', hr, h1, h2, _⟩ := hrun B h hB
      have hr2 := run_append_grow (P := Try.prog) w 29 ty 22 i0 (.slice none 0 0) Try.underlying29 hi hz0 ⟨g, 0, none⟩ m cap vs (by rw [hz1]; exact h.1) (h.cells (g := g) rfl) ⟨q, 0, none⟩ 1 1 [v] (by rw [hz1]; rfl) hsrc (by omega) (by omega) (by rw [hz2]; exact growslice_fits (by omega) (by omega))
      have e2 := hr.symm.trans hr2
      injection e2 with e3 e4
      subst e3
      exact ⟨_, _, w', hr, h1, h2, .inr (Nat.le_refl _)⟩

theorem add_built {w w4 : World} {g B m : Nat} {T : TypeId} {C : Array Value} {tv : Value} {vs : List Value} (h : Blk w g T C) (htv : w.ownsRow B 22 1 tv m vs) (h2 : C[2]? = some tv) (hT : tv.ownBlock ≠ some g) (hm : m ≤ 1000) (hB : B ≤ w.heap.size) (hb : Below w.drew.heap.size w.drew w4) (v : Value) (hv : v.oneCell' = true) :
    ∃ g6 cap6 w6, (txSem 29 #[tv, .slice (some ⟨w4.heap.size, 0, none⟩) 1 1]).run Try.prog (w4.alloc (.cells #[v] 22)) = .ok (.slice (some ⟨g6, 0, none⟩) (m + 1) cap6) w6 ∧
      w6.ownsRow B 22 1 (.slice (some ⟨g6, 0, none⟩) (m + 1) cap6) (m + 1) (vs ++ [v]) ∧ (w4.alloc (.cells #[v] 22)).grownBy w6 tv.ownBlock ∧ (tv.ownBlock = some g6 ∨ (w4.alloc (.cells #[v] 22)).heap.size ≤ g6) ∧
      (w4.alloc (.cells #[v] 22)).cell? ⟨g, 2, none⟩ = some tv ∧ w4.cell? ⟨g, 2, none⟩ = some tv ∧ w6.cell? ⟨g, 2, none⟩ = some tv ∧ w6.frozen? ⟨g, 2, none⟩ = false := by
  have hb0 : Below w.heap.size w w4 := ⟨hb.os, hb.tape, hb.output, hb.size, hb.block⟩
  have b4 := h.kept (Kept.of_below [] hb0) (by simp)
  have o4 := own_later htv hb0
  have hb5 : Below w4.heap.size w4 (w4.alloc (.cells #[v] 22)) := (Below.refl _ _).alloc (Nat.le_refl _) _
  have o5 := own_later o4 hb5
  obtain ⟨g6, cap6, w6, h1, h3, h4, h5⟩ := txSem_run (q := w4.heap.size) 29 o5 hm (Blk.new _ _ _) hv (by have := hb5.size; have := hb0.size; omega)
  have b6 : Blk w6 g T C := (h4.block g (b4.alloc _).lt (fun e => hT e.symm)).trans (b4.alloc _)
  exact ⟨g6, cap6, w6, h1, h3, h4, h5, ((b4.alloc _).cell 2).trans h2, (b4.cell 2).trans h2, (b6.cell 2).trans h2, b6.free 2⟩

/-- A region that draws, by what holds at whatever of its operations are done (outside a round). -/
theorem any_inv {P : Program} {ops : Array Oper} {Q : Exit → Act → World → Prop} (Inv : Array Bool → Act → World → Prop)
    (hz : ∀ l a w, Inv l a w → cntF l = 0 → Region.ready .any ops l = [])
    (hstep : ∀ l a w i, Inv l a w → i ∈ Region.ready .any ops l → cntF (l.setIfInBounds i true) < cntF l ∧ wpOp P ops Q i (Inv (l.setIfInBounds i true)) a w)
    (hend : ∀ l a w, Inv l a w → Region.ready .any ops l = [] → Q .normal a w) :
    ∀ (fuel : Nat) (l : Array Bool) (a : Act) (w : World), cntF l ≤ fuel → Inv l a w → wpAny P .any ops Q fuel l a w := by
  intro fuel
  induction fuel with
  | zero => exact fun l a w hc hi => ⟨hz l a w hi (by omega), hend l a w hi (hz l a w hi (by omega))⟩
  | succ fuel ih =>
    intro l a w hc hi
    refine ⟨fun h => hend l a w hi h, fun i hm => ?_⟩
    obtain ⟨h1, h2⟩ := hstep l a w i hi hm
    exact wpOp_mono (fun a' w' h => ih _ a' w' (by omega) h) h2

theorem cnt_set {l : Array Bool} {i : Nat} (h : l.getD i true = false) : cntF (l.setIfInBounds i true) < cntF l := by
  have hi : i < l.size := by
    rcases Nat.lt_or_ge i l.size with h' | h'
    · exact h'
    · simp [Array.getElem?_eq_none h'] at h
  have key : ∀ (L : List Bool) (i : Nat), L[i]? = some false → (L.set i true).countP (fun b => !b) < L.countP (fun b => !b) := by
    intro L
    induction L with
    | nil => intro i h; simp at h
    | cons b L ih =>
      intro i h
      cases i with
      | zero => simp at h; subst h; simp
      | succ i =>
        simp only [List.getElem?_cons_succ] at h
        have := ih i h
        simp only [List.set_cons_succ, List.countP_cons]
        omega
  unfold cntF
  rw [Array.toList_setIfInBounds]
  refine key _ _ ?_
  rw [Array.getElem?_toList, Array.getElem?_eq_getElem hi]
  simpa [Array.getD, hi] using h
theorem cnt_zero {l : Array Bool} (h : cntF l = 0) (i : Nat) : l.getD i true = true := by
  unfold cntF at h
  rw [List.countP_eq_zero] at h
  rcases Nat.lt_or_ge i l.size with h' | h'
  · have h9 := h l[i] (by simp)
    simpa [Array.getD, h'] using h9
  · simp [Array.getElem?_eq_none h']

/-- A region that draws its order, by what holds at whatever of its operations are done; no table of orders is ever made. -/
theorem any_inv2 {P : Program} {ops : Array Oper} {Q : Exit → Act → World → Prop} (Inv : Array Bool → Act → World → Prop)
    (hstep : ∀ l a w i o, Inv l a w → ops[i]? = some o → l.getD i true = false → (∀ e ∈ o.after, Region.binds .any e = true → l.getD e.on false = true) → wpOp P ops Q i (Inv (l.setIfInBounds i true)) a w)
    (hend : ∀ l a w, Inv l a w → (∀ i o, ops[i]? = some o → (∀ e ∈ o.after, Region.binds .any e = true → l.getD e.on false = true) → l.getD i true = true) → Q .normal a w) :
    ∀ (fuel : Nat) (l : Array Bool) (a : Act) (w : World), cntF l ≤ fuel → Inv l a w → wpAny P .any ops Q fuel l a w := by
  have hE : ∀ l a w, Inv l a w → Region.ready .any ops l = [] → Q .normal a w := fun l a w hi hr => hend l a w hi (fun i o ho hd => by
    cases hb : l.getD i true with
    | true => rfl
    | false =>
      have hm : i ∈ Region.ready .any ops l := mem_ready.2 ⟨hb, o, ho, hd⟩
      rw [hr] at hm
      cases hm)
  refine any_inv Inv (fun l a w _ hc => ?_) (fun l a w i hi hm => ?_) hE
  · refine List.eq_nil_iff_forall_not_mem.2 (fun i hm => ?_)
    have h9 := (mem_ready.1 hm).1
    rw [cnt_zero hc i] at h9
    cases h9
  · obtain ⟨h1, o, ho, hd⟩ := mem_ready.1 hm
    exact ⟨cnt_set h1, hstep l a w i o hi ho h1 hd⟩
theorem anyIn_inv2 {F : Fence} {n : Nat} {P : Program} {ops : Array Oper} {Q : Exit → Act → World → Prop} (Inv : Array Bool → Act → World → Prop)
    (hstep : ∀ l a w i o, Inv l a w → ops[i]? = some o → l.getD i true = false → (∀ e ∈ o.after, Region.binds .any e = true → l.getD e.on false = true) → wpOpIn F n P ops Q i (Inv (l.setIfInBounds i true)) a w)
    (hend : ∀ l a w, Inv l a w → (∀ i o, ops[i]? = some o → (∀ e ∈ o.after, Region.binds .any e = true → l.getD e.on false = true) → l.getD i true = true) → Q .normal a w) :
    ∀ (fuel : Nat) (l : Array Bool) (a : Act) (w : World), cntF l ≤ fuel → Inv l a w → wpAnyIn F n P .any ops Q fuel l a w := by
  have hE : ∀ l a w, Inv l a w → Region.ready .any ops l = [] → Q .normal a w := fun l a w hi hr => hend l a w hi (fun i o ho hd => by
    cases hb : l.getD i true with
    | true => rfl
    | false =>
      have hm : i ∈ Region.ready .any ops l := mem_ready.2 ⟨hb, o, ho, hd⟩
      rw [hr] at hm
      cases hm)
  refine anyIn_inv Inv (fun l a w _ hc => ?_) (fun l a w i hi hm => ?_) hE
  · refine List.eq_nil_iff_forall_not_mem.2 (fun i hm => ?_)
    have h9 := (mem_ready.1 hm).1
    rw [cnt_zero hc i] at h9
    cases h9
  · obtain ⟨h1, o, ho, hd⟩ := mem_ready.1 hm
    exact ⟨cnt_set h1, hstep l a w i o hi ho h1 hd⟩
end Go.Proofs.Ytkfpkolgikpcpaa
