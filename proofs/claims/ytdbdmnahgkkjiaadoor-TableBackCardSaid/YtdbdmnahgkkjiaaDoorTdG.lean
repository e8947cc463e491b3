/-
  There and back: tables as bytes, and what is set and dropped again; the pure part. Nothing here is a statement of the document.
-/
import Derived.Test.YtdbdmnahgkkjiaaDoorTdB
import Derived.Test.YtdbdmnahgkkjiaaDoorTdD
import Derived.Test.YtdbdmnahgkkjiaaDoorTbP
namespace Go.Proofs.YtdbdmnahgkkjiaaDoor
open Go.RowKit Go.Shelf
set_option linter.unusedVariables false

theorem encP_bys9 {p : Px} (h : okP p) : Bys (encP p) := by
  have hv := wid_cases h.1.1
  have hn := okP_le h
  exact (bys_two (by omega) (by omega)).append2 (p.a.b.bys.take2 _)
theorem rowsB_cons (r : Rt) (L : List Rt) : rowsB (r :: L) = encP r.p ++ (r.h.toNat :: rowsB L) := by simp [rowsB]
theorem rowsB_bys : ∀ L : List Rt, (∀ r ∈ L, okR r) → Bys (rowsB L)
  | [], _ => by intro x hx; simp [rowsB] at hx
  | r :: L, h => by
    have h1 := rowsB_bys L (fun x hx => h x (by simp [hx]))
    have h2 := h r (by simp)
    intro x hx
    rw [rowsB_cons] at hx
    rcases List.mem_append.1 hx with hx | hx
    · exact encP_bys9 h2.1 x hx
    · rcases List.mem_cons.1 hx with rfl | hx
      · have := h2.2.1; have := h2.2.2; omega
      · exact h1 x hx
/-- The first row's bytes say that row. -/
theorem f_row {r : Rt} (h : okR r) (R : List Nat) : fE (encP r.p ++ (r.h.toNat :: R)) = 0 ∧ fR (encP r.p ++ (r.h.toNat :: R)) = r ∧ (encP r.p ++ (r.h.toNat :: R)).drop (fN (encP r.p ++ (r.h.toNat :: R))) = R := by
  obtain ⟨h1, h2, h3⟩ := dec_enc h.1 (r.h.toNat :: R)
  have e : fE (encP r.p ++ (r.h.toNat :: R)) = 0 := by
    unfold fE
    rw [if_neg (by omega), if_neg]
    rintro (h4 | h4)
    · exact h4 h1
    · rw [h3, List.length_append] at h4; simp at h4
  refine ⟨e, ?_, ?_⟩
  · unfold fR
    rw [if_pos e, h2, h3]
    have hg : (encP r.p ++ (r.h.toNat :: R)).getD (encP r.p).length 0 = r.h.toNat := by simp [List.getD_eq_getElem?_getD]
    rw [hg]
    exact Rt.same.2 ⟨rfl, by have := h.2.1; simp; omega⟩
  · unfold fN
    rw [if_pos e, h3, ← List.drop_drop]
    simp
theorem decR_rows : ∀ L : List Rt, (∀ r ∈ L, okR r) → decR L.length (rowsB L) = (L, [], 0)
  | [], _ => rfl
  | r :: L, h => by
    obtain ⟨h1, h2, h3⟩ := f_row (h r (by simp)) (rowsB L)
    have ih := decR_rows L (fun x hx => h x (by simp [hx]))
    rw [rowsB_cons, List.length_cons, decR_next h1, h2, h3, ih]
/-- What was encoded is decoded as it was. -/
theorem dt_back {L : List Rt} (h : okT L) : dtE (tabB L) = 0 ∧ dtR (tabB L) = L := by
  have e := decR_rows L h.2.1
  refine dt_ok (by simp [tabB]) ?_ ?_ h
  · simp [tabB, e]
  · simp [tabB, e]
/-- Of each beginning of a row's bytes that is not all of them it is too short. -/
theorem f_cut {r : Rt} (h : okR r) {j : Nat} (hj : j ≤ (encP r.p).length) (R : List Nat) : fE ((encP r.p ++ R).take j) = 7 := by
  rw [List.take_append_of_le_length hj]
  rcases Nat.eq_or_lt_of_le hj with e | hl
  · subst e
    rw [List.take_length]
    obtain ⟨h1, h2, h3⟩ := dec_enc h.1 []
    rw [List.append_nil] at h1 h3
    exact (f_short (by omega) (.inr h3)).1
  · have := dec_short h.1 j hl
    exact (f_short (by omega) (.inl (by omega))).1
theorem decR_cut : ∀ (L : List Rt), (∀ r ∈ L, okR r) → ∀ j, j < (rowsB L).length → (decR L.length ((rowsB L).take j)).2.2 = 7
  | [], _, j, hj => by simp [rowsB] at hj
  | r :: L, h, j, hj => by
    have hr := h r (by simp)
    rw [rowsB_cons] at hj ⊢
    by_cases hc : j ≤ (encP r.p).length
    · have e := f_cut hr hc (r.h.toNat :: rowsB L)
      rw [List.length_cons, decR_stop (by rw [e]; omega), e]
    · obtain ⟨i, rfl⟩ : ∃ i, j = (encP r.p).length + 1 + i := ⟨j - (encP r.p).length - 1, by omega⟩
      have e : (encP r.p ++ (r.h.toNat :: rowsB L)).take ((encP r.p).length + 1 + i) = encP r.p ++ (r.h.toNat :: (rowsB L).take i) := by
        rw [List.take_append, List.take_of_length_le (by omega), show (encP r.p).length + 1 + i - (encP r.p).length = i + 1 by omega, List.take_succ_cons]
      obtain ⟨h1, h2, h3⟩ := f_row hr ((rowsB L).take i)
      rw [e, List.length_cons, decR_next h1, h3]
      exact decR_cut L (fun x hx => h x (by simp [hx])) i (by simp at hj; omega)
theorem dt_cut {L : List Rt} (h : okT L) {m : Nat} (hm : m < (tabB L).length) : dtE ((tabB L).take m) = 7 := by
  rcases m with _ | m
  · rw [List.take_zero]; exact dt_nil.1
  · have e : (tabB L).take (m + 1) = L.length :: (rowsB L).take m := by simp [tabB]
    have h1 := decR_cut L h.2.1 m (by simp [tabB] at hm; omega)
    rw [e]
    refine (dt_stop (l := (decR L.length ((rowsB L).take m)).2.1) (E := 7) (by simp) ?_ (by omega)).1
    show (decR ((L.length :: (rowsB L).take m).getD 0 0) ((L.length :: (rowsB L).take m).drop 1)).2 = _
    rw [show (L.length :: (rowsB L).take m).getD 0 0 = L.length from rfl, show (L.length :: (rowsB L).take m).drop 1 = (rowsB L).take m from rfl, ← h1]

/-! ### Set, and dropped again -/
theorem ix_mem {L : List Rt} (hL : L.Pairwise ltR) {y : Rt} (hy : y ∈ L) : ∃ i : Nat, i < L.length ∧ ixM L y.p = (i : Int) ∧ rt L i = y := by
  obtain ⟨i, hi, rfl⟩ := mem_rt hy
  exact ⟨i, hi, ix_hit hL hi rfl, rfl⟩
theorem ix_none {L : List Rt} {p : Px} (h : ∀ y ∈ L, y.p ≠ p) : ixM L p = -1 := ix_miss (fun j hj => h _ (rt_mem hj))
theorem erase_mem {L : List Rt} (hL : L.Pairwise ltR) {i : Nat} (hi : i < L.length) (x : Rt) : x ∈ L.eraseIdx i ↔ x ∈ L ∧ x.p ≠ (rt L i).p := by
  rw [List.mem_eraseIdx_iff_getElem]
  constructor
  · rintro ⟨j, hj, hne, rfl⟩
    refine ⟨List.getElem_mem _, fun e => hne ?_⟩
    rw [← rt_get hj] at e
    exact same_at hL hj hi e
  · rintro ⟨hx, hne⟩
    obtain ⟨j, hj, rfl⟩ := mem_rt hx
    exact ⟨j, hj, fun e => hne (by rw [e]), (rt_get hj).symm⟩
structure BackAt (T : List Rt) (p : Px) (h : Int) : Prop where
  ok : okT (setM T p h)
  get : getB (setM T p h) p = true ∧ getV (setM T p h) p = h
  dropE : dropE (setM T p h) p = 0
  dok : okT (dropM (setM T p h) p)
  gone : getB (dropM (setM T p h) p) p = false
  left : ∀ x, x ∈ dropM (setM T p h) p ↔ x ∈ T ∧ x.p ≠ p
theorem back_at {T : List Rt} {p : Px} {h : Int} (e : setE T p h = 0) : BackAt T p h := by
  obtain ⟨hT, hr, _⟩ := setE_ok e
  have hU := setM_okT T p h
  have hm : ∀ x, x ∈ setM T p h ↔ x = ⟨p, h⟩ ∨ (x ∈ T ∧ x.p ≠ p) := fun x => setM_mem e x
  obtain ⟨i, hi, hix, hri⟩ := ix_mem hU.2.2 ((hm ⟨p, h⟩).2 (.inl rfl))
  have hix' : ixM (setM T p h) p = (i : Int) := hix
  have hdE : dropE (setM T p h) p = 0 := by
    unfold dropE
    rw [if_neg (by simpa using hU), if_neg (by rw [hix']; omega)]
  have hdM : dropM (setM T p h) p = (setM T p h).eraseIdx i := by
    unfold dropM
    rw [if_pos hdE, hix', Int.toNat_natCast]
  have hl : ∀ x, x ∈ dropM (setM T p h) p ↔ x ∈ T ∧ x.p ≠ p := fun x => by
    rw [hdM, erase_mem hU.2.2 hi, hm, hri]
    constructor
    · rintro ⟨rfl | h1, h2⟩
      · exact absurd rfl h2
      · exact h1
    · rintro ⟨h1, h2⟩
      exact ⟨.inr ⟨h1, h2⟩, h2⟩
  have hdok : okT (dropM (setM T p h) p) := by
    refine ⟨?_, fun x hx => hT.2.1 x ((hl x).1 hx).1, ?_⟩
    · rw [hdM, List.length_eraseIdx]
      have := hU.1
      split <;> omega
    · rw [hdM]
      exact hU.2.2.sublist (List.eraseIdx_sublist _ _)
  refine ⟨hU, ⟨?_, ?_⟩, hdE, hdok, ?_, hl⟩
  · unfold getB
    rw [decide_eq_true hU, decide_eq_true (by rw [hix']; omega : ixM (setM T p h) p ≠ -1)]
    rfl
  · unfold getV
    rw [if_pos hU, if_neg (by rw [hix']; omega), hix', Int.toNat_natCast, hri]
  · unfold getB
    have h9 : ixM (dropM (setM T p h) p) p = -1 := ix_none (fun y hy => ((hl y).1 hy).2)
    simp [h9]
/-- It was not there: dropped again it is as it was. -/
theorem back_miss {T : List Rt} {p : Px} {h : Int} (e : setE T p h = 0) (hn : getB T p = false) : dropM (setM T p h) p = T := by
  have hb := back_at e
  obtain ⟨hT, _, _⟩ := setE_ok e
  refine rise_eq hb.dok.2.2 hT.2.2 fun x => ?_
  rw [hb.left]
  refine ⟨fun h => h.1, fun hx => ⟨hx, fun he => ?_⟩⟩
  obtain ⟨i, hi, hix, _⟩ := ix_mem hT.2.2 hx
  rw [he] at hix
  unfold getB at hn
  rw [decide_eq_true hT, decide_eq_true (by rw [hix]; omega : ixM T p ≠ -1)] at hn
  cases hn
/-- It was there: set as it was it is as it was. -/
theorem back_hit {T : List Rt} {p : Px} {h : Int} (e : setE T p h = 0) (hn : getB T p = true) : setE (dropM (setM T p h) p) p (getV T p) = 0 ∧ setM (dropM (setM T p h) p) p (getV T p) = T := by
  have hb := back_at e
  obtain ⟨hT, hr, _⟩ := setE_ok e
  have hixn : ixM T p ≠ -1 := by
    intro h9
    unfold getB at hn
    simp [h9] at hn
  obtain ⟨i, h1, h2, h3, _⟩ : ∃ i : Nat, i < T.length ∧ ixM T p = (i : Int) ∧ (rt T i).p = p ∧ True := by
    rcases ix_spec T p with ⟨i, h1, h2, h3, _⟩ | ⟨h1, _⟩
    · exact ⟨i, h1, h2, h3, trivial⟩
    · exact absurd h1 hixn
  have hv : getV T p = (rt T i).h := by
    unfold getV
    rw [if_pos hT, if_neg hixn, h2, Int.toNat_natCast]
  have hri : okR (rt T i) := hT.2.1 _ (rt_mem h1)
  have hrw : (⟨p, (rt T i).h⟩ : Rt) = rt T i := Rt.same.2 ⟨h3.symm, rfl⟩
  have hmiss : ixM (dropM (setM T p h) p) p = -1 := ix_none (fun y hy => ((hb.left y).1 hy).2)
  have hlen : (dropM (setM T p h) p).length < 40 := by
    -- T has one more
    have hsub : (dropM (setM T p h) p).length < T.length := by
      have e2 : dropM (setM T p h) p = T.eraseIdx i := by
        refine rise_eq hb.dok.2.2 (hT.2.2.sublist (List.eraseIdx_sublist _ _)) fun x => ?_
        rw [hb.left, erase_mem hT.2.2 h1, h3]
      rw [e2, List.length_eraseIdx, if_pos h1]
      omega
    have := hT.1
    omega
  have hE : setE (dropM (setM T p h) p) p (getV T p) = 0 := by
    unfold setE
    rw [hv, if_neg (by simpa using hb.dok), if_neg (by rw [hrw]; simpa using hri), if_neg (by rintro ⟨_, h9⟩; omega)]
  refine ⟨hE, rise_eq (setM_okT _ _ _).2.2 hT.2.2 fun x => ?_⟩
  rw [setM_mem hE, hv, hrw, hb.left]
  constructor
  · rintro (rfl | h9)
    · exact rt_mem h1
    · exact h9.1.1
  · intro hx
    by_cases he : x.p = p
    · exact .inl (same_row hT.2.2 hx (rt_mem h1) (he.trans h3.symm))
    · exact .inr ⟨⟨hx, he⟩, he⟩
end Go.Proofs.YtdbdmnahgkkjiaaDoor
