/-
  The contract of the reference's Put. Nothing here is a statement of the document.
-/
import Derived.Test.YtdbdmnahgkkjiaaDoorTbW
namespace Go.Proofs.YtdbdmnahgkkjiaaDoor
open Go.RowKit Go.Shelf
set_option linter.unusedVariables false
set_option maxRecDepth 100000

/-- What Put has put together behind the first k rows, and whether the prefix stands in it. -/
noncomputable def putK (L : List Rt) (p : Px) (h : Int) : Nat → List Rt × Bool
  | 0 => ([], decide (h = 0))
  | k + 1 => if (rt L k).p = p then putK L p h k else if (putK L p h k).2 = false ∧ cmpP p (rt L k).p < 0 then ((putK L p h k).1 ++ [⟨p, h⟩] ++ [rt L k], true) else ((putK L p h k).1 ++ [rt L k], (putK L p h k).2)
noncomputable def putL (L : List Rt) (p : Px) (h : Int) : List Rt := if (putK L p h L.length).2 = false then (putK L p h L.length).1 ++ [⟨p, h⟩] else (putK L p h L.length).1
theorem putK_len (L : List Rt) (p : Px) (h : Int) : ∀ k, (putK L p h k).1.length ≤ 2 * k
  | 0 => by simp [putK]
  | k + 1 => by
    have := putK_len L p h k
    unfold putK
    split
    · omega
    · split
      · simp; omega
      · simp; omega
structure PutOk (L : List Rt) (p : Px) (h : Int) (k : Nat) : Prop where
  rise : (putK L p h k).1.Pairwise ltR
  mem : ∀ x, x ∈ (putK L p h k).1 ↔ ((∃ j, j < k ∧ rt L j = x) ∧ x.p ≠ p) ∨ ((putK L p h k).2 = true ∧ h ≠ 0 ∧ x = ⟨p, h⟩)
  low : (putK L p h k).2 = false → ∀ x ∈ (putK L p h k).1, cmpP x.p p < 0
  next : ∀ x ∈ (putK L p h k).1, ∀ j, k ≤ j → j < L.length → ltR x (rt L j)
  some : (putK L p h k).2 = false → h ≠ 0
theorem put_ok {L : List Rt} (hL : L.Pairwise ltR) (p : Px) (h : Int) : ∀ k, k ≤ L.length → PutOk L p h k
  | 0, _ => by
    refine ⟨List.Pairwise.nil, fun x => ?_, fun _ x hx => by simp [putK] at hx, fun x hx => by simp [putK] at hx, fun e => by simpa [putK] using e⟩
    simp [putK]
    intro e1 e2
    exact absurd e1 e2
  | k + 1, hk => by
    have ih := put_ok hL p h k (by omega)
    have hkl : k < L.length := by omega
    by_cases h1 : (rt L k).p = p
    · have e : putK L p h (k + 1) = putK L p h k := by rw [putK, if_pos h1]
      refine ⟨by rw [e]; exact ih.rise, fun x => ?_, by rw [e]; exact ih.low, fun x hx j hj hjl => ih.next x (by rw [e] at hx; exact hx) j (by omega) hjl, by rw [e]; exact ih.some⟩
      rw [e, ih.mem]
      constructor
      · rintro (⟨⟨j, hj, hx⟩, hp⟩ | h2)
        · exact .inl ⟨⟨j, by omega, hx⟩, hp⟩
        · exact .inr h2
      · rintro (⟨⟨j, hj, hx⟩, hp⟩ | h2)
        · refine .inl ⟨⟨j, ?_, hx⟩, hp⟩
          by_cases ej : j = k
          · rw [ej] at hx; rw [← hx] at hp; exact absurd h1 hp
          · omega
        · exact .inr h2
    · have hlater : ∀ j, k + 1 ≤ j → j < L.length → ltR (rt L k) (rt L j) := fun j hj hjl => rise_at hL (by omega) hjl
      by_cases h2 : (putK L p h k).2 = false ∧ cmpP p (rt L k).p < 0
      · have e : putK L p h (k + 1) = ((putK L p h k).1 ++ [⟨p, h⟩] ++ [rt L k], true) := by rw [putK, if_neg h1, if_pos h2]
        have hP : ltR ⟨p, h⟩ (rt L k) := h2.2
        refine ⟨?_, fun x => ?_, fun h9 => (by rw [e] at h9; cases h9), fun x hx j hj hjl => ?_, fun h9 => (by rw [e] at h9; cases h9)⟩
        · rw [e]
          simp only [List.append_assoc, List.pairwise_append, List.pairwise_cons, List.cons_append, List.nil_append]
          refine ⟨ih.rise, ⟨by simpa using hP, by simp, List.Pairwise.nil⟩, fun x hx y hy => ?_⟩
          rcases List.mem_cons.1 hy with e9 | hy
          · rw [e9]; exact ih.low h2.1 x hx
          · have e9 : y = rt L k := by simpa using hy
            rw [e9]; exact ih.next x hx k (Nat.le_refl _) hkl
        · rw [e]
          simp only [List.append_assoc, List.mem_append, List.mem_cons, List.cons_append, List.nil_append, List.not_mem_nil, or_false, true_and]
          rw [ih.mem]
          constructor
          · rintro ((⟨⟨j, hj, hx⟩, hp⟩ | ⟨_, q2, q3⟩) | hx | hx)
            · exact .inl ⟨⟨j, by omega, hx⟩, hp⟩
            · exact .inr ⟨q2, q3⟩
            · exact .inr ⟨ih.some h2.1, hx⟩
            · exact .inl ⟨⟨k, by omega, hx.symm⟩, by rw [hx]; exact h1⟩
          · rintro (⟨⟨j, hj, hx⟩, hp⟩ | ⟨q2, q3⟩)
            · by_cases ej : j = k
              · exact .inr (.inr (by rw [← hx, ej]))
              · exact .inl (.inl ⟨⟨j, by omega, hx⟩, hp⟩)
            · exact .inr (.inl q3)
        · rw [e] at hx
          simp only [List.append_assoc, List.mem_append, List.mem_cons, List.cons_append, List.nil_append, List.not_mem_nil, or_false] at hx
          rcases hx with hx | hx | hx
          · exact ih.next x hx j (by omega) hjl
          · rw [hx]; exact ltR_trans hP (hlater j hj hjl)
          · rw [hx]; exact hlater j hj hjl
      · have e : putK L p h (k + 1) = ((putK L p h k).1 ++ [rt L k], (putK L p h k).2) := by rw [putK, if_neg h1, if_neg h2]
        refine ⟨?_, fun x => ?_, fun h9 x hx => ?_, fun x hx j hj hjl => ?_, fun h9 => ih.some (by rw [e] at h9; exact h9)⟩
        · rw [e]
          simp only [List.pairwise_append, List.pairwise_cons]
          exact ⟨ih.rise, ⟨by simp, List.Pairwise.nil⟩, fun x hx y hy => by
            have e9 : y = rt L k := by simpa using hy
            rw [e9]; exact ih.next x hx k (Nat.le_refl _) hkl⟩
        · rw [e]
          simp only [List.mem_append, List.mem_singleton]
          rw [ih.mem]
          constructor
          · rintro ((⟨⟨j, hj, hx⟩, hp⟩ | q) | hx)
            · exact .inl ⟨⟨j, by omega, hx⟩, hp⟩
            · exact .inr q
            · exact .inl ⟨⟨k, by omega, hx.symm⟩, by rw [hx]; exact h1⟩
          · rintro (⟨⟨j, hj, hx⟩, hp⟩ | q)
            · by_cases ej : j = k
              · exact .inr (by rw [← hx, ej])
              · exact .inl (.inl ⟨⟨j, by omega, hx⟩, hp⟩)
            · exact .inl (.inr q)
        · rw [e] at hx h9
          simp only [List.mem_append, List.mem_singleton] at hx
          rcases hx with hx | hx
          · exact ih.low h9 x hx
          · rw [hx]
            rcases cmp_ways (rt L k).p p with c | c | c
            · exact c
            · exact absurd c h1
            · exact absurd ⟨h9, c⟩ h2
        · rw [e] at hx
          simp only [List.mem_append, List.mem_singleton] at hx
          rcases hx with hx | hx
          · exact ih.next x hx j (by omega) hjl
          · rw [hx]; exact hlater j hj hjl
theorem putL_spec {L : List Rt} (hL : L.Pairwise ltR) (p : Px) (h : Int) : (putL L p h).Pairwise ltR ∧ ∀ x, x ∈ putL L p h ↔ (x ∈ L ∧ x.p ≠ p) ∨ (h ≠ 0 ∧ x = ⟨p, h⟩) := by
  have ih := put_ok hL p h L.length (Nat.le_refl _)
  have hm : ∀ x, (∃ j, j < L.length ∧ rt L j = x) ↔ x ∈ L := fun x => ⟨fun ⟨j, hj, hx⟩ => by rw [← hx]; exact rt_mem hj, mem_rt⟩
  unfold putL
  by_cases h1 : (putK L p h L.length).2 = false
  · rw [if_pos h1]
    refine ⟨?_, fun x => ?_⟩
    · simp only [List.pairwise_append, List.pairwise_cons]
      exact ⟨ih.rise, ⟨by simp, List.Pairwise.nil⟩, fun x hx y hy => by
        have e9 : y = ⟨p, h⟩ := by simpa using hy
        rw [e9]; exact ih.low h1 x hx⟩
    · simp only [List.mem_append, List.mem_singleton]
      rw [ih.mem, hm, h1]
      constructor
      · rintro ((q | ⟨q, _⟩) | q)
        · exact .inl q
        · cases q
        · exact .inr ⟨ih.some h1, q⟩
      · rintro (q | ⟨_, q⟩)
        · exact .inl (.inl q)
        · exact .inr q
  · have h2 : (putK L p h L.length).2 = true := by simpa using h1
    rw [if_neg h1]
    refine ⟨ih.rise, fun x => ?_⟩
    rw [ih.mem, hm, h2]
    simp
theorem put_set {L : List Rt} (hL : L.Pairwise ltR) (p : Px) {h : Int} (h0 : h ≠ 0) : putL L p h = setL L p h := by
  obtain ⟨q1, q2⟩ := putL_spec hL p h
  refine rise_eq q1 (setL_rise hL p h) fun x => ?_
  rw [q2, setL_mem hL]
  constructor
  · rintro (q | ⟨_, q⟩)
    · exact .inr q
    · exact .inl q
  · rintro (q | q)
    · exact .inr ⟨h0, q⟩
    · exact .inl q
theorem put_drop {L : List Rt} (hL : L.Pairwise ltR) {p : Px} {i : Nat} (hi : i < L.length) (hp : (rt L i).p = p) : putL L p 0 = L.eraseIdx i := by
  obtain ⟨q1, q2⟩ := putL_spec hL p 0
  refine rise_eq q1 (hL.sublist (List.eraseIdx_sublist L i)) fun x => ?_
  rw [q2, List.mem_eraseIdx_iff_getElem]
  constructor
  · rintro (⟨hx, hne⟩ | ⟨q, _⟩)
    · obtain ⟨j, hj, rfl⟩ := mem_rt hx
      exact ⟨j, hj, fun e => hne (by rw [e]; exact hp), (rt_get hj).symm⟩
    · exact absurd rfl q
  · rintro ⟨j, hj, hne, e⟩
    rw [← rt_get hj] at e
    refine .inl ⟨by rw [← e]; exact rt_mem hj, fun h9 => hne ?_⟩
    rw [← e] at h9
    exact same_at hL hj hi (h9.trans hp.symm)
end Go.Proofs.YtdbdmnahgkkjiaaDoor
