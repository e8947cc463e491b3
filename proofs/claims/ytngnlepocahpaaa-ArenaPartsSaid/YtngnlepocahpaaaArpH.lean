/-
  An arena that calls have left may be decoded. No walk. Nothing here is a statement of the document.
-/
import Derived.Test.YtngnlepocahpaaaArpG
import Derived.Test.YtngnlepocahpaaaArnU
namespace Go.Proofs.Ytngnlepocahpaaa
open Go.RowKit Go.Shelf
set_option linter.unusedVariables false

theorem begK_get {B : List Bl} {n : Nat} (hx : ∀ b ∈ B, b.x < n) (i : Nat) : ∀ k, k ≤ B.length → ((begK B n k).getD i false = true ↔ ∃ b ∈ B.take k, b.x = i)
  | 0, _ => by
    simp only [begK, List.take_zero, List.getD_eq_getElem?_getD, List.getElem?_replicate]
    split <;> simp
  | k + 1, hk => by
    have hlt : k < B.length := by omega
    have e : B.getD k Bl.zero = B[k] := by simp [hlt]
    have ih := begK_get hx i k (by omega)
    unfold begK
    rw [e, getD_set _ _ _ _ _ (by rw [begK_len]; exact hx _ (List.getElem_mem hlt)), List.take_succ_eq_append_getElem hlt]
    by_cases h : B[k].x = i
    · rw [if_pos h]
      exact ⟨fun _ => ⟨B[k], List.mem_append.2 (.inr (List.mem_singleton.2 rfl)), h⟩, fun _ => rfl⟩
    · rw [if_neg h, ih]
      constructor
      · rintro ⟨b, hb, hx⟩
        exact ⟨b, List.mem_append.2 (.inl hb), hx⟩
      · rintro ⟨b, hb, hx⟩
        rcases List.mem_append.1 hb with hb | hb
        · exact ⟨b, hb, hx⟩
        · obtain rfl : b = B[k] := by simpa using hb
          exact absurd hx h
section
variable {w : World} {g p q : Nat} {ws : List Nat} {bs : List Bool} {B : List Bl} {L : Nat → List Nat}
theorem begK_bs (h : Inv ws bs B L) (hl : bs.length = ws.length) : begK B ws.length B.length = bs := by
  apply List.ext_getElem?
  intro i
  have hx : ∀ b ∈ B, b.x < ws.length := fun b hb => by have := h.lt_edge hb; have := h.edge; omega
  by_cases hi : i < ws.length
  · have h1 : i < (begK B ws.length B.length).length := by rw [begK_len]; exact hi
    have h2 : i < bs.length := by omega
    have e1 : (begK B ws.length B.length).getD i false = (begK B ws.length B.length)[i] := by simp [h1]
    have e2 : bs.getD i false = bs[i] := by simp [h2]
    have e3 : (begK B ws.length B.length).getD i false = bs.getD i false := by
      rw [Bool.eq_iff_iff, begK_get hx i _ (Nat.le_refl _), h.begs, List.take_length]
    rw [List.getElem?_eq_getElem h1, List.getElem?_eq_getElem h2, ← e1, ← e2, e3]
  · rw [List.getElem?_eq_none (by rw [begK_len]; omega), List.getElem?_eq_none (by omega)]
theorem dec_of (hA : Ar w g p q ws bs) (h : Inv ws bs B L) (hN : Nice ws B) : Dec ws B L := by
  have hb := begK_bs h hA.len
  have h0 : No ws bs 0 := h.no_none fun b hb => by have := (h.at hb).2.1; omega
  have hlead : ∀ x : Nat, (x = 0 ∨ ∃ b ∈ B, b.t = true ∧ b.x = x) → Lead ws bs (x : Int) := by
    rintro x (rfl | ⟨b, hb, ht, rfl⟩)
    · exact .inl ⟨rfl, h0⟩
    · exact .inr ⟨b.x, b.c, rfl, h.yes hb ht⟩
  refine ⟨hA.lo, hA.hi, hA.sml, hN.first, h.chain, h.edge, h.edge16, hN.behind, ?_, fun b hb ht => (h.mem b.c (h.at hb).1 b.x).2 ⟨b, hb, rfl, rfl, ht⟩, hN.nought, by rw [hb]; exact hlead _ hN.four, by rw [hb]; exact hlead _ hN.six⟩
  rw [hb]
  refine ⟨h.lst, fun c hc x hx => ?_, h.nodup⟩
  obtain ⟨b, hbm, rfl, rfl, ht⟩ := h.free_of hc hx
  have h1 := h.at hbm
  have h2 := h.lt_edge hbm
  have h3 := h.edge
  exact ⟨by omega, by omega, (h.begs _).2 ⟨b, hbm, rfl⟩, by rw [h1.2.2.1, ht]⟩
end
end Go.Proofs.Ytngnlepocahpaaa
