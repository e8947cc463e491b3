/-
  The contracts of the law's ten and wakes. Nothing here is a statement of the document.
-/
import Derived.Test.YtfnagfmbhcaphaaDoorPfxM
namespace Go.Proofs.YtfnagfmbhcaphaaDoor
open Go.RowKit Go.Shelf
set_option linter.unusedVariables false

theorem build_b16_rule (ps : Array (Nat × Value)) : Instr.build 25 ps = buildSem 25 ps := rfl
def tenB : B16 := ⟨[10, 1, 2, 3, 0, 0, 0, 0, 0, 0, 0, 0, 0, 0, 0, 0], rfl, by unfold Bys; decide⟩
def ten8 : B16 := ⟨[10, 0, 0, 0, 0, 0, 0, 0, 0, 0, 0, 0, 0, 0, 0, 0], rfl, by unfold Bys; decide⟩
def tenA : Ad := ⟨4, tenB⟩
def tenP : Px := ⟨⟨4, ten8⟩, 8⟩
theorem build_ten (w : World) : (buildSem 25 #[(0, .int .u8 10), (1, .int .u8 1), (2, .int .u8 2), (3, .int .u8 3)]).run Tryd.prog w = .ok (.agg tenB.cs) w := by kernel_rfl
theorem ten_kept : keptB tenB 8 = ten8 := B16.same rfl
theorem ten8_kept : keptB ten8 8 = ten8 := B16.same rfl
theorem ten_clear : clear tenB 32 := by
  have : ∀ i, i < 128 → 32 ≤ i → bt tenB i = false := by decide +kernel
  exact fun i h1 h2 => this i h2 h1
theorem ten8_clear : clear ten8 8 := (kept_iff _ _).1 ten8_kept
theorem ten_okA : okA tenA := ⟨by decide, ten_clear⟩
theorem ten_okP : okP tenP := ⟨⟨by decide, clear_mono ten8_clear (by decide)⟩, by decide, by decide, ten8_clear⟩
theorem ten_ofP : ofP tenA 8 = tenP := by
  have : ofP tenA 8 = ⟨⟨4, keptB tenB 8⟩, 8⟩ := if_pos ⟨ten_okA, by decide, by decide⟩
  rw [this, ten_kept]
  rfl
theorem ten_ofE : ofE tenA 8 = 0 := by
  unfold ofE
  rw [if_pos ten_okA, if_pos (by decide)]
theorem ten_hasM : hasM tenP tenA := ⟨ten_okP, ten_okA, rfl, ten_kept.symm⟩
theorem ten_enc : encP tenP = [4, 8, 10] := rfl
theorem ten_decE : decPE [4, 8, 10] = 0 := by
  unfold decPE
  rw [if_neg (by decide), if_neg (by decide), if_neg (by decide), if_neg (by decide)]
  unfold bodyE
  have e : padF [4, 8, 10] 2 (by1 [4, 8, 10]) = ten8 := B16.same rfl
  rw [if_neg (by decide), e, show by1 [4, 8, 10] = 8 from rfl, if_pos ten8_kept]
theorem ten_decX : decPX [4, 8, 10] = tenP := by
  have h : decPX [4, 8, 10] = ⟨⟨(by0 [4, 8, 10] : Int), padF [4, 8, 10] 2 (by1 [4, 8, 10])⟩, (by1 [4, 8, 10] : Int)⟩ := if_pos ten_decE
  have e : padF [4, 8, 10] 2 (by1 [4, 8, 10]) = ten8 := B16.same rfl
  rw [h, e]
  rfl
theorem ten_decN : decPN [4, 8, 10] = 3 := by
  have h : decPN [4, 8, 10] = 2 + fill8 (by1 [4, 8, 10]) := if_pos ten_decE
  rw [h]
  rfl
theorem ten_nib : nibW tenA 1 = 10 := by
  unfold nibW
  rw [if_pos (by decide)]
  unfold nibV bitV
  rw [if_pos ⟨ten_okA, by decide, by decide⟩, if_pos ⟨ten_okA, by decide, by decide⟩, if_pos ⟨ten_okA, by decide, by decide⟩, if_pos ⟨ten_okA, by decide, by decide⟩]
  decide +kernel
/-- What owns a row of bytes lies. -/
theorem own_lies {w : World} {B : Nat} {v : Value} {l : List Nat} (h : w.ownsRow B 5 1 v l.length (l.map byc)) : ∃ a cap, v = .slice a l.length cap ∧ Lies w a l ∧ l.length ≤ cap ∧ cap ≤ 9223372036854775807 ∧ (a = none → l = []) := by
  rcases h.2 with ⟨rfl, h0⟩ | ⟨g, cap, cur, rfl, hb, hg, hc, hm, hs, ht⟩
  · have : l = [] := List.eq_nil_of_length_eq_zero h0
    subst this
    exact ⟨none, 0, rfl, .inl rfl, Nat.le_refl _, by omega, fun _ => rfl⟩
  · refine ⟨_, cap, rfl, ?_, hc, by unfold maxLen at hm; omega, fun e => by cases e⟩
    refine .inr ⟨g, 0, rfl, (Array.getElem?_eq_some_iff.1 hg).1, fun i hi => ?_⟩
    rw [Nat.zero_add]
    have h1 : cur.toList[i]? = (l.map byc)[i]? := by
      rw [← ht, List.getElem?_take, if_pos (by omega)]
    have h2 : w.cell? ⟨g, i, none⟩ = cur[i]? := cell_of_row w g i cur _ (0, 0) hg
    rw [h2, ← Array.getElem?_toList, h1]
    simp [byc, hi]
attribute [local go_sem ↓] load_b16_rule store_b16_rule load_ad_rule store_ad_rule load_px_rule store_px_rule eq_b16_rule eq_ad_rule eq_px_rule build_ad_rule build_px_rule build_b16_rule

end Go.Proofs.YtfnagfmbhcaphaaDoor
