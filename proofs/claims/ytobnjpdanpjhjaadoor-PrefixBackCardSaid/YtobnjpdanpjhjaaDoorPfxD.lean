/-
  The contracts of the reference's RightAddr, Right, of prefix.hasPlace, Bit, Nibble, Has, Holds and of the reference's. Nothing here is a statement of the document.
-/
import Derived.Test.YtobnjpdanpjhjaaDoorPfxC
namespace Go.Proofs.YtobnjpdanpjhjaaDoor
open Go.RowKit Go.Shelf
set_option linter.unusedVariables false
attribute [local go_sem ↓] load_b16_rule store_b16_rule load_ad_rule store_ad_rule load_px_rule store_px_rule eq_b16_rule eq_ad_rule eq_px_rule

theorem btI_on {b : B16} {i : Nat} (h : bt b i = true) : btI b i = 1 := by unfold btI; rw [h]; rfl
theorem btI_off {b : B16} {i : Nat} (h : bt b i = false) : btI b i = 0 := by unfold btI; rw [h]; rfl
theorem clear_not {b : B16} {n m : Nat} (h1 : n ≤ m) (h2 : m < 128) (h : bt b m = true) : ¬ clear b n := fun hc => by
  have := hc m h1 h2
  rw [h] at this
  cases this

end Go.Proofs.YtobnjpdanpjhjaaDoor
