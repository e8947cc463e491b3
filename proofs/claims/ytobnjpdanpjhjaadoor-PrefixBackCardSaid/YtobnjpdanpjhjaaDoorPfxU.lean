/-
  The contracts of the reference's DecodeAddr and Decode. Nothing here is a statement of the document.
-/
import Derived.Test.YtobnjpdanpjhjaaDoorPfxT
namespace Go.Proofs.YtobnjpdanpjhjaaDoor
open Go.RowKit Go.Shelf
set_option linter.unusedVariables false
attribute [local go_sem ↓] load_b16_rule store_b16_rule load_ad_rule store_ad_rule load_px_rule store_px_rule eq_b16_rule eq_ad_rule eq_px_rule build_ad_rule build_px_rule build_b16_rule

theorem wrap_b {x : Nat} (h : x < 256) : wrap64 (x : Int) = (x : Int) := by unfold wrap64; omega

end Go.Proofs.YtobnjpdanpjhjaaDoor
