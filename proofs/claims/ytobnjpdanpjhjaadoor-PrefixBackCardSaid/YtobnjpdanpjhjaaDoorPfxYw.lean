/-
  The walk of PrefixBytes. Nothing here is a statement of the document.
-/
import Derived.Test.YtobnjpdanpjhjaaDoorPfxU
import Derived.Test.YtobnjpdanpjhjaaDoorOctF
import Derived.Test.YtobnjpdanpjhjaaDoorOctH
import Derived.Test.YtobnjpdanpjhjaaDoorOctL
namespace Go.Proofs.YtobnjpdanpjhjaaDoor
open Go.RowKit Go.Shelf
set_option linter.unusedVariables false
attribute [local go_sem ↓] load_b16_rule store_b16_rule load_ad_rule store_ad_rule load_px_rule store_px_rule eq_b16_rule eq_ad_rule eq_px_rule build_ad_rule build_px_rule build_b16_rule

theorem own0 (w : World) : (w.alloc (.cells #[] 5)).ownsRow w.heap.size 5 1 (.slice (some ⟨w.heap.size, 0, none⟩) 0 0) 0 [] :=
  ⟨rfl, .inr ⟨w.heap.size, 0, #[], rfl, Nat.le_refl _, heap_alloc_new _ _, Nat.le_refl _, by unfold maxLen; omega, rfl, rfl⟩⟩
theorem row_cap {w : World} {a : Option Addr} {len cap : Nat} {zs : List Int} (h : IsRow .u8 w a len cap zs) : len ≤ cap ∧ cap ≤ 9223372036854775807 ∧ (a = none → cap = 0) := by
  rcases h with ⟨rfl, rfl, rfl, _⟩ | ⟨x, rfl, h1, h2, _⟩
  · exact ⟨Nat.le_refl _, by omega, fun _ => rfl⟩
  · exact ⟨h1, by unfold maxLen at h2; omega, fun h => by cases h⟩

end Go.Proofs.YtobnjpdanpjhjaaDoor
