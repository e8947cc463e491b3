/-
  The contracts of the reference's Set and Drop. Nothing here is a statement of the document.
-/
import Derived.Test.YtdbdmnahgkkjiaaDoorTbS
namespace Go.Proofs.YtdbdmnahgkkjiaaDoor
open Go.RowKit Go.Shelf
set_option linter.unusedVariables false
set_option maxRecDepth 100000
attribute [local go_sem ↓] load_b16_rule store_b16_rule load_ad_rule store_ad_rule load_px_rule store_px_rule eq_b16_rule eq_ad_rule eq_px_rule load_rt_rule store_rt_rule build_ad_rule build_px_rule build_b16_rule build_rt_rule load_tab_rule build_tab_rule store_tab_rule tbuild_rule tapp_rule tcopy_rule eq_rt_rule

theorem hop_get {L : List Rt} (hL : okT L) {p : Px} {i : Nat} (hi : i < L.length) (h : ixM L p = (i : Int)) : rgetV L p = (rt L i).h ∧ 1 ≤ (rt L i).h := by
  refine ⟨by unfold rgetV; rw [h, if_neg (by omega), Int.toNat_natCast], ?_⟩
  have := ((okT_iff L).1 hL).2 i hi
  exact this.1.2.1
end Go.Proofs.YtdbdmnahgkkjiaaDoor
