/-
  What the table of trailing zeros holds when the call begins. Nothing here is a statement of the document.
-/
import Derived.Test.YtcehdjpjniemjaaDoorBmpM
import Derived.LaidMore
import Derived.Stop.Joined
import Derived.Deep.Slices
import Derived.WalkKit
import Derived.ProofKit
import Derived.OpenShut
import Derived.ShutString
import Derived.ChangeOld
import Derived.Below
import Derived.DataShut
namespace Go.Proofs.YtcehdjpjniemjaaDoor
open Go.ChangeShapes Go.WideShapes Go.ChangeAt Go.RowKit Go.Shelf
set_option linter.unusedVariables false

theorem c_u8 : Tryd.prog.cellsOf 5 = 1 := by kernel_rfl
def laidAll : List (String × DataW Unit) := [("math/bits.deBruijn32tab", Rows.laid_math_bits_deBruijn32tab)]
theorem gAll : Tryd.prog.globalNamed "math/bits.deBruijn32tab" = some 0 := by kernel_rfl
theorem tAll : (Tryd.prog.globals[0]?).map (·.type) = some 49 := by kernel_rfl
theorem door_met (os : Os) (args : Array Value) : laidMetH Tryd.prog laidAll ((World.doorLaid Tryd.prog 14 os).forCall (fun _ _ => 0) ⟨#[], args, []⟩).memory :=
  laidMetH_of_parts3 (fuel := 8) (laidMet_of_run' 8 (by kernel_rfl) (by kernel_rfl)) (by kernel_rfl) (by kernel_rfl)
theorem tab_at : ∀ j : Nat, j < 32 → ([0, 1, 28, 2, 29, 14, 24, 3, 30, 22, 20, 15, 25, 17, 4, 8, 31, 27, 13, 23, 21, 19, 16, 7, 26, 12, 18, 6, 11, 5, 10, 9] : List Nat)[j]? = some (Lib.deBruijn32tab.getD j 0) := by decide
theorem of_laid {W : World} (h : laidMetH Tryd.prog laidAll W) : Tz W := by
  rw [MakeChecks.laidMetH_plain _ _ _ (by kernel_rfl)] at h
  obtain ⟨ps, ⟨g0, t0, cs0, f0, p0, q0, hg0, ht0, hv0, hd0, _, _⟩, _, _⟩ := h
  obtain rfl := Option.some.inj (gAll.symm.trans hg0)
  obtain rfl := Option.some.inj (tAll.symm.trans ht0)
  obtain ⟨xs, m, _, hx, hlen, hxs, hg⟩ := DataW.trod_array Tryd.underlying49 hd0
  have hlen32 : cs0.toList.length = 32 := hlen.trans (by kernel_rfl)
  have hone : ∀ i (u : Int), i < 32 → (xs.map (·.1))[i]? = some (.lit (.int .u8 u)) → W.cell? ⟨0, i, none⟩ = some (.int .u8 u) := by
    intro i u hi hu
    have h1 := hg i hi
    rw [c_u8, Nat.mul_one] at h1
    have hxi : xs[i]? = some xs[i] := List.getElem?_eq_getElem (by omega)
    rw [hxi] at h1
    obtain ⟨u', e, e', _⟩ := DataW.trod_int Tryd.underlying5 h1
    have hu2 : u' = u := by
      rw [List.getElem?_map, hxi, Option.map_some, e'] at hu
      simpa using hu
    subst hu2
    have hc : cs0.toList[i]? = some cs0.toList[i] := List.getElem?_eq_getElem (by omega)
    have e2 : (cs0.toList.drop i).take 1 = [cs0.toList[i]] := by
      rw [List.take_one, List.head?_drop, hc]
      rfl
    rw [e2] at e
    injection e with e3
    have hcell := World.var?_cell hg0 hv0 i
    rw [hcell, ← Array.getElem?_toList, hc, e3]
  have hm : xs.map (·.1) = ([0, 1, 28, 2, 29, 14, 24, 3, 30, 22, 20, 15, 25, 17, 4, 8, 31, 27, 13, 23, 21, 19, 16, 7, 26, 12, 18, 6, 11, 5, 10, 9] : List Nat).map (fun n : Nat => (DataW.lit (.int .u8 (n : Int)) : DataW Unit)) := by
    have h9 := congrArg Prod.fst hx
    simp only [] at h9
    exact (DataW.agg.inj h9).symm
  intro j hj
  refine hone j _ hj ?_
  rw [hm, List.getElem?_map, tab_at j hj]
  rfl
end Go.Proofs.YtcehdjpjniemjaaDoor
