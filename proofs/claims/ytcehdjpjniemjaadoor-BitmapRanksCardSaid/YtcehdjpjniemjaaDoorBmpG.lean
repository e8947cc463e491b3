/-
  The layer does something: the walk of 'wakes', which each statement of layer 7 calls first. Nothing here is a statement of the document.
-/
import Derived.Test.YtcehdjpjniemjaaDoorBmpD
import Derived.Test.YtcehdjpjniemjaaDoorBmpF
import Derived.OpenShut
namespace Go.Proofs.YtcehdjpjniemjaaDoor
open Go.RowKit
set_option linter.unusedVariables false

theorem u32_of {a : Int} (h : (Lit.int .u32 a).wf = true) : ∃ s : Nat, a = (s : Int) ∧ s < 4294967296 := by
  have h0 := bounds_u32 h
  exact ⟨a.toNat, by omega, by omega⟩

set_option maxRecDepth 100000 in
set_option maxHeartbeats 1600000 in
theorem wakes7_any (w : World) : Calls Tryd.prog 5 #[] w fun e w' => e = .returned (.bool true) ∧ Below w.heap.size w w' := by
  have hE : Calls Tryd.prog 16 #[.agg #[.int .u32 1, .int .u32 2, .int .u32 5, .int .u32 9]] w fun e w' => e = .returned (.tuple #[.slice (some ⟨w.heap.size + 2, 0, none⟩) 3 3, .int .i64 0]) ∧ w'.cell? ⟨w.heap.size + 2, 0, none⟩ = some (.int .u32 131073) ∧ Below w.heap.size w w' :=
    (nenc_any ⟨1, 2, 5, 9, by omega, by omega, by omega, by omega⟩ w).mono fun e w' h => by
      have hk : (⟨1, 2, 5, 9, by omega, by omega, by omega, by omega⟩ : Nd).ok := by simp [Nd.ok]
      exact ⟨(h.1 hk).1, (h.1 hk).2.cell 0, h.2.2⟩
  have hI : ∀ w, Calls Tryd.prog 17 #[.int .i64 3, .int .i64 7] w fun e w' => e = .returned (.tuple #[.int .i64 14, .int .i64 0]) ∧ w = w' := fun w => index_any 3 7 (by omega) (by omega) (by omega) (by omega) w
  have hM : ∀ w, Calls Tryd.prog 18 #[.int .u32 5, .int .i64 8, .int .i64 3] w fun e w' => e = .returned (.tuple #[.int .i64 2, .bool true]) ∧ w = w' := fun w => match_any (s := 5) (by omega) 8 3 (by omega) (by omega) w
  have hR : ∀ w, Calls Tryd.prog 6 #[.int .u32 11, .int .i64 3] w fun e w' => e = .returned (.int .i64 2) ∧ w' = w.drew := fun w => brank_any (s := 11) (by omega) 3 (by omega) (by omega) w
  go_enter Tryd.func5, Tryd.ntmps5
  go_wp2_with fail
  refine hE.mono ?_
  rintro e w1 ⟨rfl, hc, hB⟩
  have HB := Lib.hid hB.drew
  clear hB hE
  go_wp2_with (first | (go_at_call 17; refine (hI _).mono ?_; rintro e w' ⟨rfl, rfl⟩) | (go_at_call 18; refine (hM _).mono ?_; rintro e w' ⟨rfl, rfl⟩) | (go_at_call 6; refine (hR _).mono ?_; rintro e w' ⟨rfl, rfl⟩))
  go_ret
  exact ⟨rfl, HB.out⟩
end Go.Proofs.YtcehdjpjniemjaaDoor
