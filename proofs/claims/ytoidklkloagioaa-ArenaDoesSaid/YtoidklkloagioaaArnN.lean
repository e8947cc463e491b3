/-
  The walk of ArenaNone. Nothing here is a statement of the document.
-/
import Derived.Test.YtoidklkloagioaaArnW
import Derived.Test.YtoidklkloagioaaArnK
import Derived.Test.YtoidklkloagioaaOctF
import Derived.Deep.DeepCutAuto
import Derived.Deep.CutBlock
namespace Go.Proofs.Ytoidklkloagioaa
open Go.RowKit Go.Shelf
set_option linter.unusedVariables false

theorem newWs_15 {n : Nat} (h : 64 ≤ n) : (newWs n).getD 15 0 = 16 := by
  unfold newWs
  rw [getD_set _ _ _ _ _ (by simp; omega), if_pos rfl]
theorem newWs_get {n i : Nat} (h : 64 ≤ n) (h0 : i ≠ 0) (h1 : i ≠ 15) : (newWs n).getD i 0 = 0 := by
  unfold newWs
  rw [getD_set _ _ _ _ _ (by simp; omega), if_neg (Ne.symm h1), getD_set _ _ _ _ _ (by simp; omega), if_neg (Ne.symm h0)]
  by_cases hi : i < n <;> simp [hi]
theorem newWs_root {n : Nat} (h : 64 ≤ n) : rootCs (newWs n) = #[.int .u64 0, .int .u64 0, .int .i64 0, .int .i64 0] := by
  unfold rootCs rtcs twoN
  rw [newWs_get h (by omega) (by omega), newWs_get h (by omega) (by omega), newWs_get h (by omega) (by omega), newWs_get h (by omega) (by omega), newWs_get h (by omega) (by omega), newWs_get h (by omega) (by omega)]
  rfl
theorem owns_slice {w : World} {B : Nat} {e : TypeId} {z : Nat} {v : Value} {n : Nat} {xs : List Value} (h : w.ownsRow B e z v n xs) : ∃ a c, v = .slice a n c := by
  rcases h.2 with ⟨h9, h0⟩ | ⟨g, cap, cur, h9, _⟩
  · exact ⟨none, 0, by rw [h9, h0]⟩
  · exact ⟨_, _, h9⟩
set_option maxHeartbeats 400000 in
theorem encode_nil (w : World) : Calls Try.prog 38 #[.pointer none] w fun e w' => e = .returned (.slice none 0 0) ∧ w = w' := by
  go_enter Try.func38, Try.ntmps38
  go_wp2
  go_ret
  exact ⟨rfl, rfl⟩

end Go.Proofs.Ytoidklkloagioaa
