/-
  The contracts of the reference's sums. Nothing here is a statement of the document.
-/
import Derived.Test.YtkfpkolgikpcpaaSumA
namespace Go.Proofs.Ytkfpkolgikpcpaa
open Go.RowKit
set_option linter.unusedVariables false

theorem shl_step (q i : Nat) : 2 * (q * 2 ^ i % 4294967291) % 4294967291 = q * 2 ^ (i + 1) % 4294967291 := by
  rw [Nat.pow_succ, ← Nat.mul_assoc]
  generalize q * 2 ^ i = t
  omega

end Go.Proofs.Ytkfpkolgikpcpaa
