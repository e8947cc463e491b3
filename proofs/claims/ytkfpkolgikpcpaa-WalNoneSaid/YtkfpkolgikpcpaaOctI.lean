/-
  The contract of the reference's High. Nothing here is a statement of the document.
-/
import Derived.Test.YtkfpkolgikpcpaaOctH
import Derived.Test.YtkfpkolgikpcpaaOctG
namespace Go.Proofs.Ytkfpkolgikpcpaa
open Go.RowKit
set_option linter.unusedVariables false
set_option maxRecDepth 100000

theorem high_bit_off (x n k : Nat) (h : x / 2 ^ k % 2 = 0) : highB (x % 2 ^ (k + 1)) n = highB (x % 2 ^ k) n := by
  have e : x % 2 ^ (k + 1) = x % 2 ^ k := by rw [Nat.mod_pow_succ, h]; omega
  rw [e]

theorem high_or (a k i : Nat) (ha : a < 2 ^ k) (hi : i ≠ k / 8) : (a + 2 ^ k) / 2 ^ (8 * i) % 256 = a / 2 ^ (8 * i) % 256 := by
  by_cases h : i < k / 8
  · have e : 2 ^ k = 2 ^ (8 * i) * (2 ^ (k - 8 * i - 8) * 256) := by
      rw [show (256 : Nat) = 2 ^ 8 from rfl, ← Nat.pow_add, ← Nat.pow_add]; congr 1; omega
    rw [e, Nat.add_mul_div_left _ _ (Nat.two_pow_pos _), Nat.add_mul_mod_self_right]
  · have h1 : 2 ^ (k + 1) ≤ 2 ^ (8 * i) := Nat.pow_le_pow_right (by omega) (by omega)
    have h2 : 2 ^ (k + 1) = 2 ^ k * 2 := Nat.pow_succ ..
    rw [Nat.div_eq_of_lt (by omega), Nat.div_eq_of_lt (by omega)]

theorem high_or_at (a k : Nat) (ha : a < 2 ^ k) : (a + 2 ^ k) / 2 ^ (8 * (k / 8)) % 256 = a / 2 ^ (8 * (k / 8)) % 256 + 2 ^ (k % 8) ∧ a / 2 ^ (8 * (k / 8)) % 256 < 2 ^ (k % 8) ∧ 2 ^ (k % 8) ≤ 128 := by
  have e : 2 ^ k = 2 ^ (8 * (k / 8)) * 2 ^ (k % 8) := by rw [← Nat.pow_add]; congr 1; omega
  have h1 : a / 2 ^ (8 * (k / 8)) < 2 ^ (k % 8) := by
    rw [Nat.div_lt_iff_lt_mul (Nat.two_pow_pos _), Nat.mul_comm, ← e]; exact ha
  have h2 : 2 ^ (k % 8) ≤ 2 ^ 7 := Nat.pow_le_pow_right (by omega) (by omega)
  have h3 : (2 : Nat) ^ 7 = 128 := rfl
  rw [e, Nat.add_mul_div_left _ _ (Nat.two_pow_pos _)]
  rw [h3] at h2
  clear e ha h3
  generalize a / 2 ^ (8 * (k / 8)) = b at *
  generalize 2 ^ (k % 8) = c at *
  omega

theorem high_bit_on (x n k : Nat) (h : x / 2 ^ k % 2 = 1) (hk : k / 8 < n) :
    highB (x % 2 ^ (k + 1)) n = (highB (x % 2 ^ k) n).set (n - 1 - k / 8) ((highB (x % 2 ^ k) n).getD (n - 1 - k / 8) 0 ||| 2 ^ (k % 8)) ∧ (highB (x % 2 ^ k) n).getD (n - 1 - k / 8) 0 < 256 ∧ 2 ^ (k % 8) ≤ 128 := by
  have e : x % 2 ^ (k + 1) = x % 2 ^ k + 2 ^ k := by rw [Nat.mod_pow_succ, h]; omega
  have ha : x % 2 ^ k < 2 ^ k := Nat.mod_lt _ (Nat.two_pow_pos _)
  rw [e]
  generalize x % 2 ^ k = a at *
  obtain ⟨h1, h2, h3⟩ := high_or_at a k ha
  rw [high_at a n (k / 8) hk]
  have h5 : a / 2 ^ (8 * (k / 8)) % 256 ||| 2 ^ (k % 8) = (a + 2 ^ k) / 2 ^ (8 * (k / 8)) % 256 := by
    rw [h1, Nat.or_comm, nat_join (k % 8) _ _ (by simp) h2, Nat.add_comm]
  refine ⟨?_, by omega, h3⟩
  apply List.ext_getElem
  · simp [highB]
  · intro j hj1 hj2
    have hjn : j < n := by simpa [highB] using hj1
    rw [List.getElem_set]
    by_cases hj : n - 1 - k / 8 = j
    · rw [if_pos hj, h5]
      subst hj
      simp only [highB, List.getElem_map, List.getElem_range]
      rw [show n - 1 - (n - 1 - k / 8) = k / 8 from by omega]
    · rw [if_neg hj]
      simp only [highB, List.getElem_map, List.getElem_range]
      exact high_or a k _ ha (by omega)

theorem high_mod (x n : Nat) : highB (x % 2 ^ (8 * n)) n = highB x n := by
  apply List.ext_getElem
  · simp [highB]
  · intro j hj1 hj2
    have hjn : j < n := by simpa [highB] using hj1
    simp only [highB, List.getElem_map, List.getElem_range]
    have e : 2 ^ (8 * n) = 2 ^ (8 * (n - 1 - j)) * (256 * 2 ^ (8 * j)) := by
      rw [show (256 : Nat) = 2 ^ 8 from rfl, ← Nat.pow_add, ← Nat.pow_add]; congr 1; omega
    rw [e, Nat.mod_mul_right_div_self, Nat.mod_mul_right_mod]

theorem Own.other {w : World} {g p i : Nat} {l : List Nat} (h : Own w g l) (hn : g ≠ p) (v : Value) : Own (w.setCell ⟨p, i, none⟩ v) g l :=
  (Below.heap_setCell _ _ _ _ hn).trans h

end Go.Proofs.Ytkfpkolgikpcpaa
