/-
  Bits of numbers on the wire: plain mathematics. Nothing here is a statement of the document.
-/
import Derived.Test.YtkfpkolgikpcpaaOctF
import Derived.Deep.RegionWith
import Derived.Deep.QuietTactic
import Derived.BigQuiet
namespace Go.Proofs.Ytkfpkolgikpcpaa
open Go.RowKit
set_option linter.unusedVariables false

theorem byte_bit (x k : Nat) : x / 2 ^ (8 * (k / 8)) % 256 / 2 ^ (k % 8) % 2 = x / 2 ^ k % 2 := by
  have h8 : k % 8 < 8 := Nat.mod_lt _ (by omega)
  have e : x / 2 ^ k = x / 2 ^ (8 * (k / 8)) / 2 ^ (k % 8) := by
    rw [Nat.div_div_eq_div_mul, ← Nat.pow_add]
    congr 2
    omega
  rw [e]
  generalize x / 2 ^ (8 * (k / 8)) = a
  have : k % 8 = 0 ∨ k % 8 = 1 ∨ k % 8 = 2 ∨ k % 8 = 3 ∨ k % 8 = 4 ∨ k % 8 = 5 ∨ k % 8 = 6 ∨ k % 8 = 7 := by omega
  rcases this with h | h | h | h | h | h | h | h <;> rw [h] <;> omega

theorem high_at (x n i : Nat) (hi : i < n) : (highB x n).getD (n - 1 - i) 0 = x / 2 ^ (8 * i) % 256 := by
  have h1 : n - 1 - i < (highB x n).length := by rw [length_highB]; omega
  rw [List.getD_eq_getElem?_getD, List.getElem?_eq_getElem h1]
  simp only [highB, List.getElem_map, List.getElem_range, Option.getD_some]
  rw [show n - 1 - (n - 1 - i) = i from by omega]

/-- A bit of what goes behind: below, of the number; from there on, of what stood ahead. -/
theorem bitB_behind (l : List Nat) (x n k : Nat) : bitB (l ++ highB x n) (k : Int) = if k < 8 * n then x / 2 ^ k % 2 == 1 else bitB l ((k - 8 * n : Nat) : Int) := by
  by_cases h : k < 8 * n
  · rw [if_pos h, bitB_some (by rw [List.length_append, length_highB]; omega), List.length_append, length_highB]
    have e : (l ++ highB x n).getD (l.length + n - 1 - k / 8) 0 = (highB x n).getD (n - 1 - k / 8) 0 := by
      rw [List.getD_eq_getElem?_getD, List.getD_eq_getElem?_getD, List.getElem?_append_right (by omega)]
      congr 2
      omega
    rw [e, high_at x n (k / 8) (by omega), byte_bit]
  · rw [if_neg h]
    by_cases h2 : k / 8 < l.length + n
    · rw [bitB_some (by rw [List.length_append, length_highB]; omega), bitB_some (by omega), List.length_append, length_highB]
      have e : (l ++ highB x n).getD (l.length + n - 1 - k / 8) 0 = l.getD (l.length - 1 - (k - 8 * n) / 8) 0 := by
        rw [List.getD_eq_getElem?_getD, List.getD_eq_getElem?_getD, List.getElem?_append_left (by omega)]
        congr 2
        omega
      rw [e, show (k - 8 * n) % 8 = k % 8 from by omega]
    · rw [bitB_none (by rw [List.length_append, length_highB]; simp; omega), bitB_none (by simp; omega)]

theorem bitB_nil (k : Int) : bitB [] k = false := by
  by_cases h : k < 0
  · exact bitB_neg h
  · exact bitB_none (by simp)

theorem low_bits (x k m : Nat) (h : k < m) : x % 2 ^ m / 2 ^ k % 2 = x / 2 ^ k % 2 := by
  have e : 2 ^ m = 2 ^ k * (2 * 2 ^ (m - k - 1)) := by
    rw [← Nat.pow_succ', ← Nat.pow_add]
    congr 1
    omega
  rw [e, Nat.mod_mul_right_div_self, Nat.mod_mul_right_mod]

theorem mask_u64 (x i : Nat) (hx : x < 18446744073709551616) : (bits .and .u64 ((x : Int) / 2 ^ i) 1 == 1) = (x / 2 ^ i % 2 == 1) := by
  have hd : x / 2 ^ i < 18446744073709551616 := Nat.lt_of_le_of_lt (Nat.div_le_self _ _) hx
  have e := u64_and_nat (x / 2 ^ i) 1 hd (by omega)
  have e2 : ((x / 2 ^ i : Nat) : Int) = (x : Int) / 2 ^ i := by simp
  rw [e2] at e
  have e1 : ((1 : Nat) : Int) = 1 := rfl
  rw [e1] at e
  rw [e, Nat.and_one_is_mod]
  rw [Bool.eq_iff_iff]; simp; omega
theorem mask_u16 (x i : Nat) (hx : x < 65536) : (bits .and .u16 ((x : Int) / 2 ^ i) 1 == 1) = (x / 2 ^ i % 2 == 1) := by
  have hd : x / 2 ^ i < 65536 := Nat.lt_of_le_of_lt (Nat.div_le_self _ _) hx
  have e := u16_and_nat (x / 2 ^ i) 1 hd (by omega)
  have e2 : ((x / 2 ^ i : Nat) : Int) = (x : Int) / 2 ^ i := by simp
  rw [e2] at e
  have e1 : ((1 : Nat) : Int) = 1 := rfl
  rw [e1] at e
  rw [e, Nat.and_one_is_mod]
  rw [Bool.eq_iff_iff]; simp; omega

end Go.Proofs.Ytkfpkolgikpcpaa
