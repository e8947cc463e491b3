/-
  The contracts of the reference's Off and Number; the number that bytes make. Nothing here is a statement of the document.
-/
import Derived.Test.YtkfpkolgikpcpaaOctL
import Derived.Test.YtkfpkolgikpcpaaOctI
import Derived.Test.YtkfpkolgikpcpaaOctM
namespace Go.Proofs.Ytkfpkolgikpcpaa
open Go.RowKit
set_option linter.unusedVariables false

/-- The number that bytes make, the highest first, whatever its size. -/
def valB : List Nat → Nat
  | [] => 0
  | b :: l => b * 256 ^ l.length + valB l

theorem valB_lt : ∀ (l : List Nat), Bys l → valB l < 256 ^ l.length
  | [], _ => by simp [valB]
  | b :: l, h => by
    have ih := valB_lt l (fun n hn => h n (by simp [hn]))
    have hb : b < 256 := h b (by simp)
    simp only [valB, List.length_cons, Nat.pow_succ]
    generalize 256 ^ l.length = t at *
    have : b * t + t ≤ t * 256 := by
      have := Nat.mul_le_mul_right t (show b + 1 ≤ 256 by omega)
      rw [Nat.add_mul, Nat.one_mul] at this
      omega
    omega

theorem pow256 (n : Nat) : 256 ^ n = 2 ^ (8 * n) := by rw [Nat.pow_mul]

theorem highB_valB : ∀ (l : List Nat), Bys l → highB (valB l) l.length = l
  | [], _ => rfl
  | b :: l, h => by
    have hl : Bys l := fun n hn => h n (by simp [hn])
    have ih := highB_valB l hl
    have hb : b < 256 := h b (by simp)
    have hv := valB_lt l hl
    simp only [List.length_cons, highB_cons, valB]
    have e1 : (b * 256 ^ l.length + valB l) / 2 ^ (8 * l.length) % 256 = b := by
      rw [← pow256, Nat.add_comm, Nat.add_mul_div_right _ _ (Nat.pow_pos (by omega)), Nat.div_eq_of_lt hv]; omega
    have e2 : highB (b * 256 ^ l.length + valB l) l.length = highB (valB l) l.length := by
      rw [← high_mod (b * 256 ^ l.length + valB l), ← high_mod (valB l), ← pow256, Nat.add_comm, Nat.add_mul_mod_self_right]
    rw [e1, e2, ih]

theorem pile_valB : ∀ (l : List Nat) (v : Nat), Bys l → v < 18446744073709551616 → pile v l = (v * 256 ^ l.length + valB l) % 18446744073709551616
  | [], v, _, hv => by simp [pile, valB, Nat.mod_eq_of_lt hv]
  | b :: l, v, h, hv => by
    have hl : Bys l := fun n hn => h n (by simp [hn])
    have hb : b < 256 := h b (by simp)
    have e : pile v (b :: l) = pile (v * 256 % 18446744073709551616 + b) l := rfl
    rw [e, pile_valB l _ hl (by omega)]
    simp only [valB, List.length_cons, Nat.pow_succ]
    have e2 : (v * 256 % 18446744073709551616 + b) = (v * 256 + b) % 18446744073709551616 := by omega
    rw [e2]
    generalize 256 ^ l.length = t
    generalize valB l = q
    rw [Nat.add_mod, Nat.mod_mul_mod, ← Nat.add_mod]
    congr 1
    rw [Nat.add_mul, Nat.mul_assoc, Nat.mul_comm 256 t, Nat.add_assoc]

theorem pile_zero (l : List Nat) (h : Bys l) : pile 0 l = valB l % 18446744073709551616 := by
  rw [pile_valB l 0 h (by omega)]; simp

/-- Fewer than nine bytes make a number below 256 to their number. -/
theorem pile_small (l : List Nat) (n : Nat) (h : Bys l) (hn : l.length ≤ n) : pile 0 l % 256 ^ n = pile 0 l := by
  have hv := valB_lt l h
  have h2 : 256 ^ l.length ≤ 256 ^ n := Nat.pow_le_pow_right (by omega) hn
  rw [pile_zero l h]
  apply Nat.mod_eq_of_lt
  exact Nat.lt_of_le_of_lt (Nat.mod_le _ _) (by omega)

theorem bit_pile (l : List Nat) (k : Nat) (h : Bys l) (hk : k < 64) : bitB l (k : Int) = (pile 0 l / 2 ^ k % 2 == 1) := by
  have e := bitB_behind [] (valB l) l.length k
  rw [List.nil_append, highB_valB l h] at e
  rw [e, pile_zero l h]
  have e64 : (18446744073709551616 : Nat) = 2 ^ 64 := rfl
  rw [e64, low_bits _ _ _ hk]
  by_cases hlt : k < 8 * l.length
  · rw [if_pos hlt]
  · rw [if_neg hlt, bitB_nil]
    have hv := valB_lt l h
    rw [pow256] at hv
    have : 2 ^ (8 * l.length) ≤ 2 ^ k := Nat.pow_le_pow_right (by omega) (by omega)
    rw [Nat.div_eq_of_lt (by omega)]
    rfl

theorem mod_next_one (x k : Nat) (h : x / 2 ^ k % 2 = 1) : x % 2 ^ (k + 1) = x % 2 ^ k ||| 2 ^ k := by
  have e : x % 2 ^ (k + 1) = x % 2 ^ k + 2 ^ k := by rw [Nat.mod_pow_succ, h]; omega
  rw [e, Nat.or_comm, nat_join k _ _ (by simp) (Nat.mod_lt _ (Nat.two_pow_pos _)), Nat.add_comm]
theorem mod_next_zero (x k : Nat) (h : x / 2 ^ k % 2 = 0) : x % 2 ^ (k + 1) = x % 2 ^ k := by
  rw [Nat.mod_pow_succ, h]; omega

end Go.Proofs.Ytkfpkolgikpcpaa
