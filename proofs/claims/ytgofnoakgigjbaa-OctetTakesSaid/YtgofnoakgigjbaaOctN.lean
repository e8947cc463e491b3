/-
  The contracts of the reference's Off and Number; the number that bytes make. Nothing here is a statement of the document.
-/
import Derived.Test.YtgofnoakgigjbaaOctL
import Derived.Test.YtgofnoakgigjbaaOctI
import Derived.Test.YtgofnoakgigjbaaOctM
namespace Go.Proofs.Ytgofnoakgigjbaa
open Go.RowKit
set_option linter.unusedVariables false

/-- The number that bytes make, the highest first, whatever its size. -/
def valB : List Nat → Nat
  | [] => 0
  | b :: l => b * 256 ^ l.length + valB l

theorem valB_lt : ∀ (l : List Nat), Bys l → valB l < 256 ^ l.length
  | [], _ => by simp [valB]
  | b :: l, h => by
    have ih := valB_lt l (fun n hn => h n (by simp [hn]))
    have hb : b < 256 := h b (by simp)
    simp only [valB, List.length_cons, Nat.pow_succ]
    generalize 256 ^ l.length = t at *
    have : b * t + t ≤ t * 256 := by
      have := Nat.mul_le_mul_right t (show b + 1 ≤ 256 by omega)
      rw [Nat.add_mul, Nat.one_mul] at this
      omega
    omega

theorem pow256 (n : Nat) : 256 ^ n = 2 ^ (8 * n) := by rw [Nat.pow_mul]

theorem highB_valB : ∀ (l : List Nat), Bys l → highB (valB l) l.length = l
  | [], _ => rfl
  | b :: l, h => by
    have hl : Bys l := fun n hn => h n (by simp [hn])
    have ih := highB_valB l hl
    have hb : b < 256 := h b (by simp)
    have hv := valB_lt l hl
    simp only [List.length_cons, highB_cons, valB]
    have e1 : (b * 256 ^ l.length + valB l) / 2 ^ (8 * l.length) % 256 = b := by
      rw [← pow256, Nat.add_comm, Nat.add_mul_div_right _ _ (Nat.pow_pos (by omega)), Nat.div_eq_of_lt hv]; omega
    have e2 : highB (b * 256 ^ l.length + valB l) l.length = highB (valB l) l.length := by
      rw [← high_mod (b * 256 ^ l.length + valB l), ← high_mod (valB l), ← pow256, Nat.add_comm, Nat.add_mul_mod_self_right]
    rw [e1, e2, ih]

theorem pile_valB : ∀ (l : List Nat) (v : Nat), Bys l → v < 18446744073709551616 → pile v l = (v * 256 ^ l.length + valB l) % 18446744073709551616
  | [], v, _, hv => by simp [pile, valB, Nat.mod_eq_of_lt hv]
  | b :: l, v, h, hv => by
    have hl : Bys l := fun n hn => h n (by simp [hn])
    have hb : b < 256 := h b (by simp)
    have e : pile v (b :: l) = pile (v * 256 % 18446744073709551616 + b) l := rfl
    rw [e, pile_valB l _ hl (by omega)]
    simp only [valB, List.length_cons, Nat.pow_succ]
    have e2 : (v * 256 % 18446744073709551616 + b) = (v * 256 + b) % 18446744073709551616 := by omega
    rw [e2]
    generalize 256 ^ l.length = t
    generalize valB l = q
    rw [Nat.add_mod, Nat.mod_mul_mod, ← Nat.add_mod]
    congr 1
    rw [Nat.add_mul, Nat.mul_assoc, Nat.mul_comm 256 t, Nat.add_assoc]

theorem pile_zero (l : List Nat) (h : Bys l) : pile 0 l = valB l % 18446744073709551616 := by
  rw [pile_valB l 0 h (by omega)]; simp

/-- Fewer than nine bytes make a number below 256 to their number. -/
theorem pile_small (l : List Nat) (n : Nat) (h : Bys l) (hn : l.length ≤ n) : pile 0 l % 256 ^ n = pile 0 l := by
  have hv := valB_lt l h
  have h2 : 256 ^ l.length ≤ 256 ^ n := Nat.pow_le_pow_right (by omega) hn
  rw [pile_zero l h]
  apply Nat.mod_eq_of_lt
  exact Nat.lt_of_le_of_lt (Nat.mod_le _ _) (by omega)

theorem bit_pile (l : List Nat) (k : Nat) (h : Bys l) (hk : k < 64) : bitB l (k : Int) = (pile 0 l / 2 ^ k % 2 == 1) := by
  have e := bitB_behind [] (valB l) l.length k
  rw [List.nil_append, highB_valB l h] at e
  rw [e, pile_zero l h]
  have e64 : (18446744073709551616 : Nat) = 2 ^ 64 := rfl
  rw [e64, low_bits _ _ _ hk]
  by_cases hlt : k < 8 * l.length
  · rw [if_pos hlt]
  · rw [if_neg hlt, bitB_nil]
    have hv := valB_lt l h
    rw [pow256] at hv
    have : 2 ^ (8 * l.length) ≤ 2 ^ k := Nat.pow_le_pow_right (by omega) (by omega)
    rw [Nat.div_eq_of_lt (by omega)]
    rfl

theorem mod_next_one (x k : Nat) (h : x / 2 ^ k % 2 = 1) : x % 2 ^ (k + 1) = x % 2 ^ k ||| 2 ^ k := by
  have e : x % 2 ^ (k + 1) = x % 2 ^ k + 2 ^ k := by rw [Nat.mod_pow_succ, h]; omega
  rw [e, Nat.or_comm, nat_join k _ _ (by simp) (Nat.mod_lt _ (Nat.two_pow_pos _)), Nat.add_comm]
theorem mod_next_zero (x k : Nat) (h : x / 2 ^ k % 2 = 0) : x % 2 ^ (k + 1) = x % 2 ^ k := by
  rw [Nat.mod_pow_succ, h]; omega

theorem off_neg (n m : Int) (w : World) (h : n < 0) : Calls Try.prog 20 #[.int .i64 n, .int .i64 m] w fun e w' => e = .returned (.int .i64 2) ∧ w = w' := by
  have d : decide (n < 0) = true := by simpa using h
  go_enter Try.func20, Try.ntmps20
  go_wp2
  go_ret
  exact ⟨rfl, rfl⟩
theorem off_short (n m : Int) (w : World) (h : 0 ≤ n) (h2 : m < n) : Calls Try.prog 20 #[.int .i64 n, .int .i64 m] w fun e w' => e = .returned (.int .i64 7) ∧ w = w' := by
  have d : decide (n < 0) = false := by simpa using h
  have d2 : decide (m < n) = true := by simpa using h2
  go_enter Try.func20, Try.ntmps20
  go_wp2
  go_ret
  exact ⟨rfl, rfl⟩
theorem off_ok (n m : Int) (w : World) (h : 0 ≤ n) (h2 : n ≤ m) : Calls Try.prog 20 #[.int .i64 n, .int .i64 m] w fun e w' => e = .returned (.int .i64 0) ∧ w = w' := by
  have d : decide (n < 0) = false := by simpa using h
  have d2 : decide (m < n) = false := by simpa using h2
  go_enter Try.func20, Try.ntmps20
  go_wp2
  go_ret
  exact ⟨rfl, rfl⟩

set_option maxHeartbeats 800000 in
theorem refnumber_any (a : Option Addr) (len cap : Nat) (l : List Nat) (w : World) (hl : l.length = len) (hlm : len ≤ 281474976710000) (hB : Bys l) (hL : Lies w a l) :
    Calls Try.prog 21 #[.slice a len cap] w fun e w' => e = .returned (.int .u64 ((pile 0 l : Nat) : Int)) ∧ w = w' := by
  have Hl := Lib.hid hl
  have hp : pile 0 l < 18446744073709551616 := by rw [pile_zero l hB]; exact Nat.mod_lt _ (by omega)
  have hbit : Hid (∀ k : Nat, k < 64 → bitB l (k : Int) = (pile 0 l / 2 ^ k % 2 == 1)) := fun k hk => bit_pile l k hB hk
  clear hl
  generalize pile 0 l = u at *
  go_enter Try.func21, Try.ntmps21
  go_wp2
  go_loop [3, 4] (fun x i => ∃ k : Nat, k ≤ 64 ∧ i = .int .i64 k ∧ x = .int .u64 ((u % 2 ^ k : Nat) : Int)) (fun _ i => 64 - (intOf i).toNat)
  case atStart => exact ⟨0, Nat.zero_le _, rfl, by simp [Nat.mod_one]⟩
  case round =>
    obtain ⟨k, hk, rfl, rfl⟩ := hrel
    by_cases hlt : k < 64
    · have hb := hbit.out k hlt
      by_cases h1 : u / 2 ^ k % 2 = 1
      · have HB := Lib.hid (show bitB l (k : Int) = true by rw [hb, h1]; rfl)
        have hor : bits .or .u64 ((u % 2 ^ k : Nat) : Int) ((2 ^ k : Nat) : Int) = ((u % 2 ^ (k + 1) : Nat) : Int) := by
          have h2 : 2 ^ k < 2 ^ 64 := Nat.pow_lt_pow_right (by omega) hlt
          rw [u64_or_nat _ _ (Nat.lt_of_le_of_lt (Nat.mod_le _ _) hp) h2, mod_next_one u k h1]
        have e1 : (u : Int) % 2 ^ k = ((u % 2 ^ k : Nat) : Int) := by simp
        have e2 : IntKind.u64.wrap ((2 : Int) ^ k) = ((2 ^ k : Nat) : Int) := by
          have h2 : 2 ^ k < 2 ^ 64 := Nat.pow_lt_pow_right (by omega) hlt
          have h3 : (2 : Nat) ^ 64 = 18446744073709551616 := rfl
          have h4 : (2 : Int) ^ k = ((2 ^ k : Nat) : Int) := by simp
          rw [IntKind.wrap_u64, h4]
          rw [h3] at h2
          clear h3 h4 e1 hor hb h1
          generalize 2 ^ k = t at *
          omega
        rw [← e1, ← e2] at hor
        have HO := Lib.hid hor
        clear hb hor h1 e1 e2
        go_wp2_with fail
        refine (refbit_any _ _ _ l _ _ Hl.out hlm hB hL (by omega) (by omega)).mono ?_
        rintro e w' ⟨he, rfl⟩
        rw [HB.out] at he
        subst he
        go_wp2
        go_round
        case rel => exact ⟨k + 1, by omega, by go_num, by rw [HO.out]⟩
        case measure => simp [intOf]; omega
      · have h0 : u / 2 ^ k % 2 = 0 := by omega
        have HB := Lib.hid (show bitB l (k : Int) = false by rw [hb, h0]; rfl)
        have HO := Lib.hid (mod_next_zero u k h0)
        clear hb h0 h1
        go_wp2_with fail
        refine (refbit_any _ _ _ l _ _ Hl.out hlm hB hL (by omega) (by omega)).mono ?_
        rintro e w' ⟨he, rfl⟩
        rw [HB.out] at he
        subst he
        go_wp2
        go_round
        case rel => exact ⟨k + 1, by omega, by go_num, by rw [HO.out]; simp⟩
        case measure => simp [intOf]; omega
    · obtain rfl : k = 64 := by omega
      have e64 : (2 : Nat) ^ 64 = 18446744073709551616 := rfl
      have hu : u % 2 ^ 64 = u := by rw [e64]; exact Nat.mod_eq_of_lt hp
      rw [hu]
      clear hu e64
      go_wp2
      go_ret
      exact ⟨rfl, rfl⟩
end Go.Proofs.Ytgofnoakgigjbaa
