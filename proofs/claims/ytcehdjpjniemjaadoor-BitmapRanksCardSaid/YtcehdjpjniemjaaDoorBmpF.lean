/-
  Ranks, and the contracts of math/bits.OnesCount32, bitmap.Rank and of the reference's Rank. Nothing here is a statement of the document.
-/
import Derived.Test.YtcehdjpjniemjaaDoorBmpE
namespace Go.Proofs.YtcehdjpjniemjaaDoor
open Go.RowKit
set_option linter.unusedVariables false

/-- How many of the first n bits are set. -/
def rankN (s : Nat) : Nat → Nat
  | 0 => 0
  | n + 1 => rankN s n + if s.testBit n then 1 else 0
theorem rankN_le (s : Nat) : ∀ n, rankN s n ≤ n
  | 0 => Nat.le_refl _
  | n + 1 => by have := rankN_le s n; unfold rankN; split <;> omega
theorem rankN_cong {s t : Nat} : ∀ {n : Nat}, (∀ i, i < n → s.testBit i = t.testBit i) → rankN s n = rankN t n
  | 0, _ => rfl
  | n + 1, h => by
    unfold rankN
    rw [rankN_cong (n := n) (fun i hi => h i (by omega)), h n (by omega)]
theorem rankN_add (s k : Nat) : ∀ m, rankN s (k + m) = rankN s k + rankN (s / 2 ^ k) m
  | 0 => rfl
  | m + 1 => by
    show rankN s (k + m) + (if s.testBit (k + m) then 1 else 0) = rankN s k + (rankN (s / 2 ^ k) m + if (s / 2 ^ k).testBit m then 1 else 0)
    rw [rankN_add s k m, Nat.testBit_div_two_pow, Nat.add_comm m k, Nat.add_assoc]
theorem rankN_mod (s : Nat) {m n : Nat} (h : n ≤ m) : rankN (s % 2 ^ m) n = rankN s n :=
  rankN_cong fun i hi => by rw [Nat.testBit_mod_two_pow]; simp; omega
theorem rankN_zero : ∀ n, rankN 0 n = 0
  | 0 => rfl
  | n + 1 => by unfold rankN; rw [rankN_zero n]; simp
theorem rankN_small {s k : Nat} (h : s < 2 ^ k) (m : Nat) : rankN s (k + m) = rankN s k := by
  rw [rankN_add, Nat.div_eq_of_lt h, rankN_zero]; rfl
theorem pop8_rank : ∀ n : Fin 256, Lib.pop8 (n.val : Int) = ((rankN n.val 8 : Nat) : Int) := by decide +kernel
theorem rank_bytes (x : Nat) : rankN x 32 = rankN (x / 16777216) 8 + rankN (x / 65536 % 256) 8 + rankN (x / 256 % 256) 8 + rankN (x % 256) 8 := by
  have h1 : rankN x (8 + 24) = _ := rankN_add x 8 24
  have h2 : rankN (x / 2 ^ 8) (8 + 16) = _ := rankN_add _ 8 16
  have h3 : rankN (x / 2 ^ 8 / 2 ^ 8) (8 + 8) = _ := rankN_add _ 8 8
  rw [Nat.div_div_eq_div_mul] at h2 h3
  rw [Nat.div_div_eq_div_mul] at h3
  have e1 := rankN_mod x (m := 8) (n := 8) (Nat.le_refl _)
  have e2 := rankN_mod (x / 2 ^ 8) (m := 8) (n := 8) (Nat.le_refl _)
  have e3 := rankN_mod (x / (2 ^ 8 * 2 ^ 8)) (m := 8) (n := 8) (Nat.le_refl _)
  simp only [Nat.reducePow, Nat.reduceMul, Nat.reduceAdd] at *
  omega
theorem and_255 {y : Nat} (h : y < 4294967296) : bits .and .u32 (y : Int) 255 = ((y % 256 : Nat) : Int) := by
  have := u32_and_nat y 255 h (by omega)
  rw [show (255 : Nat) = 2 ^ 8 - 1 from rfl, Nat.and_two_pow_sub_one_eq_mod] at this
  exact this

theorem ones_any {x : Nat} (hx : x < 4294967296) (w : World) : Calls Tryd.prog 19 #[.int .u32 x] w fun e w' => e = .returned (.int .i64 ((rankN x 32 : Nat) : Int)) ∧ w' = w.drew := by
  have h1 := rankN_le (x / 16777216) 8
  have h2 := rankN_le (x / 65536 % 256) 8
  have h3 := rankN_le (x / 256 % 256) 8
  have h4 := rankN_le (x % 256) 8
  rw [rank_bytes]
  refine ones_walk (x / 16777216) (x / 65536 % 256) (x / 256 % 256) (x % 256) (rankN (x / 16777216) 8) (rankN (x / 65536 % 256) 8) (rankN (x / 256 % 256) 8) (rankN (x % 256) 8) (rankN (x / 16777216) 8 + rankN (x / 65536 % 256) 8) (rankN (x / 16777216) 8 + rankN (x / 65536 % 256) 8 + rankN (x / 256 % 256) 8) (rankN (x / 16777216) 8 + rankN (x / 65536 % 256) 8 + rankN (x / 256 % 256) 8 + rankN (x % 256) 8)
    (by omega) (by omega) (by omega) (by omega) x (by simp) ?_ ?_ (and_255 hx) (pop8_rank ⟨_, by omega⟩) (pop8_rank ⟨_, by omega⟩) (pop8_rank ⟨_, by omega⟩) (pop8_rank ⟨_, by omega⟩) (by omega) (by omega) (by omega) (by unfold wrap64; omega) w
  · have := and_255 (y := x / 65536) (by omega)
    rw [← this]; simp
  · have := and_255 (y := x / 256) (by omega)
    rw [← this]; simp

/-- A bit's number as ranks take it. -/
def clampN (b : Int) : Nat := if b < 0 then 0 else if 32 < b then 32 else b.toNat
theorem clampN_le (b : Int) : clampN b ≤ 32 := by unfold clampN; split; omega; split <;> omega

theorem brank_any {s : Nat} (hs : s < 4294967296) (b : Int) (h1 : -9223372036854775808 ≤ b) (h2 : b ≤ 9223372036854775807) (w : World) :
    Calls Tryd.prog 6 #[.int .u32 s, .int .i64 b] w fun e w' => e = .returned (.int .i64 ((rankN s (clampN b) : Nat) : Int)) ∧ w' = w.drew := by
  have hcl := clampN_le b
  obtain ⟨z, hz1, hz2, hz3, hz4, hzb⟩ : ∃ z : Int, (if b < 0 then 0 else b) = z ∧ (if b ≤ 0 then 0 else b) = z ∧ (if 0 < b then b else 0) = z ∧ (if 0 ≤ b then b else 0) = z ∧ (z = if b < 0 then 0 else b) := by
    refine ⟨_, rfl, ?_, ?_, ?_, rfl⟩ <;> split <;> split <;> omega
  obtain ⟨m, hm⟩ : ∃ m, clampN b = m := ⟨_, rfl⟩
  have hy : (if z < 32 then z else 32) = ((m : Nat) : Int) ∧ (if z ≤ 32 then z else 32) = ((m : Nat) : Int) ∧ (if 32 < z then 32 else z) = ((m : Nat) : Int) ∧ (if 32 ≤ z then 32 else z) = ((m : Nat) : Int) := by
    have key : (z < 0 ∧ False) ∨ (0 ≤ z ∧ z ≤ 32 ∧ (m : Int) = z) ∨ (32 < z ∧ m = 32) := by
      rw [← hm]; unfold clampN
      by_cases hb0 : b < 0
      · rw [if_pos hb0] at hzb ⊢; right; left; omega
      · rw [if_neg hb0] at hzb ⊢
        by_cases hb1 : 32 < b
        · rw [if_pos hb1]; right; right; omega
        · rw [if_neg hb1]; right; left; omega
    refine ⟨?_, ?_, ?_, ?_⟩ <;> split <;> omega
  obtain ⟨hy1, hy2, hy3, hy4⟩ := hy
  rw [hm]
  rw [hm] at hcl
  have hsh : IntKind.u32.wrap (IntKind.u32.wrap ((1 : Int) * 2 ^ m) - 1) = ((2 ^ m - 1 : Nat) : Int) := by
    rw [IntKind.wrap_u32', IntKind.wrap_u32', Int.one_mul, show ((2 : Int) ^ m) = ((2 ^ m : Nat) : Int) by simp]
    have h1 : 2 ^ m ≤ 2 ^ 32 := Nat.pow_le_pow_right (by omega) hcl
    have h0 : 0 < 2 ^ m := Nat.pow_pos (by omega)
    by_cases he : 2 ^ m = 4294967296
    · rw [he]; decide
    · generalize 2 ^ m = q at *
      omega
  have hand : bits .and .u32 (s : Int) ((2 ^ m - 1 : Nat) : Int) = ((s % 2 ^ m : Nat) : Int) := by
    have h1 : 2 ^ m ≤ 2 ^ 32 := Nat.pow_le_pow_right (by omega) hcl
    have h0 : 0 < 2 ^ m := Nat.pow_pos (by omega)
    rw [u32_and_nat s _ hs (by omega), Nat.and_two_pow_sub_one_eq_mod]
  have hlt : s % 2 ^ m < 4294967296 := Nat.lt_of_le_of_lt (Nat.mod_le _ _) hs
  have hrk : rankN (s % 2 ^ m) 32 = rankN s m := by
    have h0 : 0 < 2 ^ m := Nat.pow_pos (by omega)
    have := rankN_small (s := s % 2 ^ m) (k := m) (Nat.mod_lt _ h0) (32 - m)
    rw [show m + (32 - m) = 32 by omega] at this
    rw [this, rankN_mod s (Nat.le_refl _)]
  have hO := ones_any hlt
  rw [hrk] at hO
  rw [IntKind.wrap_u32', IntKind.wrap_u32', Int.one_mul] at hsh
  have dm : decide ((m : Int) < 0) = false := by simp
  generalize rankN s m = R at *
  generalize 2 ^ m - 1 = Q at *
  generalize s % 2 ^ m = q at *
  clear hm hzb hrk
  go_enter Tryd.func6, Tryd.ntmps6
  go_wp2_with (go_at_call 19; refine (hO _).mono ?_; rintro e w' ⟨rfl, rfl⟩)
  go_ret
  exact ⟨rfl, rfl⟩

theorem refrank_any {s : Nat} (hs : s < 4294967296) (b : Int) (h1 : -9223372036854775808 ≤ b) (h2 : b ≤ 9223372036854775807) (w : World) :
    Calls Tryd.prog 7 #[.int .u32 s, .int .i64 b] w fun e w' => e = .returned (.int .i64 ((rankN s (clampN b) : Nat) : Int)) ∧ w = w' := by
  have hcl := clampN_le b
  have hcm : ∀ k : Nat, k ≤ 32 → (k < clampN b ↔ (k : Int) < b ∧ k < 32) := fun k hk => by unfold clampN; split; omega; split <;> omega
  obtain ⟨T, hT⟩ : ∃ T, rankN s (clampN b) = T := ⟨_, rfl⟩
  rw [hT]
  generalize clampN b = c at *
  have HT := Lib.hid hT
  have HC := Lib.hid hcm
  have hH := fun k : Nat => fun (hk : k < 32) w => refhas_any hs (k : Int) (by omega) (by omega) w
  clear hT hcm
  go_enter Tryd.func7, Tryd.ntmps7
  go_wp2
  go_loop [5, 6] (fun n i => ∃ k : Nat, k ≤ c ∧ i = .int .i64 (k : Int) ∧ n = .int .i64 ((rankN s k : Nat) : Int)) (fun _ i => c - (intOf i).toNat)
  case atStart => exact ⟨0, by omega, rfl, rfl⟩
  case round =>
    obtain ⟨k, hk, rfl, rfl⟩ := hrel
    have hrl := rankN_le s k
    by_cases hlt : k < c
    · have hm := ((HC.out k (by omega)).1 hlt)
      have d1 : decide ((k : Int) < b) = true := by simpa using hm.1
      have d2 : decide ((k : Int) < 32) = true := by simp; omega
      have d3 : decide (k < 32) = true := by simp; omega
      have hh := hH k hm.2
      clear hm
      obtain ⟨t, ht⟩ : ∃ t, hasN s (k : Int) = t := ⟨_, rfl⟩
      have hr : rankN s (k + 1) = rankN s k + if t then 1 else 0 := by
        show rankN s k + _ = _
        rw [← ht]; unfold hasN; simp; split <;> split <;> simp_all <;> omega
      rw [ht] at hh
      have HR := Lib.hid hr
      clear ht hr
      cases t
      · go_wp2_with (go_at_call 9; refine (hh _).mono ?_; rintro e w' ⟨rfl, rfl⟩)
        go_round
        case rel => exact ⟨k + 1, by omega, by go_num, by rw [HR.out]; rfl⟩
        case measure => simp [intOf]; omega
      · go_wp2_with (go_at_call 9; refine (hh _).mono ?_; rintro e w' ⟨rfl, rfl⟩)
        go_round
        case rel => exact ⟨k + 1, by omega, by go_num, by rw [HR.out]; go_num⟩
        case measure => simp [intOf]; omega
    · have e : k = c := by omega
      subst e
      have HD := Lib.hid (show ¬ ((k : Int) < b ∧ k < 32) from fun hh => hlt ((HC.out k (by omega)).2 hh))
      by_cases h3 : (k : Int) < b
      · have d1 : decide ((k : Int) < b) = true := by simpa using h3
        have d2 : decide ((k : Int) < 32) = false := by have := HD.out; simp; omega
        have d3 : decide (k < 32) = false := by have := HD.out; simp; omega
        clear h3
        go_wp2
        go_ret
        exact ⟨by rw [← HT.out]; rfl, rfl⟩
      · have d1 : decide ((k : Int) < b) = false := by simpa using h3
        clear h3
        go_wp2
        go_ret
        exact ⟨by rw [← HT.out]; rfl, rfl⟩
end Go.Proofs.YtcehdjpjniemjaaDoor
