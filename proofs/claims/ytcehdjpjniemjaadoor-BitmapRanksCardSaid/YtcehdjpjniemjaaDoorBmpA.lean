/-
  Sets of 32 bits as numbers, and the contracts of bitmap.only, Has, With, Without, place, Index, and of the reference's Has, power, Index. Nothing here is a statement of the document.
-/
import Derived.Test.YtcehdjpjniemjaaDoorDskC
import Derived.Lib.BitFns
namespace Go.Proofs.YtcehdjpjniemjaaDoor
open Go.RowKit
set_option linter.unusedVariables false

/-! ### Sets as numbers -/
/-- The set of this bit alone; of none that a set has: the empty one. -/
def oneN (b : Int) : Nat := if 0 ≤ b ∧ b < 32 then 2 ^ b.toNat else 0
theorem oneN_in {n : Nat} (h : n < 32) : oneN (n : Int) = 2 ^ n := by
  unfold oneN; rw [if_pos ⟨by omega, by omega⟩]; simp
theorem oneN_out {b : Int} (h : b < 0 ∨ 32 ≤ b) : oneN b = 0 := by
  unfold oneN; rw [if_neg (by omega)]
theorem oneN_lt (b : Int) : oneN b < 4294967296 := by
  unfold oneN
  split
  · have : (2 : Nat) ^ b.toNat < 2 ^ 32 := Nat.pow_lt_pow_right (by omega) (by omega)
    omega
  · omega
theorem oneN_bit (b : Int) (i : Nat) : (oneN b).testBit i = decide ((i : Int) = b ∧ i < 32) := by
  unfold oneN
  split
  · rw [Nat.testBit_two_pow, Bool.eq_iff_iff]; simp; omega
  · simp; omega
/-- Is this bit set? -/
def hasN (s : Nat) (b : Int) : Bool := decide (0 ≤ b ∧ b < 32) && s.testBit b.toNat
def withN (s : Nat) (b : Int) : Nat := s ||| oneN b
def lessN (s : Nat) (b : Int) : Nat := s &&& (4294967295 - oneN b)
theorem withN_lt {s : Nat} (h : s < 4294967296) (b : Int) : withN s b < 4294967296 := Nat.or_lt_two_pow (n := 32) h (oneN_lt b)
theorem lessN_lt {s : Nat} (h : s < 4294967296) (b : Int) : lessN s b < 4294967296 := Nat.lt_of_le_of_lt Nat.and_le_left h
theorem withN_bit (s : Nat) (b : Int) (i : Nat) : (withN s b).testBit i = (s.testBit i || decide ((i : Int) = b ∧ i < 32)) := by
  rw [withN, Nat.testBit_or, oneN_bit]
theorem lessN_bit {s : Nat} (h : s < 4294967296) (b : Int) (i : Nat) : (lessN s b).testBit i = (s.testBit i && !decide ((i : Int) = b ∧ i < 32)) := by
  have h1 := oneN_lt b
  have e : 4294967295 - oneN b = 2 ^ 32 - (oneN b + 1) := by omega
  rw [lessN, Nat.testBit_and, e, Nat.testBit_two_pow_sub_succ h1, oneN_bit]
  by_cases hi : i < 32
  · simp [hi]
  · have : s.testBit i = false := Nat.testBit_lt_two_pow (Nat.lt_of_lt_of_le h (show 2 ^ 32 ≤ 2 ^ i from Nat.pow_le_pow_right (by omega) (by omega)))
    simp [this]
theorem and_two_pow_ne (s n : Nat) : decide (s &&& 2 ^ n ≠ 0) = s.testBit n := by
  rw [Bool.eq_iff_iff, decide_eq_true_iff]
  constructor
  · intro h
    apply Classical.byContradiction
    intro hn
    apply h
    apply Nat.eq_of_testBit_eq
    intro i
    rw [Nat.testBit_and, Nat.testBit_two_pow, Nat.zero_testBit]
    by_cases hi : n = i
    · subst hi; simp at hn; simp [hn]
    · simp [hi]
  · intro h he
    have := congrArg (·.testBit n) he
    simp [Nat.testBit_and, Nat.testBit_two_pow, h] at this
theorem hasN_and {s : Nat} (b : Int) : (s &&& oneN b != 0) = hasN s b := by
  have e : (s &&& oneN b != 0) = decide (s &&& oneN b ≠ 0) := by rw [Bool.eq_iff_iff]; simp
  rw [e]
  unfold oneN hasN
  split
  · rename_i h; rw [and_two_pow_ne]; simp [h]
  · rename_i h; simp [h]
theorem hasN_and_int {s : Nat} (hs : s < 4294967296) (b : Int) : (bits .and .u32 (s : Int) ((oneN b : Nat) : Int) != 0) = hasN s b := by
  rw [u32_and_nat _ _ hs (oneN_lt b), ← hasN_and]
  rw [Bool.eq_iff_iff]; simp

/-! ### The contracts -/
theorem shl_u32 {n : Nat} (h : n < 32) : IntKind.u32.wrap ((1 : Int) * 2 ^ n) = ((2 ^ n : Nat) : Int) := by
  have : (2 : Nat) ^ n < 2 ^ 32 := Nat.pow_lt_pow_right (by omega) h
  rw [IntKind.wrap_u32']
  have e : ((2 : Int) ^ n) = ((2 ^ n : Nat) : Int) := by simp
  rw [Int.one_mul, e]
  generalize 2 ^ n = q at *
  omega

theorem only_any (b : Int) (h1 : -9223372036854775808 ≤ b) (h2 : b ≤ 9223372036854775807) (w : World) :
    Calls Tryd.prog 20 #[.int .i64 b] w fun e w' => e = .returned (.int .u32 ((oneN b : Nat) : Int)) ∧ w = w' := by
  by_cases hb : b < 0
  · have hr := Lib.hid (oneN_out (.inl hb))
    have d1 : decide (b < 0) = true := by simpa using hb
    go_enter Tryd.func20, Tryd.ntmps20
    go_wp2
    go_ret
    exact ⟨by rw [hr.out]; rfl, rfl⟩
  · obtain ⟨n, rfl⟩ := Int.eq_ofNat_of_zero_le (by omega : 0 ≤ b)
    have d1 : decide ((n : Int) < 0) = false := by simp
    by_cases hn : n < 32
    · have hr := Lib.hid (oneN_in hn)
      have d2 : decide ((32 : Int) ≤ (n : Int)) = false := by simp; omega
      have d3 : decide (32 ≤ n) = false := by simp; omega
      have hs := shl_u32 hn
      go_enter Tryd.func20, Tryd.ntmps20
      go_wp2
      go_ret
      refine ⟨?_, rfl⟩
      have hs2 := shl_u32 hn
      rw [IntKind.wrap_u32', Int.one_mul] at hs2
      rw [hr.out, ← hs2]
      rfl
    · have hr := Lib.hid (oneN_out (b := (n : Int)) (.inr (by omega)))
      have d2 : decide ((32 : Int) ≤ (n : Int)) = true := by simp; omega
      have d3 : decide (32 ≤ n) = true := by simp; omega
      go_enter Tryd.func20, Tryd.ntmps20
      go_wp2
      go_ret
      exact ⟨by rw [hr.out]; rfl, rfl⟩

theorem bhas_any {s : Nat} (hs : s < 4294967296) (b : Int) (h1 : -9223372036854775808 ≤ b) (h2 : b ≤ 9223372036854775807) (w : World) :
    Calls Tryd.prog 8 #[.int .u32 s, .int .i64 b] w fun e w' => e = .returned (.bool (hasN s b)) ∧ w = w' := by
  have hh := Lib.hid (hasN_and_int hs b)
  have ho := fun w => only_any b h1 h2 w
  generalize oneN b = o at *
  go_enter Tryd.func8, Tryd.ntmps8
  go_wp2_with (go_at_call 20; refine (ho _).mono ?_; rintro e w' ⟨rfl, rfl⟩)
  go_ret
  exact ⟨by rw [← hh.out]; rfl, rfl⟩

theorem bwith_any {s : Nat} (hs : s < 4294967296) (b : Int) (h1 : -9223372036854775808 ≤ b) (h2 : b ≤ 9223372036854775807) (w : World) :
    Calls Tryd.prog 10 #[.int .u32 s, .int .i64 b] w fun e w' => e = .returned (.int .u32 ((withN s b : Nat) : Int)) ∧ w = w' := by
  have hh := Lib.hid (u32_or_nat s (oneN b) hs (oneN_lt b))
  have ho := fun w => only_any b h1 h2 w
  have hw := Lib.hid (show withN s b = s ||| oneN b from rfl)
  generalize oneN b = o at *
  go_enter Tryd.func10, Tryd.ntmps10
  go_wp2_with (go_at_call 20; refine (ho _).mono ?_; rintro e w' ⟨rfl, rfl⟩)
  go_ret
  exact ⟨by rw [hw.out, ← hh.out]; rfl, rfl⟩

theorem bless_any {s : Nat} (hs : s < 4294967296) (b : Int) (h1 : -9223372036854775808 ≤ b) (h2 : b ≤ 9223372036854775807) (w : World) :
    Calls Tryd.prog 12 #[.int .u32 s, .int .i64 b] w fun e w' => e = .returned (.int .u32 ((lessN s b : Nat) : Int)) ∧ w = w' := by
  have hh := Lib.hid (u32_andNot_nat s (oneN b) hs (oneN_lt b))
  have ho := fun w => only_any b h1 h2 w
  have hw := Lib.hid (show lessN s b = s &&& (4294967295 - oneN b) from rfl)
  generalize oneN b = o at *
  go_enter Tryd.func12, Tryd.ntmps12
  go_wp2_with (go_at_call 20; refine (ho _).mono ?_; rintro e w' ⟨rfl, rfl⟩)
  go_ret
  exact ⟨by rw [hw.out, ← hh.out]; rfl, rfl⟩

theorem place_any (k v : Nat) (hk : k ≤ 3) (hv : v < 16) (w : World) :
    Calls Tryd.prog 23 #[.int .i64 (k : Int), .int .i64 (v : Int)] w fun e w' => e = .returned (.int .i64 ((2 ^ k - 1 + v : Nat) : Int)) ∧ w = w' := by
  have hc : k = 0 ∨ k = 1 ∨ k = 2 ∨ k = 3 := by omega
  rcases hc with rfl | rfl | rfl | rfl <;>
  · go_enter Tryd.func23, Tryd.ntmps23
    go_wp2
    go_ret
    first | exact ⟨rfl, rfl⟩ | exact ⟨by simp, rfl⟩

/-- The bit of a prefix within a node, or the error. -/
def idxOk (k v : Int) : Bool := decide (0 ≤ k ∧ k ≤ 3 ∧ 0 ≤ v ∧ v < 2 ^ k.toNat)
def idxN (k v : Int) : Nat := if idxOk k v then 2 ^ k.toNat - 1 + v.toNat else 0
def idxE (k v : Int) : Int := if idxOk k v then 0 else 2
theorem index_any (k v : Int) (h1 : -9223372036854775808 ≤ k) (h2 : k ≤ 9223372036854775807) (h3 : -9223372036854775808 ≤ v) (h4 : v ≤ 9223372036854775807) (w : World) :
    Calls Tryd.prog 17 #[.int .i64 k, .int .i64 v] w fun e w' => e = .returned (.tuple #[.int .i64 ((idxN k v : Nat) : Int), .int .i64 (idxE k v)]) ∧ w = w' := by
  by_cases hk : 0 ≤ k ∧ k ≤ 3
  · obtain ⟨n, rfl⟩ := Int.eq_ofNat_of_zero_le hk.1
    have hc : n = 0 ∨ n = 1 ∨ n = 2 ∨ n = 3 := by omega
    by_cases hv : 0 ≤ v ∧ v < 2 ^ n
    · obtain ⟨m, rfl⟩ := Int.eq_ofNat_of_zero_le hv.1
      have hok : idxOk (n : Int) (m : Int) = true := by simp [idxOk]; omega
      have e1 : _ := (show idxN n m = 2 ^ n - 1 + m by simp [idxN, hok])
      have e2 : _ := (show idxE n m = 0 by simp [idxE, hok])
      have hm : m < 2 ^ n := by have := hv.2; rw [show ((2 : Int) ^ n) = ((2 ^ n : Nat) : Int) by simp] at this; omega
      have hm16 : m < 16 := Nat.lt_of_lt_of_le hm (show 2 ^ n ≤ 2 ^ 4 from Nat.pow_le_pow_right (by omega) (by omega))
      have hp := fun w => place_any n m (by omega) hm16 w
      rw [e1, e2]; clear hv hk hok e1 e2
      rcases hc with rfl | rfl | rfl | rfl
      all_goals
        simp only [Nat.reducePow, Nat.reduceSub] at hm hp ⊢
        have d1 : decide ((m : Int) < 0) = false := by simp
        go_enter Tryd.func17, Tryd.ntmps17
        go_wp2_with (go_at_call 23; refine (hp _).mono ?_; rintro e w' ⟨rfl, rfl⟩)
        all_goals first | (exfalso; omega) | (go_ret2; exact ⟨by first | rfl | simp, rfl⟩)
    · have hok : idxOk (n : Int) v = false := by simp [idxOk]; intro _ h; exact Int.not_lt.1 fun hl => hv ⟨h, hl⟩
      have e1 : _ := (show idxN n v = 0 by simp [idxN, hok])
      have e2 : _ := (show idxE n v = 2 by simp [idxE, hok])
      rw [e1, e2]; clear hk hok e1 e2
      rcases hc with rfl | rfl | rfl | rfl
      all_goals
        simp only [Int.reducePow] at hv
        by_cases h0 : v < 0
        · have d1 : decide (v < 0) = true := by simpa using h0
          go_enter Tryd.func17, Tryd.ntmps17
          go_wp2
          all_goals first | (exfalso; omega) | (go_ret2; exact ⟨by first | rfl | simp, rfl⟩)
        · have d1 : decide (v < 0) = false := by simpa using h0
          obtain ⟨m, rfl⟩ := Int.eq_ofNat_of_zero_le (by omega : 0 ≤ v)
          go_enter Tryd.func17, Tryd.ntmps17
          go_wp2
          all_goals first | (exfalso; omega) | (go_ret2; exact ⟨by first | rfl | simp, rfl⟩)
  · have hok : idxOk k v = false := by simp [idxOk]; omega
    have e1 : _ := (show idxN k v = 0 by simp [idxN, hok])
    have e2 : _ := (show idxE k v = 2 by simp [idxE, hok])
    rw [e1, e2]; clear hok e1 e2
    by_cases h0 : k < 0
    · have d1 : decide (k < 0) = true := by simpa using h0
      go_enter Tryd.func17, Tryd.ntmps17
      go_wp2
      go_ret2; exact ⟨by first | rfl | simp, rfl⟩
    · have d1 : decide (k < 0) = false := by simpa using h0
      have d2 : decide (3 < k) = true := by simp; omega
      go_enter Tryd.func17, Tryd.ntmps17
      go_wp2
      go_ret2; exact ⟨by first | rfl | simp, rfl⟩
end Go.Proofs.YtcehdjpjniemjaaDoor
