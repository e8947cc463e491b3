/-
  The longest match within a node, and the contracts of bitmap.Match, and of the reference's Has, power, Index, Match. Nothing here is a statement of the document.
-/
import Derived.Test.YtcehdjpjniemjaaDoorBmpA
namespace Go.Proofs.YtcehdjpjniemjaaDoor
open Go.RowKit
set_option linter.unusedVariables false

/-- The lowest four bits of a number. -/
def lowN (x : Int) : Nat := (x % 16).toNat
theorem lowN_lt (x : Int) : lowN x < 16 := by unfold lowN; omega
theorem and15 (x : Int) : bits .and .i64 x 15 = ((lowN x : Nat) : Int) := by
  have h2 : (BitVec.ofInt 64 (15 : Int)).toNat = 15 := by decide
  show IntKind.i64.wrap (((BitVec.ofInt 64 x &&& BitVec.ofInt 64 15).toNat : Nat) : Int) = _
  rw [BitVec.toNat_and, h2, show (15 : Nat) = 2 ^ 4 - 1 from rfl, Nat.and_two_pow_sub_one_eq_mod, BitVec.toNat_ofInt]
  unfold lowN
  simp [IntKind.wrap, IntKind.bits, IntKind.signed]
  omega

/-- The longest prefix of fewer than k bits that is set and begins these four; whether there is one. -/
def hitN (low k : Nat) : Nat := 2 ^ k - 1 + low / 2 ^ (4 - k)
def matN (s low : Nat) : Nat → Nat × Bool
  | 0 => (0, false)
  | k + 1 => if hasN s ((hitN low k : Nat) : Int) then (hitN low k, true) else matN s low k
theorem matN_yes {s low k : Nat} (h : hasN s ((hitN low k : Nat) : Int) = true) : matN s low (k + 1) = (hitN low k, true) := by
  show (if _ then _ else _) = _
  rw [if_pos h]
theorem matN_no {s low k : Nat} (h : hasN s ((hitN low k : Nat) : Int) = false) : matN s low (k + 1) = matN s low k := by
  show (if _ then _ else _) = _
  rw [if_neg (by simp [h])]
def cntN (m : Int) : Nat := if m < 0 then 0 else if 3 < m then 4 else m.toNat + 1
theorem cntN_le (m : Int) : cntN m ≤ 4 := by unfold cntN; split; omega; split <;> omega
theorem cntN_min (m : Int) (h : 0 ≤ m) : (if 3 < m then 3 else m) = ((cntN m : Nat) : Int) - 1 := by unfold cntN; split <;> split <;> omega
theorem hitN_lt {low k : Nat} (hl : low < 16) (hk : k ≤ 3) : hitN low k < 15 := by
  have hc : k = 0 ∨ k = 1 ∨ k = 2 ∨ k = 3 := by omega
  rcases hc with rfl | rfl | rfl | rfl <;> simp [hitN] <;> omega

set_option maxHeartbeats 1600000 in
theorem match_any {s : Nat} (hs : s < 4294967296) (x m : Int) (h1 : -9223372036854775808 ≤ m) (h2 : m ≤ 9223372036854775807) (w : World) :
    Calls Tryd.prog 18 #[.int .u32 s, .int .i64 x, .int .i64 m] w fun e w' => e = .returned (.tuple #[.int .i64 (((matN s (lowN x) (cntN m)).1 : Nat) : Int), .bool (matN s (lowN x) (cntN m)).2]) ∧ w = w' := by
  have ha := and15 x
  have hl := lowN_lt x
  have hH := fun b h1 h2 w => bhas_any hs b h1 h2 w
  have hP := fun k v hk hv w => place_any k v hk hv w
  generalize lowN x = low at *
  obtain ⟨T, hT⟩ : ∃ T, matN s low (cntN m) = T := ⟨_, rfl⟩
  rw [hT]
  obtain ⟨z, hz, hzc⟩ : ∃ z : Int, (if 3 < m then 3 else m) = z ∧ ((z < 0 ∧ cntN m = 0) ∨ (0 ≤ z ∧ z = ((cntN m : Nat) : Int) - 1)) := by
    refine ⟨_, rfl, ?_⟩
    by_cases hm : m < 0
    · left; rw [if_neg (by omega)]; exact ⟨hm, by simp [cntN, hm]⟩
    · right; rw [cntN_min m (by omega)]; refine ⟨?_, rfl⟩; unfold cntN; rw [if_neg hm]; split <;> omega
  have hz2 : (if m ≤ 3 then m else 3) = z := by rw [← hz]; split <;> split <;> omega
  have hz3 : (if m < 3 then m else 3) = z := by rw [← hz]; split <;> split <;> omega
  have hcl := cntN_le m
  generalize cntN m = c at *
  have HT := Lib.hid hT
  have HZ := Lib.hid hzc
  clear hT hzc
  go_enter Tryd.func18, Tryd.ntmps18
  go_wp2
  go_loop [9] (fun i => (∃ k : Nat, k ≤ 4 ∧ i = .int .i64 ((k : Int) - 1) ∧ matN s low k = T) ∨ (∃ y : Int, y < 0 ∧ i = .int .i64 y ∧ matN s low 0 = T)) (fun i => (intOf i + 1).toNat)
  case atStart =>
    rcases HZ.out with ⟨h0, hc⟩ | ⟨h0, hc⟩
    · right; exact ⟨z, h0, rfl, by rw [← HT.out, hc]⟩
    · left; exact ⟨c, hcl, by rw [← hc], HT.out⟩
  case round =>
    rcases hrel with ⟨k, hk, rfl, hT⟩ | ⟨y, hy, rfl, hT⟩
    · have hc : k = 0 ∨ k = 1 ∨ k = 2 ∨ k = 3 ∨ k = 4 := by omega
      rcases hc with rfl | rfl | rfl | rfl | rfl
      · have hT := Lib.hid hT
        go_wp2
        go_ret2
        exact ⟨by rw [← hT.out]; rfl, rfl⟩
      · have hv : (low : Int) / 16 = ((low / 16 : Nat) : Int) := by simp
        have hp := hP 0 (low / 16) (by omega) (by omega)
        have hb : hitN low 0 < 15 := hitN_lt hl (by omega)
        have he : 2 ^ 0 - 1 + low / 16 = hitN low 0 := rfl
        rw [he] at hp
        have hh := hH ((hitN low 0 : Nat) : Int) (by omega) (by omega)
        by_cases hq : hasN s ((hitN low 0 : Nat) : Int) = true
        · rw [matN_yes hq] at hT
          rw [hq] at hh
          have hT := Lib.hid hT
          clear hq he
          generalize low / 16 = v at *
          generalize hitN low 0 = hit at *
          go_wp2_with (first | (go_at_call 23; refine (hp _).mono ?_; rintro e w' ⟨rfl, rfl⟩) | (go_at_call 8; refine (hh _).mono ?_; rintro e w' ⟨rfl, rfl⟩))
          go_ret2
          exact ⟨by rw [← hT.out]; rfl, rfl⟩
        · have hq : hasN s ((hitN low 0 : Nat) : Int) = false := by simpa using hq
          rw [matN_no hq] at hT
          rw [hq] at hh
          have hT := Lib.hid hT
          clear hq he
          generalize low / 16 = v at *
          generalize hitN low 0 = hit at *
          go_wp2_with (first | (go_at_call 23; refine (hp _).mono ?_; rintro e w' ⟨rfl, rfl⟩) | (go_at_call 8; refine (hh _).mono ?_; rintro e w' ⟨rfl, rfl⟩))
          go_round
          case rel => exact .inl ⟨0, by omega, by go_num, hT.out⟩
          case measure => simp [intOf]
      · have hv : (low : Int) / 8 = ((low / 8 : Nat) : Int) := by simp
        have hp := hP 1 (low / 8) (by omega) (by omega)
        have hb : hitN low 1 < 15 := hitN_lt hl (by omega)
        have he : 2 ^ 1 - 1 + low / 8 = hitN low 1 := rfl
        rw [he] at hp
        have hh := hH ((hitN low 1 : Nat) : Int) (by omega) (by omega)
        by_cases hq : hasN s ((hitN low 1 : Nat) : Int) = true
        · rw [matN_yes hq] at hT
          rw [hq] at hh
          have hT := Lib.hid hT
          clear hq he
          generalize low / 8 = v at *
          generalize hitN low 1 = hit at *
          go_wp2_with (first | (go_at_call 23; refine (hp _).mono ?_; rintro e w' ⟨rfl, rfl⟩) | (go_at_call 8; refine (hh _).mono ?_; rintro e w' ⟨rfl, rfl⟩))
          go_ret2
          exact ⟨by rw [← hT.out]; rfl, rfl⟩
        · have hq : hasN s ((hitN low 1 : Nat) : Int) = false := by simpa using hq
          rw [matN_no hq] at hT
          rw [hq] at hh
          have hT := Lib.hid hT
          clear hq he
          generalize low / 8 = v at *
          generalize hitN low 1 = hit at *
          go_wp2_with (first | (go_at_call 23; refine (hp _).mono ?_; rintro e w' ⟨rfl, rfl⟩) | (go_at_call 8; refine (hh _).mono ?_; rintro e w' ⟨rfl, rfl⟩))
          go_round
          case rel => exact .inl ⟨1, by omega, by go_num, hT.out⟩
          case measure => simp [intOf]
      · have hv : (low : Int) / 4 = ((low / 4 : Nat) : Int) := by simp
        have hp := hP 2 (low / 4) (by omega) (by omega)
        have hb : hitN low 2 < 15 := hitN_lt hl (by omega)
        have he : 2 ^ 2 - 1 + low / 4 = hitN low 2 := rfl
        rw [he] at hp
        have hh := hH ((hitN low 2 : Nat) : Int) (by omega) (by omega)
        by_cases hq : hasN s ((hitN low 2 : Nat) : Int) = true
        · rw [matN_yes hq] at hT
          rw [hq] at hh
          have hT := Lib.hid hT
          clear hq he
          generalize low / 4 = v at *
          generalize hitN low 2 = hit at *
          go_wp2_with (first | (go_at_call 23; refine (hp _).mono ?_; rintro e w' ⟨rfl, rfl⟩) | (go_at_call 8; refine (hh _).mono ?_; rintro e w' ⟨rfl, rfl⟩))
          go_ret2
          exact ⟨by rw [← hT.out]; rfl, rfl⟩
        · have hq : hasN s ((hitN low 2 : Nat) : Int) = false := by simpa using hq
          rw [matN_no hq] at hT
          rw [hq] at hh
          have hT := Lib.hid hT
          clear hq he
          generalize low / 4 = v at *
          generalize hitN low 2 = hit at *
          go_wp2_with (first | (go_at_call 23; refine (hp _).mono ?_; rintro e w' ⟨rfl, rfl⟩) | (go_at_call 8; refine (hh _).mono ?_; rintro e w' ⟨rfl, rfl⟩))
          go_round
          case rel => exact .inl ⟨2, by omega, by go_num, hT.out⟩
          case measure => simp [intOf]
      · have hv : (low : Int) / 2 = ((low / 2 : Nat) : Int) := by simp
        have hp := hP 3 (low / 2) (by omega) (by omega)
        have hb : hitN low 3 < 15 := hitN_lt hl (by omega)
        have he : 2 ^ 3 - 1 + low / 2 = hitN low 3 := rfl
        rw [he] at hp
        have hh := hH ((hitN low 3 : Nat) : Int) (by omega) (by omega)
        by_cases hq : hasN s ((hitN low 3 : Nat) : Int) = true
        · rw [matN_yes hq] at hT
          rw [hq] at hh
          have hT := Lib.hid hT
          clear hq he
          generalize low / 2 = v at *
          generalize hitN low 3 = hit at *
          go_wp2_with (first | (go_at_call 23; refine (hp _).mono ?_; rintro e w' ⟨rfl, rfl⟩) | (go_at_call 8; refine (hh _).mono ?_; rintro e w' ⟨rfl, rfl⟩))
          go_ret2
          exact ⟨by rw [← hT.out]; rfl, rfl⟩
        · have hq : hasN s ((hitN low 3 : Nat) : Int) = false := by simpa using hq
          rw [matN_no hq] at hT
          rw [hq] at hh
          have hT := Lib.hid hT
          clear hq he
          generalize low / 2 = v at *
          generalize hitN low 3 = hit at *
          go_wp2_with (first | (go_at_call 23; refine (hp _).mono ?_; rintro e w' ⟨rfl, rfl⟩) | (go_at_call 8; refine (hh _).mono ?_; rintro e w' ⟨rfl, rfl⟩))
          go_round
          case rel => exact .inl ⟨3, by omega, by go_num, hT.out⟩
          case measure => simp [intOf]
    · have hT := Lib.hid hT
      have d1 : decide (0 ≤ y) = false := by simp; omega
      go_wp2
      go_ret2
      exact ⟨by rw [← hT.out]; rfl, rfl⟩
theorem div_bit (s n : Nat) : (s / 2 ^ n % 2 == 1) = s.testBit n := by rw [Nat.testBit_eq_decide_div_mod_eq, Bool.eq_iff_iff]; simp

theorem refhas_any {s : Nat} (hs : s < 4294967296) (b : Int) (h1 : -9223372036854775808 ≤ b) (h2 : b ≤ 9223372036854775807) (w : World) :
    Calls Tryd.prog 9 #[.int .u32 s, .int .i64 b] w fun e w' => e = .returned (.bool (hasN s b)) ∧ w = w' := by
  by_cases hb : b < 0
  · have d1 : decide (b < 0) = true := by simpa using hb
    have hr : hasN s b = false := by unfold hasN; simp; omega
    rw [hr]
    clear hr
    go_enter Tryd.func9, Tryd.ntmps9
    go_wp2
    go_ret
    exact ⟨rfl, rfl⟩
  · obtain ⟨n, rfl⟩ := Int.eq_ofNat_of_zero_le (by omega : 0 ≤ b)
    have d1 : decide ((n : Int) < 0) = false := by simp
    by_cases hn : n < 32
    · have d2 : decide ((31 : Int) < (n : Int)) = false := by simp; omega
      have d3 : decide (31 < n) = false := by simp; omega
      have hr : hasN s (n : Int) = (s / 2 ^ n % 2 == 1) := by rw [div_bit]; unfold hasN; simp; omega
      rw [hr]
      clear hr
      obtain ⟨X, hX⟩ : ∃ X : Nat → Nat, ∀ i, s / 2 ^ i = X i := ⟨fun i => s / 2 ^ i, fun _ => rfl⟩
      have x0 : X 0 = s := by rw [← hX]; simp
      have xs : ∀ i, X (i + 1) = X i / 2 := fun i => by rw [← hX, ← hX, Nat.pow_succ, Nat.div_div_eq_div_mul]
      have xl : ∀ i, X i < 4294967296 := fun i => by rw [← hX]; exact Nat.lt_of_le_of_lt (Nat.div_le_self _ _) hs
      rw [hX]
      have X0 := Lib.hid x0
      have XS := Lib.hid xs
      have XL := Lib.hid xl
      clear hX x0 xs xl hs
      go_enter Tryd.func9, Tryd.ntmps9
      go_wp2
      go_loop [0, 5] (fun x i => ∃ j : Nat, j ≤ n ∧ i = .int .i64 (j : Int) ∧ x = .int .u32 ((X j : Nat) : Int)) (fun _ i => n - (intOf i).toNat)
      case atStart => exact ⟨0, by omega, rfl, by rw [X0.out]⟩
      case round =>
        obtain ⟨j, hj, rfl, rfl⟩ := hrel
        have hxl := XL.out j
        have hxs := Lib.hid (XS.out j)
        by_cases hlt : j < n
        · have d4 : decide ((j : Int) < (n : Int)) = true := by simp; omega
          have d5 : decide (j < n) = true := by simp; omega
          generalize X j = a at *
          go_wp2
          go_round
          case rel => exact ⟨j + 1, by omega, by go_num, by rw [hxs.out]; rfl⟩
          case measure => simp [intOf]; omega
        · have d4 : decide ((j : Int) < (n : Int)) = false := by simp; omega
          have d5 : decide (j < n) = false := by simp; omega
          have e : j = n := by omega
          subst e
          generalize hg : X j = a at *
          have HG := Lib.hid hg
          clear hg
          have hf : (((a : Int) % 2) == 1) = (a % 2 == 1) := by rw [Bool.eq_iff_iff]; simp; omega
          have HF := Lib.hid hf
          clear hf
          go_wp2
          go_ret
          refine ⟨?_, rfl⟩
          rw [HG.out, ← HF.out]
          rfl
    · have d2 : decide ((31 : Int) < (n : Int)) = true := by simp; omega
      have d3 : decide (31 < n) = true := by simp; omega
      have hr : hasN s (n : Int) = false := by unfold hasN; simp; omega
      rw [hr]
      clear hr
      go_enter Tryd.func9, Tryd.ntmps9
      go_wp2
      go_ret
      exact ⟨rfl, rfl⟩

end Go.Proofs.YtcehdjpjniemjaaDoor
