/-
  The contract of the reference's High. Nothing here is a statement of the document.
-/
import Derived.Test.YtoidklkloagioaaOctH
import Derived.Test.YtoidklkloagioaaOctG
namespace Go.Proofs.Ytoidklkloagioaa
open Go.RowKit
set_option linter.unusedVariables false
set_option maxRecDepth 100000

theorem high_bit_off (x n k : Nat) (h : x / 2 ^ k % 2 = 0) : highB (x % 2 ^ (k + 1)) n = highB (x % 2 ^ k) n := by
  have e : x % 2 ^ (k + 1) = x % 2 ^ k := by rw [Nat.mod_pow_succ, h]; omega
  rw [e]

theorem high_or (a k i : Nat) (ha : a < 2 ^ k) (hi : i ≠ k / 8) : (a + 2 ^ k) / 2 ^ (8 * i) % 256 = a / 2 ^ (8 * i) % 256 := by
  by_cases h : i < k / 8
  · have e : 2 ^ k = 2 ^ (8 * i) * (2 ^ (k - 8 * i - 8) * 256) := by
      rw [show (256 : Nat) = 2 ^ 8 from rfl, ← Nat.pow_add, ← Nat.pow_add]; congr 1; omega
    rw [e, Nat.add_mul_div_left _ _ (Nat.two_pow_pos _), Nat.add_mul_mod_self_right]
  · have h1 : 2 ^ (k + 1) ≤ 2 ^ (8 * i) := Nat.pow_le_pow_right (by omega) (by omega)
    have h2 : 2 ^ (k + 1) = 2 ^ k * 2 := Nat.pow_succ ..
    rw [Nat.div_eq_of_lt (by omega), Nat.div_eq_of_lt (by omega)]

theorem high_or_at (a k : Nat) (ha : a < 2 ^ k) : (a + 2 ^ k) / 2 ^ (8 * (k / 8)) % 256 = a / 2 ^ (8 * (k / 8)) % 256 + 2 ^ (k % 8) ∧ a / 2 ^ (8 * (k / 8)) % 256 < 2 ^ (k % 8) ∧ 2 ^ (k % 8) ≤ 128 := by
  have e : 2 ^ k = 2 ^ (8 * (k / 8)) * 2 ^ (k % 8) := by rw [← Nat.pow_add]; congr 1; omega
  have h1 : a / 2 ^ (8 * (k / 8)) < 2 ^ (k % 8) := by
    rw [Nat.div_lt_iff_lt_mul (Nat.two_pow_pos _), Nat.mul_comm, ← e]; exact ha
  have h2 : 2 ^ (k % 8) ≤ 2 ^ 7 := Nat.pow_le_pow_right (by omega) (by omega)
  have h3 : (2 : Nat) ^ 7 = 128 := rfl
  rw [e, Nat.add_mul_div_left _ _ (Nat.two_pow_pos _)]
  rw [h3] at h2
  clear e ha h3
  generalize a / 2 ^ (8 * (k / 8)) = b at *
  generalize 2 ^ (k % 8) = c at *
  omega

theorem high_bit_on (x n k : Nat) (h : x / 2 ^ k % 2 = 1) (hk : k / 8 < n) :
    highB (x % 2 ^ (k + 1)) n = (highB (x % 2 ^ k) n).set (n - 1 - k / 8) ((highB (x % 2 ^ k) n).getD (n - 1 - k / 8) 0 ||| 2 ^ (k % 8)) ∧ (highB (x % 2 ^ k) n).getD (n - 1 - k / 8) 0 < 256 ∧ 2 ^ (k % 8) ≤ 128 := by
  have e : x % 2 ^ (k + 1) = x % 2 ^ k + 2 ^ k := by rw [Nat.mod_pow_succ, h]; omega
  have ha : x % 2 ^ k < 2 ^ k := Nat.mod_lt _ (Nat.two_pow_pos _)
  rw [e]
  generalize x % 2 ^ k = a at *
  obtain ⟨h1, h2, h3⟩ := high_or_at a k ha
  rw [high_at a n (k / 8) hk]
  have h5 : a / 2 ^ (8 * (k / 8)) % 256 ||| 2 ^ (k % 8) = (a + 2 ^ k) / 2 ^ (8 * (k / 8)) % 256 := by
    rw [h1, Nat.or_comm, nat_join (k % 8) _ _ (by simp) h2, Nat.add_comm]
  refine ⟨?_, by omega, h3⟩
  apply List.ext_getElem
  · simp [highB]
  · intro j hj1 hj2
    have hjn : j < n := by simpa [highB] using hj1
    rw [List.getElem_set]
    by_cases hj : n - 1 - k / 8 = j
    · rw [if_pos hj, h5]
      subst hj
      simp only [highB, List.getElem_map, List.getElem_range]
      rw [show n - 1 - (n - 1 - k / 8) = k / 8 from by omega]
    · rw [if_neg hj]
      simp only [highB, List.getElem_map, List.getElem_range]
      exact high_or a k _ ha (by omega)

theorem high_mod (x n : Nat) : highB (x % 2 ^ (8 * n)) n = highB x n := by
  apply List.ext_getElem
  · simp [highB]
  · intro j hj1 hj2
    have hjn : j < n := by simpa [highB] using hj1
    simp only [highB, List.getElem_map, List.getElem_range]
    have e : 2 ^ (8 * n) = 2 ^ (8 * (n - 1 - j)) * (256 * 2 ^ (8 * j)) := by
      rw [show (256 : Nat) = 2 ^ 8 from rfl, ← Nat.pow_add, ← Nat.pow_add]; congr 1; omega
    rw [e, Nat.mod_mul_right_div_self, Nat.mod_mul_right_mod]

set_option maxHeartbeats 1600000 in
theorem high_any (x : Nat) (m : Int) (w : World) (hx : x ≤ 18446744073709551615) (hm0 : 0 ≤ m) (hm8 : m ≤ 8) :
    Calls Try.prog 66 #[.int .u64 x, .int .i64 m] w fun e w' =>
      e = .returned (.slice (some ⟨w.heap.size, 0, none⟩) m.toNat m.toNat) ∧ Own w' w.heap.size (highB x m.toNat) ∧ Below w.heap.size w w' := by
  obtain ⟨n, rfl⟩ := Int.eq_ofNat_of_zero_le hm0
  obtain ⟨i0, hi, hz0, hz1, hz2⟩ := info_parts Try.info5
  have hmk := run_make (P := Try.prog) w 44 5 i0 (.int .u8 0) Try.underlying44 hi hz0 .i64 .i64 (n : Int) (n : Int) (by omega) (by omega) (by rw [hz2]; omega) (by omega)
  rw [hz1, show (n : Int).toNat = n from by omega, Nat.mul_one, made_bytes] at hmk
  have hO1 : Own (w.alloc (.cells ((List.replicate n 0).map byc).toArray 5)) w.heap.size (highB (x % 2 ^ 0) n) := by
    have e : highB (x % 2 ^ 0) n = List.replicate n 0 := by
      apply List.ext_getElem
      · simp [highB]
      · intro j h1 h2; simp [highB, Nat.mod_one]
    rw [e]; exact heap_alloc_new w _
  have hb1 : Below w.heap.size w (w.alloc (.cells ((List.replicate n 0).map byc).toArray 5)) := (Below.refl _ _).alloc (Nat.le_refl _) _
  clear hi hz0 hz1 hz2
  generalize w.alloc (.cells ((List.replicate n 0).map byc).toArray 5) = w1 at *
  go_enter Try.func66, Try.ntmps66
  go_wp2
  go_loopw [6] (fun i wr => ∃ k : Nat, k ≤ 8 * n ∧ i = .int .i64 k ∧ Own wr w.heap.size (highB (x % 2 ^ k) n) ∧ Below w.heap.size w wr) (fun i _ => 8 * n - (intOf i).toNat)
  case atStart => exact ⟨0, Nat.zero_le _, rfl, hO1, hb1⟩
  case round =>
    obtain ⟨k, hk, rfl, hOw, hBw⟩ := hrel
    clear hO1 hb1
    by_cases hlt : k < 8 * n
    · have hms := mask_u64 x k (by omega)
      by_cases hbit : x / 2 ^ k % 2 = 1
      · rw [hbit] at hms
        have hms2 : (bits .and .u64 ((x : Int) / 2 ^ k) 1 == 1) = true := hms
        have hc := hOw.cell (i := n - 1 - k / 8) (by rw [length_highB]; omega)
        have hf := hOw.free (n - 1 - k / 8)
        obtain ⟨h1, h2, h3⟩ := high_bit_on x n k hbit (by omega)
        generalize hv : (highB (x % 2 ^ k) n).getD (n - 1 - k / 8) 0 = v at *
        clear hms hv
        have H1 := Lib.hid h1
        clear h1 hbit
        have eo : bits .or .u8 (v : Int) (2 ^ (k % 8) % 256) = ((v ||| 2 ^ (k % 8) : Nat) : Int) := by
          have e := u8_or_nat v (2 ^ (k % 8)) h2 (by omega)
          rw [← e]
          congr 1
          have e2 : (2 : Int) ^ (k % 8) = ((2 ^ (k % 8) : Nat) : Int) := by simp
          rw [e2]
          clear e e2
          generalize 2 ^ (k % 8) = c at h3 ⊢
          omega
        have R : Own (wr.setCell ⟨w.heap.size, n - 1 - k / 8, none⟩ (.int .u8 (bits .or .u8 (v : Int) (2 ^ (k % 8) % 256)))).drew w.heap.size (highB (x % 2 ^ (k + 1)) n) ∧ Below w.heap.size w (wr.setCell ⟨w.heap.size, n - 1 - k / 8, none⟩ (.int .u8 (bits .or .u8 (v : Int) (2 ^ (k % 8) % 256)))).drew := by
          rw [eo, H1.out]
          exact ⟨(hOw.set _).drew, (hBw.setCell (Nat.le_refl _) _).drew⟩
        have HR := Lib.hid R
        clear R eo H1 hOw hBw h2 h3
        go_wp2
        go_region
        all_goals go_wp2
        all_goals go_roundw
        case rel => exact ⟨k + 1, by omega, by go_num, HR.out.1, HR.out.2⟩
        case measure => simp [intOf]; omega
      · have hb0 : x / 2 ^ k % 2 = 0 := by omega
        rw [hb0] at hms
        have hms2 : (bits .and .u64 ((x : Int) / 2 ^ k) 1 == 1) = false := hms
        rw [← high_bit_off x n k hb0] at hOw
        clear hms hb0 hbit
        go_wp2
        go_roundw
        case rel => exact ⟨k + 1, by omega, by go_num, hOw, hBw⟩
        case measure => simp [intOf]; omega
    · obtain rfl : k = 8 * n := by omega
      rw [high_mod] at hOw
      go_wp2
      go_ret
      exact ⟨rfl, hOw, hBw⟩
theorem Own.other {w : World} {g p i : Nat} {l : List Nat} (h : Own w g l) (hn : g ≠ p) (v : Value) : Own (w.setCell ⟨p, i, none⟩ v) g l :=
  (Below.heap_setCell _ _ _ _ hn).trans h

end Go.Proofs.Ytoidklkloagioaa
