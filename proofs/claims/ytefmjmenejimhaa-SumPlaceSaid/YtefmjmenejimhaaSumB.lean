/-
  The contracts of the reference's sums. Nothing here is a statement of the document.
-/
import Derived.Test.YtefmjmenejimhaaSumA
namespace Go.Proofs.Ytefmjmenejimhaa
open Go.RowKit
set_option linter.unusedVariables false

theorem shl_step (q i : Nat) : 2 * (q * 2 ^ i % 4294967291) % 4294967291 = q * 2 ^ (i + 1) % 4294967291 := by
  rw [Nat.pow_succ, ← Nat.mul_assoc]
  generalize q * 2 ^ i = t
  omega

set_option maxHeartbeats 800000 in
theorem refleft_any (n b : Nat) (w : World) (hn : n < 4294967291) (hb : b < 256) :
    Calls Try.prog 22 #[.int .u64 (n : Int), .int .u64 257, .int .u64 (b : Int)] w fun e w' => e = .returned (.int .u64 ((stepS n b : Nat) : Int)) ∧ w = w' := by
  obtain ⟨q, hq⟩ : ∃ q : Nat, n / 65536 = q := ⟨_, rfl⟩
  have e1 : (n : Int) / 65536 = (q : Int) := by omega
  have e1' : (n : Int) / 2 ^ 16 = (q : Int) := by rw [show (2 : Int) ^ 16 = 65536 from rfl]; exact e1
  have hq2 : q < 65536 := by omega
  obtain ⟨X, hX⟩ : ∃ X : Nat → Nat, ∀ k, X k = q * 257 * 2 ^ k % 4294967291 := ⟨_, fun _ => rfl⟩
  have hXs : Hid (∀ k, X (k + 1) = 2 * X k % 4294967291) := fun k => by rw [hX, hX]; exact (shl_step _ k).symm
  have hXl : Hid (∀ k, X k < 4294967291) := fun k => by rw [hX]; exact Nat.mod_lt _ (by omega)
  have es : Hid (((stepS n b : Nat) : Int) = (((X 16 : Nat) : Int) + (n : Int) % 65536 * 257 + (b : Int)) % 4294967291) := by
    show _ = _
    rw [hX]
    unfold stepS
    have : (2 : Nat) ^ 16 = 65536 := rfl
    rw [this]
    omega
  have h0 : Hid ((q : Int) * 257 % 4294967291 = ((X 0 : Nat) : Int)) := by
    show _ = _
    rw [hX]; simp
  clear hX
  go_enter Try.func22, Try.ntmps22
  go_wp2
  go_loop [7, 8] (fun x i => ∃ k : Nat, k ≤ 16 ∧ i = .int .i64 k ∧ x = .int .u64 ((X k : Nat) : Int)) (fun _ i => 16 - (intOf i).toNat)
  case atStart => exact ⟨0, Nat.zero_le _, rfl, by rw [← h0.out]⟩
  case round =>
    obtain ⟨k, hk, rfl, rfl⟩ := hrel
    have hlt0 := hXl.out k
    by_cases hlt : k < 16
    · have HT := Lib.hid (hXs.out k)
      generalize X k = x at *
      go_wp2
      go_round
      case rel => exact ⟨k + 1, by omega, by go_num, by rw [HT.out]; first | rfl | (congr 1; omega)⟩
      case measure => simp [intOf]; omega
    · obtain rfl : k = 16 := by omega
      generalize hx : X 16 = x at *
      have HX := Lib.hid hx
      clear hx
      go_wp2
      go_ret
      refine ⟨?_, rfl⟩
      rw [es.out]
      first | rfl | (congr 2; omega)

set_option maxHeartbeats 800000 in
theorem refon_any (n : Nat) (a : Option Addr) (len cap : Nat) (l : List Nat) (w : World) (hl : l.length = len) (hlm : len ≤ 9223372036854775807) (hB : Bys l) (hL : Lies w a l) (hn : n ≤ 4294967295) :
    Calls Try.prog 13 #[.int .u32 (n : Int), .slice a len cap] w fun e w' => e = .returned (.int .u32 ((goS n l : Nat) : Int)) ∧ w = w' := by
  have HN := Lib.hid hl
  clear hl
  obtain ⟨m, hm⟩ : ∃ m : Nat, n % 4294967291 = m := ⟨_, rfl⟩
  have em : (n : Int) % 4294967291 = (m : Int) := by omega
  have hm0 : goS n (l.take 0) = m := by rw [List.take_zero, goS_nil, hm]
  have HM := Lib.hid hm0
  have EM := Lib.hid em
  clear hm hm0 em
  go_enter Try.func13, Try.ntmps13
  go_wp2
  go_loop [5, 6] (fun x i => ∃ k : Nat, k ≤ len ∧ i = .int .i64 k ∧ x = .int .u64 ((goS n (l.take k) : Nat) : Int)) (fun _ i => len - (intOf i).toNat)
  case atStart => exact ⟨0, Nat.zero_le _, rfl, by rw [HM.out, EM.out]⟩
  case round =>
    obtain ⟨k, hk, rfl, rfl⟩ := hrel
    by_cases hlt : k < len
    · rcases hL with h0 | ⟨g, off, rfl, hlg, hcc⟩
      · have := HN.out; rw [h0] at this; simp at this; omega
      · have hc := hcc k (by rw [HN.out]; exact hlt)
        have hv := goS_lt n (l.take k)
        have HT := Lib.hid (goS_take n l k (by rw [HN.out]; exact hlt))
        have hb := hB.at k
        generalize l.getD k 0 = b at *
        generalize goS n (l.take k) = v at *
        have hstep := fun w => refleft_any v b w hv hb
        have hlt0 : (k : Int) < (len : Int) := by omega
        clear hcc
        go_wp2_with (go_at_call 22; refine (hstep _).mono ?_; rintro e w' ⟨rfl, rfl⟩)
        go_round
        case rel => exact ⟨k + 1, by omega, by go_num, by rw [HT.out]⟩
        case measure => simp [intOf]; omega
    · obtain rfl : k = len := by omega
      have hlt0 : ¬ ((k : Int) < (k : Int)) := by omega
      have e : l.take k = l := by rw [← HN.out, List.take_length]
      rw [e]
      clear e
      have hv := goS_lt n l
      generalize hgg : goS n l = v at *
      have HG := Lib.hid hgg
      clear hgg
      go_wp2
      go_ret
      exact ⟨by rw [HG.out]; rfl, rfl⟩

set_option maxHeartbeats 400000 in
theorem refsum_any (a : Option Addr) (len cap : Nat) (l : List Nat) (w : World) (hl : l.length = len) (hlm : len ≤ 9223372036854775807) (hB : Bys l) (hL : Lies w a l) :
    Calls Try.prog 11 #[.slice a len cap] w fun e w' => e = .returned (.int .u32 ((goS 1 l : Nat) : Int)) ∧ w = w' := by
  have HN := Lib.hid hl
  clear hl
  go_enter Try.func11, Try.ntmps11
  go_wp2_with (go_at_call 13; refine (refon_any 1 _ _ _ l _ HN.out hlm hB hL (by omega)).mono ?_; rintro e w' ⟨rfl, rfl⟩)
  go_ret
  exact ⟨rfl, rfl⟩
end Go.Proofs.Ytefmjmenejimhaa
