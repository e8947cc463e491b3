/-
  Decode, in parts: words that are not all nought. Nothing here is a statement of the document.
-/
import Derived.Test.YtgnpoehcmlmajaaArpD
namespace Go.Proofs.Ytgnpoehcmlmajaa
open Go.RowKit Go.Shelf
set_option linter.unusedVariables false

/-- From there on so many words are nought, and then one is not. -/
def NilTo (w : World) (a : Option Addr) (n m x : Nat) : Prop := ∃ b off, a = some ⟨b, off, none⟩ ∧ m < n ∧ (∀ i, i < m → w.cell? ⟨b, off + i, none⟩ = some (.int .u32 0)) ∧ w.cell? ⟨b, off + m, none⟩ = some (.int .u32 (x : Int)) ∧ x ≠ 0
theorem blank1_no (x : Nat) (hx : x ≠ 0) (w : World) : Calls Try.prog 84 #[.int .u32 (x : Int)] w fun e w' => e = .returned (.bool true) ∧ w = w' := by
  have hb : (((x : Nat) : Int) != 0) = true := by simp; omega
  go_enter Try.func84, Try.ntmps84
  go_wp2
  go_ret
  exact ⟨rfl, rfl⟩
set_option maxRecDepth 100000 in
set_option maxHeartbeats 1000000 in
theorem indexf_some (a : Option Addr) (n cap : Nat) (hn : n ≤ 20000) (w : World) (m x : Nat) (h : NilTo w a n m x) :
    Calls Try.prog 90 #[.slice a n cap, .func (.func 84) #[] #[]] w fun e w' => e = .returned (.int .i64 (m : Int)) ∧ w = w' := by
  have hb := fun w => blank1_any w
  obtain ⟨b, off, rfl, hm, hc, hcm, hx⟩ := h
  have hb2 := fun w => blank1_no x hx w
  have HN := Lib.hid hn
  clear hn
  go_enter Try.func90, Try.ntmps90
  go_wp2
  go_loop [8] (fun i => ∃ k : Nat, k ≤ m ∧ i = .int .i64 (k : Int)) (fun i => n - (intOf i).toNat)
  case atStart => exact ⟨0, Nat.zero_le _, rfl⟩
  case round =>
    obtain ⟨k, hk, rfl⟩ := hrel
    by_cases hlt : k < m
    · have d1 : decide ((k : Int) < (n : Int)) = true := by simp; omega
      have d2 : decide (k < n) = true := by simp; omega
      have hck := hc k hlt
      have hk20 := w64k (k := k) (by have := HN.out; omega)
      go_wp2_with (go_at_call 84; refine (hb _).mono ?_; rintro e w' ⟨rfl, rfl⟩)
      go_round
      case rel => exact ⟨k + 1, hlt, by rw [hk20, Int.natCast_add]; rfl⟩
      case measure => rw [hk20]; clear hk20; simp [intOf]; omega
    · obtain rfl : k = m := by omega
      have d1 : decide ((k : Int) < (n : Int)) = true := by simp; omega
      have d2 : decide (k < n) = true := by simp; omega
      go_wp2_with (go_at_call 84; refine (hb2 _).mono ?_; rintro e w' ⟨rfl, rfl⟩)
      go_ret
      exact ⟨rfl, rfl⟩
theorem blank_no (a : Option Addr) (n cap : Nat) (hn : n ≤ 20000) (w : World) (m x : Nat) (h : NilTo w a n m x) :
    Calls Try.prog 71 #[.slice a n cap] w fun e w' => e = .returned (.bool false) ∧ w = w' := by
  have hm16 : m < 20000 := by obtain ⟨_, _, _, hm, _⟩ := h; omega
  have hi := indexf_some a n cap hn w m x h
  have hc : Calls Try.prog 83 #[.slice a n cap, .func (.func 84) #[] #[]] w fun e w' => e = .returned (.bool true) ∧ w = w' := by
    clear h
    go_enter Try.func83, Try.ntmps83
    go_wp2_with (go_at_call 90; refine hi.mono ?_; rintro e w' ⟨rfl, rfl⟩)
    go_ret
    exact ⟨rfl, rfl⟩
  go_enter Try.func71, Try.ntmps71
  go_wp2_with (go_at_call 83; refine hc.mono ?_; rintro e w' ⟨rfl, rfl⟩)
  go_ret
  exact ⟨rfl, rfl⟩
end Go.Proofs.Ytgnpoehcmlmajaa
