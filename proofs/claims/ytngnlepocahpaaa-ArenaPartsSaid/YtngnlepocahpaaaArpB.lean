/-
  Decode, in parts: words that are all nought. Nothing here is a statement of the document.
-/
import Derived.Test.YtngnlepocahpaaaArpA
namespace Go.Proofs.Ytngnlepocahpaaa
open Go.RowKit Go.Shelf
set_option linter.unusedVariables false

/-- From there on so many words are nought. -/
def Nil32 (w : World) (a : Option Addr) (n : Nat) : Prop := n = 0 ∨ ∃ b off, a = some ⟨b, off, none⟩ ∧ ∀ i, i < n → w.cell? ⟨b, off + i, none⟩ = some (.int .u32 0)

theorem blank1_any (w : World) : Calls Try.prog 92 #[.int .u32 0] w fun e w' => e = .returned (.bool false) ∧ w = w' := by
  go_enter Try.func92, Try.ntmps92
  go_wp2
  go_ret
  exact ⟨rfl, rfl⟩

set_option maxRecDepth 100000 in
set_option maxHeartbeats 1000000 in
theorem indexf_none (a : Option Addr) (n cap : Nat) (hn : n ≤ 20000) (w : World) (h : Nil32 w a n) :
    Calls Try.prog 108 #[.slice a n cap, .func (.func 92) #[] #[]] w fun e w' => e = .returned (.int .i64 (-1)) ∧ w = w' := by
  have hb := fun w => blank1_any w
  have HN := Lib.hid hn
  clear hn
  go_enter Try.func108, Try.ntmps108
  go_wp2
  go_loop [8] (fun i => ∃ k : Nat, k ≤ n ∧ i = .int .i64 (k : Int)) (fun i => n - (intOf i).toNat)
  case atStart => exact ⟨0, Nat.zero_le _, rfl⟩
  case round =>
    obtain ⟨k, hk, rfl⟩ := hrel
    by_cases hlt : k < n
    · have d1 : decide ((k : Int) < (n : Int)) = true := by simp; omega
      have d2 : decide (k < n) = true := by simp; omega
      rcases h with h0 | ⟨b, off, rfl, hc⟩
      · omega
      · have hck := hc k hlt
        have hk20 := w64k (k := k) (by have := HN.out; omega)
        go_wp2_with (go_at_call 92; refine (hb _).mono ?_; rintro e w' ⟨rfl, rfl⟩)
        go_round
        case rel => exact ⟨k + 1, hlt, by rw [hk20, Int.natCast_add]; rfl⟩
        case measure => rw [hk20]; clear hk20; simp [intOf]; omega
    · have e : k = n := by omega
      subst e
      have d1 : decide ((k : Int) < (k : Int)) = false := by simp
      go_wp2
      go_ret
      exact ⟨rfl, rfl⟩
theorem blank_yes (a : Option Addr) (n cap : Nat) (hn : n ≤ 20000) (w : World) (h : Nil32 w a n) :
    Calls Try.prog 77 #[.slice a n cap] w fun e w' => e = .returned (.bool true) ∧ w = w' := by
  have hi := indexf_none a n cap hn w h
  have hc : Calls Try.prog 91 #[.slice a n cap, .func (.func 92) #[] #[]] w fun e w' => e = .returned (.bool false) ∧ w = w' := by
    go_enter Try.func91, Try.ntmps91
    go_wp2_with (go_at_call 108; refine hi.mono ?_; rintro e w' ⟨rfl, rfl⟩)
    go_ret
    exact ⟨rfl, rfl⟩
  go_enter Try.func77, Try.ntmps77
  go_wp2_with (go_at_call 91; refine hc.mono ?_; rintro e w' ⟨rfl, rfl⟩)
  go_ret
  exact ⟨rfl, rfl⟩
end Go.Proofs.Ytngnlepocahpaaa
