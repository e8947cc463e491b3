/-
  Checkpoint of a log. Nothing here is a statement of the document.
-/
import Derived.Test.YtkfpkolgikpcpaaWalO
namespace Go.Proofs.Ytkfpkolgikpcpaa
open Go.RowKit Go.Shelf
set_option linter.unusedVariables false

set_option maxRecDepth 100000 in
set_option maxHeartbeats 2000000 in
theorem wcheck_refused {w : World} {g t u p n s : Nat} {sv tv : Value} {b : Bool} (h : Blk w g 71 (lgcs t sv tv u p n s b)) (a : Option Addr) (len c : Nat) (hr : b = true ∨ 40000 < len) :
    Calls Try.prog 12 #[.pointer (some ⟨g, 0, none⟩), .slice a len c] w fun e w' => e = .returned (.int .i64 (if b then 8 else 3)) ∧ w = w' := by
  have hre := refuses_any (w := w) (g := g) (b := b) (h.cell 10) a len c
  have hz : (if b = true then (8 : Int) else if 40000 < len then 3 else 0) = if b then 8 else 3 := by
    rcases hr with rfl | hr
    · rfl
    · cases b <;> simp [hr]
  rw [hz] at hre
  obtain ⟨er, her⟩ : ∃ er : Int, (if b then (8 : Int) else 3) = er := ⟨_, rfl⟩
  rw [her] at hre ⊢
  have he0 : (er != 0) = true := by rw [← her]; cases b <;> rfl
  clear h her hz hr
  go_enter Try.func12, Try.ntmps12
  go_wp2_with fail
  refine hre.mono ?_
  rintro e w1 ⟨rfl, rfl⟩
  go_wp2
  go_ret
  exact ⟨rfl, rfl⟩

set_option maxRecDepth 100000 in
set_option maxHeartbeats 2000000 in
theorem wcheck_full {w : World} {g t u p n s : Nat} {sv tv : Value} (h : Blk w g 71 (lgcs t sv tv u p n s false)) (hs : s < 2) (a : Option Addr) (len c : Nat) (hl : len ≤ 40000) (hf : n < secN len ∨ t = 4294967295) :
    Calls Try.prog 12 #[.pointer (some ⟨g, 0, none⟩), .slice a len c] w fun e w' => e = .returned (.int .i64 6) ∧ Below w.heap.size w w' := by
  have hre := refuses_any (w := w) (g := g) (b := false) (h.cell 10) a len c
  rw [if_neg (by simp), if_neg (by omega)] at hre
  have hse := sectors_any (len : Int)
  rw [secI_nat] at hse
  have c9 : w.cell? ⟨g, 9, none⟩ = some (.int .i64 (s : Int)) := h.cell 9
  have c0 : w.drew.cell? ⟨g, 0, none⟩ = some (.int .u32 (t : Int)) := h.cell 0
  generalize secN len = N at *
  rcases (show s = 0 ∨ s = 1 by omega) with rfl | rfl
  · have c8 : w.drew.cell? ⟨g, 8, none⟩ = some (.int .i64 (n : Int)) := h.cell 8
    clear h
    by_cases hN : n < N
    · have hN2 : (n : Int) < (N : Int) := by omega
      clear hf
      go_enter Try.func12, Try.ntmps12
      go_wp2_with fail
      refine hre.mono ?_
      rintro e w1 ⟨rfl, rfl⟩
      go_wp2_with fail
      first | (go_region_with (first | (go_at_call 19; refine (hse _).mono ?_; rintro e w7 ⟨rfl, rfl⟩))) | fail
      all_goals
        go_wp2
        go_ret
        exact ⟨rfl, (Below.refl _ _).drew⟩
    · have hN2 : ¬ (n : Int) < (N : Int) := by omega
      obtain rfl : t = 4294967295 := by omega
      clear hf
      go_enter Try.func12, Try.ntmps12
      go_wp2_with fail
      refine hre.mono ?_
      rintro e w1 ⟨rfl, rfl⟩
      go_wp2_with fail
      first | (go_region_with (first | (go_at_call 19; refine (hse _).mono ?_; rintro e w7 ⟨rfl, rfl⟩))) | fail
      all_goals
        go_wp2
        go_ret
        exact ⟨rfl, (Below.refl _ _).drew⟩
  · have c8 : w.drew.cell? ⟨g, 6, none⟩ = some (.int .i64 (n : Int)) := h.cell 6
    clear h
    by_cases hN : n < N
    · have hN2 : (n : Int) < (N : Int) := by omega
      clear hf
      go_enter Try.func12, Try.ntmps12
      go_wp2_with fail
      refine hre.mono ?_
      rintro e w1 ⟨rfl, rfl⟩
      go_wp2_with fail
      first | (go_region_with (first | (go_at_call 19; refine (hse _).mono ?_; rintro e w7 ⟨rfl, rfl⟩))) | fail
      all_goals
        go_wp2
        go_ret
        exact ⟨rfl, (Below.refl _ _).drew⟩
    · have hN2 : ¬ (n : Int) < (N : Int) := by omega
      obtain rfl : t = 4294967295 := by omega
      clear hf
      go_enter Try.func12, Try.ntmps12
      go_wp2_with fail
      refine hre.mono ?_
      rintro e w1 ⟨rfl, rfl⟩
      go_wp2_with fail
      first | (go_region_with (first | (go_at_call 19; refine (hse _).mono ?_; rintro e w7 ⟨rfl, rfl⟩))) | fail
      all_goals
        go_wp2
        go_ret
        exact ⟨rfl, (Below.refl _ _).drew⟩
end Go.Proofs.Ytkfpkolgikpcpaa
