/-
  A log in memory, and what it tells; what nothing tells. Nothing here is a statement of the document.
-/
import Derived.Test.YtkfpkolgikpcpaaWalL
namespace Go.Proofs.Ytkfpkolgikpcpaa
open Go.RowKit Go.Shelf
set_option linter.unusedVariables false

/-- A log's own cells: its chain, its disk, its two areas of n sectors, the side that counts, broken or not. -/
def lgcs (t : Nat) (sv tv : Value) (u : Nat) (p n : Nat) (c : Nat) (b : Bool) : Array Value :=
  #[.int .u32 (t : Int), sv, tv, .int .i64 (u : Int), .pointer (some ⟨p, 0, none⟩), .int .i64 2, .int .i64 (n : Int), .int .i64 ((2 : Int) + (n : Int)), .int .i64 (n : Int), .int .i64 (c : Int), .bool b]

set_option maxHeartbeats 400000 in
theorem wlen_nil (w : World) : Calls Try.prog 14 #[.pointer none] w fun e w' => e = .returned (.int .i64 0) ∧ w = w' := by
  go_enter Try.func14, Try.ntmps14
  go_wp2
  go_ret
  exact ⟨rfl, rfl⟩
set_option maxHeartbeats 400000 in
theorem wleft_nil (w : World) : Calls Try.prog 15 #[.pointer none] w fun e w' => e = .returned (.int .i64 0) ∧ w = w' := by
  go_enter Try.func15, Try.ntmps15
  go_wp2
  go_ret
  exact ⟨rfl, rfl⟩
set_option maxHeartbeats 400000 in
theorem wturn_nil (w : World) : Calls Try.prog 16 #[.pointer none] w fun e w' => e = .returned (.int .u32 0) ∧ w = w' := by
  go_enter Try.func16, Try.ntmps16
  go_wp2
  go_ret
  exact ⟨rfl, rfl⟩
set_option maxHeartbeats 400000 in
theorem wbroken_nil (w : World) : Calls Try.prog 17 #[.pointer none] w fun e w' => e = .returned (.bool false) ∧ w = w' := by
  go_enter Try.func17, Try.ntmps17
  go_wp2
  go_ret
  exact ⟨rfl, rfl⟩
set_option maxHeartbeats 400000 in
theorem wdisk_nil (w : World) : Calls Try.prog 18 #[.pointer none] w fun e w' => e = .returned (.pointer none) ∧ w = w' := by
  go_enter Try.func18, Try.ntmps18
  go_wp2
  go_ret
  exact ⟨rfl, rfl⟩
set_option maxHeartbeats 400000 in
theorem wsnap_nil (w : World) : Calls Try.prog 13 #[.pointer none] w fun e w' => e = .returned (.slice none 0 0) ∧ w = w' := by
  go_enter Try.func13, Try.ntmps13
  go_wp2
  go_ret
  exact ⟨rfl, rfl⟩
set_option maxHeartbeats 1000000 in
theorem wappend_nil (a : Option Addr) (len c : Nat) (w : World) : Calls Try.prog 11 #[.pointer none, .slice a len c] w fun e w' => e = .returned (.int .i64 1) ∧ w = w' := by
  go_enter Try.func11, Try.ntmps11
  go_wp2_with (go_at_call 45; refine (refuses_nil a len c _).mono ?_; rintro e w1 ⟨rfl, rfl⟩)
  go_ret
  exact ⟨rfl, rfl⟩
set_option maxHeartbeats 1000000 in
theorem wcheck_nil (a : Option Addr) (len c : Nat) (w : World) : Calls Try.prog 12 #[.pointer none, .slice a len c] w fun e w' => e = .returned (.int .i64 1) ∧ w = w' := by
  go_enter Try.func12, Try.ntmps12
  go_wp2_with (go_at_call 45; refine (refuses_nil a len c _).mono ?_; rintro e w1 ⟨rfl, rfl⟩)
  go_ret
  exact ⟨rfl, rfl⟩
set_option maxHeartbeats 400000 in
theorem wformat_nil (n : Int) (w : World) : Calls Try.prog 8 #[.pointer none, .int .i64 n] w fun e w' => e = .returned (.tuple #[.pointer none, .int .i64 1]) ∧ w = w' := by
  go_enter Try.func8, Try.ntmps8
  go_wp2
  refine bodyPost_ret (results_tmp2 rfl _ _ _) rfl ?_
  exact ⟨rfl, rfl⟩
set_option maxHeartbeats 400000 in
theorem wopen_nil (w : World) : Calls Try.prog 9 #[.pointer none] w fun e w' => e = .returned (.tuple #[.pointer none, .int .i64 1]) ∧ w = w' := by
  go_enter Try.func9, Try.ntmps9
  go_wp2
  refine bodyPost_ret (results_tmp2 rfl _ _ _) rfl ?_
  exact ⟨rfl, rfl⟩
set_option maxHeartbeats 400000 in
theorem refsec_any (n : Int) (w : World) : Calls Try.prog 20 #[.int .i64 n] w fun e w' => e = .returned (.int .i64 (secI n)) ∧ w = w' := by
  unfold secI
  by_cases h : n < 0 ∨ 40000 < n
  · rw [if_pos h]
    by_cases h0 : n < 0
    · go_enter Try.func20, Try.ntmps20
      go_wp2
      go_ret
      exact ⟨rfl, rfl⟩
    · have h1 : 40000 < n := by omega
      go_enter Try.func20, Try.ntmps20
      go_wp2
      go_ret
      exact ⟨rfl, rfl⟩
  · rw [if_neg h]
    have h0 : ¬ n < 0 := by omega
    have h1 : ¬ 40000 < n := by omega
    obtain ⟨m, rfl⟩ : ∃ m : Nat, n = (m : Int) := ⟨n.toNat, by omega⟩
    by_cases hz : m = 0
    · subst hz
      clear h
      go_enter Try.func20, Try.ntmps20
      go_wp2
      go_ret
      exact ⟨rfl, rfl⟩
    · rw [if_neg (by omega)]
      have hz2 : ¬ ((m : Int) = 0) := by omega
      clear h
      go_enter Try.func20, Try.ntmps20
      go_wp2
      go_ret
      exact ⟨rfl, rfl⟩

/-! ### of a log -/
section
variable {w : World} {g t u p n c : Nat} {sv tv : Value} {b : Bool}
set_option maxHeartbeats 400000 in
theorem wlen_any {a : Option Addr} {m tc : Nat} (h : Blk w g 71 (lgcs t sv (.slice a m tc) u p n c b)) : Calls Try.prog 14 #[.pointer (some ⟨g, 0, none⟩)] w fun e w' => e = .returned (.int .i64 (m : Int)) ∧ w = w' := by
  have c2 : w.cell? ⟨g, 2, none⟩ = some (.slice a m tc) := h.cell 2
  clear h
  go_enter Try.func14, Try.ntmps14
  go_wp2
  go_ret
  exact ⟨rfl, rfl⟩
set_option maxHeartbeats 400000 in
theorem wturn_any (h : Blk w g 71 (lgcs t sv tv u p n c b)) : Calls Try.prog 16 #[.pointer (some ⟨g, 0, none⟩)] w fun e w' => e = .returned (.int .u32 (t : Int)) ∧ w = w' := by
  have c2 : w.cell? ⟨g, 0, none⟩ = some (.int .u32 (t : Int)) := h.cell 0
  clear h
  go_enter Try.func16, Try.ntmps16
  go_wp2
  go_ret
  exact ⟨rfl, rfl⟩
set_option maxHeartbeats 400000 in
theorem wbroken_any (h : Blk w g 71 (lgcs t sv tv u p n c b)) : Calls Try.prog 17 #[.pointer (some ⟨g, 0, none⟩)] w fun e w' => e = .returned (.bool b) ∧ w = w' := by
  have c2 : w.cell? ⟨g, 10, none⟩ = some (.bool b) := h.cell 10
  clear h
  go_enter Try.func17, Try.ntmps17
  go_wp2
  go_ret
  exact ⟨rfl, rfl⟩
set_option maxHeartbeats 400000 in
theorem wdisk_any (h : Blk w g 71 (lgcs t sv tv u p n c b)) : Calls Try.prog 18 #[.pointer (some ⟨g, 0, none⟩)] w fun e w' => e = .returned (.pointer (some ⟨p, 0, none⟩)) ∧ w = w' := by
  have c2 : w.cell? ⟨g, 4, none⟩ = some (.pointer (some ⟨p, 0, none⟩)) := h.cell 4
  clear h
  go_enter Try.func18, Try.ntmps18
  go_wp2
  go_ret
  exact ⟨rfl, rfl⟩
set_option maxHeartbeats 400000 in
theorem wsnap_any {a : Option Addr} {len sc : Nat} {l : List Nat} (h : Blk w g 71 (lgcs t (.slice a len sc) tv u p n c b)) (hL : Lies w a l) (hl : l.length = len) (hn : len ≤ 40000) (h0 : a = none → len = 0) : Calls Try.prog 13 #[.pointer (some ⟨g, 0, none⟩)] w fun e w' => ∃ v, e = .returned v ∧ w'.ownsRow w.heap.size 5 1 v len (l.map byc) ∧ Below w.heap.size w w' := by
  have c2 : w.cell? ⟨g, 1, none⟩ = some (.slice a len sc) := h.cell 1
  have hcl := cloneb_any a len sc l w hL hl hn h0
  clear h hL
  go_enter Try.func13, Try.ntmps13
  go_wp2_with fail
  refine hcl.mono ?_
  rintro e w2 ⟨v, rfl, hown, hb⟩
  go_wp2
  go_ret
  exact ⟨v, rfl, hown, hb⟩
set_option maxHeartbeats 1000000 in
theorem wleft_any (h : Blk w g 71 (lgcs t sv tv u p n c b)) (hc : c < 2) (hu : u ≤ n) (hn : n ≤ 1000) : Calls Try.prog 15 #[.pointer (some ⟨g, 0, none⟩)] w fun e w' => e = .returned (.int .i64 ((n : Int) - (u : Int))) ∧ Below w.heap.size w w' := by
  have hwr : IntKind.i64.wrap ((n : Int) - (u : Int)) = (n : Int) - (u : Int) := by rw [IntKind.wrap_i64]; omega
  have c9 : w.drew.cell? ⟨g, 9, none⟩ = some (.int .i64 (c : Int)) := h.cell 9
  have c3 : w.drew.cell? ⟨g, 3, none⟩ = some (.int .i64 (u : Int)) := h.cell 3
  rcases (show c = 0 ∨ c = 1 by omega) with rfl | rfl
  · have c6 : w.drew.cell? ⟨g, 6, none⟩ = some (.int .i64 (n : Int)) := h.cell 6
    clear h
    go_enter Try.func15, Try.ntmps15
    go_wp2_with fail
    go_region_held3 (fun w' => w'.cell? ⟨g, 9, none⟩ = some (.int .i64 ((0 : Nat) : Int)) ∧ w'.cell? ⟨g, 3, none⟩ = some (.int .i64 (u : Int)) ∧ w'.cell? ⟨g, 6, none⟩ = some (.int .i64 (n : Int))) (exact ⟨c9, c3, c6⟩) (fail)
    go_wp2
    go_ret
    exact ⟨rfl, Below.drew (Below.refl _ _)⟩
  · have c8 : w.drew.cell? ⟨g, 8, none⟩ = some (.int .i64 (n : Int)) := h.cell 8
    clear h
    go_enter Try.func15, Try.ntmps15
    go_wp2_with fail
    go_region_held3 (fun w' => w'.cell? ⟨g, 9, none⟩ = some (.int .i64 ((1 : Nat) : Int)) ∧ w'.cell? ⟨g, 3, none⟩ = some (.int .i64 (u : Int)) ∧ w'.cell? ⟨g, 8, none⟩ = some (.int .i64 (n : Int))) (exact ⟨c9, c3, c8⟩) (fail)
    go_wp2
    go_ret
    exact ⟨rfl, Below.drew (Below.refl _ _)⟩
end
end Go.Proofs.Ytkfpkolgikpcpaa
