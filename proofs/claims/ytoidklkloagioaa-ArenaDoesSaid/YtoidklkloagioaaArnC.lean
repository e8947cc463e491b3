/-
  Blocks: whether one that is taken has a place; its words, one by one. Nothing here is a statement of the document.
-/
import Derived.Test.YtoidklkloagioaaArnB
namespace Go.Proofs.Ytoidklkloagioaa
open Go.RowKit Go.Shelf
set_option linter.unusedVariables false

/-- A block that is taken, of that class, is at that place. -/
structure Yes (ws : List Nat) (bs : List Bool) (x c : Nat) : Prop where
  lo : 1 ≤ x
  hi : x + 2 ^ c ≤ ws.length
  cl : c ≤ 5
  beg : bs.getD x false = true
  hd : ws.getD (x - 1) 0 = hdN c true
/-- No block that is taken is there: none at all, or one that is free. -/
def isB (bs : List Bool) (x : Int) : Bool := decide (0 ≤ x) && bs.getD x.toNat false
def No (ws : List Nat) (bs : List Bool) (x : Int) : Prop := isB bs x = false ∨ (1 ≤ x ∧ x < (ws.length : Int) ∧ isB bs x = true ∧ ∃ c, c ≤ 5 ∧ ws.getD (x.toNat - 1) 0 = hdN c false)

theorem pow5 {c : Nat} (h : c ≤ 5) : 1 ≤ 2 ^ c ∧ 2 ^ c ≤ 32 := by
  rcases (show c = 0 ∨ c = 1 ∨ c = 2 ∨ c = 3 ∨ c = 4 ∨ c = 5 by omega) with rfl | rfl | rfl | rfl | rfl | rfl <;> decide
theorem Yes.lt {ws : List Nat} {bs : List Bool} {x c : Nat} (h : Yes ws bs x c) : x < ws.length := by have := h.hi; have := (pow5 h.cl).1; omega
theorem Yes.isB {ws : List Nat} {bs : List Bool} {x c : Nat} (h : Yes ws bs x c) : isB bs (x : Int) = true := by simp only [Proofs.Ytoidklkloagioaa.isB, Int.toNat_natCast, h.beg, Bool.and_true]; simp

section
variable {w : World} {g p q : Nat} {ws : List Nat} {bs : List Bool}
set_option maxRecDepth 100000 in
set_option maxHeartbeats 1000000 in
theorem isblock_any (h : Ar w g p q ws bs) (x : Int) : Calls Try.prog 73 #[.pointer (some ⟨g, 0, none⟩), .int .i64 x] w fun e w' => e = .returned (.bool (isB bs x)) ∧ w = w' := by
  have c1 := h.c1
  have hlo := h.lo
  have hhi := h.hi
  by_cases h0 : x < 0
  · have d0 : decide (0 ≤ x) = false := decide_eq_false (by omega)
    have HR := Lib.hid (show isB bs x = false by unfold isB; rw [d0]; rfl)
    clear h
    go_enter Try.func73, Try.ntmps73
    go_wp2
    go_ret
    exact ⟨ret_bool HR.out.symm, rfl⟩
  · obtain ⟨n, rfl⟩ : ∃ n : Nat, x = (n : Int) := ⟨x.toNat, by omega⟩
    by_cases h1 : n < ws.length
    · have cb := h.beg h1
      have HR := Lib.hid (show isB bs (n : Int) = bs.getD n false by unfold isB; simp)
      generalize bs.getD n false = b at *
      clear h
      generalize ws.length = m at *
      go_enter Try.func73, Try.ntmps73
      go_wp2
      go_ret
      exact ⟨ret_bool HR.out.symm, rfl⟩
    · have HR := Lib.hid (show isB bs (n : Int) = false by
        unfold isB
        have e9 : bs.getD n false = false := by
          have := h.len
          simp [List.getElem?_eq_none (by omega : bs.length ≤ n)]
        rw [Int.toNat_natCast, e9]; simp)
      clear h
      generalize ws.length = m at *
      have d1 : decide (n < m) = false := decide_eq_false h1
      go_enter Try.func73, Try.ntmps73
      go_wp2
      go_ret
      exact ⟨ret_bool HR.out.symm, rfl⟩

set_option maxRecDepth 100000 in
set_option maxHeartbeats 1000000 in
theorem taken_nil (x : Int) (w : World) : Calls Try.prog 56 #[.pointer none, .int .i64 x] w fun e w' => e = .returned (.tuple #[.slice none 0 0, .int .i64 1]) ∧ w = w' := by
  go_enter Try.func56, Try.ntmps56
  go_wp2
  go_ret2
  exact ⟨rfl, rfl⟩

set_option maxRecDepth 100000 in
set_option maxHeartbeats 1000000 in
theorem taken_no (h : Ar w g p q ws bs) (x : Int) (hn : No ws bs x) : Calls Try.prog 56 #[.pointer (some ⟨g, 0, none⟩), .int .i64 x] w fun e w' => e = .returned (.tuple #[.slice none 0 0, .int .i64 4]) ∧ w = w' := by
  have hb := isblock_any h x
  rcases hn with hn | ⟨h1, h2, h3, c, hc, hh⟩
  · rw [hn] at hb
    clear hn h
    go_enter Try.func56, Try.ntmps56
    go_wp2_with fail
    refine hb.mono ?_
    rintro e w' ⟨rfl, rfl⟩
    clear hb
    go_wp2
    go_ret2
    exact ⟨rfl, rfl⟩
  · rw [h3] at hb
    obtain ⟨n, rfl⟩ : ∃ n : Nat, x = (n : Int) := ⟨x.toNat, by omega⟩
    have hd := head_any h n (by omega) (by omega)
    rw [Int.toNat_natCast] at hh
    rw [hh] at hd
    have ht := htaken_any c false hc w
    generalize hdN c false = hv at *
    clear h h3 hh h1 h2
    go_enter Try.func56, Try.ntmps56
    go_wp2_with fail
    refine hb.mono ?_
    rintro e w' ⟨rfl, rfl⟩
    clear hb
    go_wp2_with fail
    refine hd.mono ?_
    rintro e w' ⟨rfl, rfl⟩
    clear hd
    go_wp2_with fail
    refine ht.mono ?_
    rintro e w' ⟨rfl, rfl⟩
    go_wp2
    go_ret2
    exact ⟨rfl, rfl⟩

set_option maxRecDepth 100000 in
set_option maxHeartbeats 1000000 in
theorem taken_yes (h : Ar w g p q ws bs) {x c : Nat} (hy : Yes ws bs x c) : Calls Try.prog 56 #[.pointer (some ⟨g, 0, none⟩), .int .i64 (x : Int)] w fun e w' => e = .returned (.tuple #[.slice (some ⟨p, x, none⟩) (2 ^ c) (ws.length - x), .int .i64 0]) ∧ ∃ n, w' = w.drewN n := by
  have hb := isblock_any h (x : Int)
  rw [hy.isB] at hb
  have hd := fun n => head_any (h.drewN n) x hy.lo hy.lt
  simp only [hy.hd] at hd
  have hc := hy.cl
  have ht := htaken_any c true hc w
  have hs := fun w => hsize_any c true hc w
  have hp := pow5 hc
  have hhi := hy.hi
  have hhi2 := h.hi
  have c0 : ∀ n, (w.drewN n).cell? ⟨g, 0, none⟩ = some (.slice (some ⟨p, 0, none⟩) ws.length ws.length) := fun n => (h.drewN n).c0
  have hl1 := hy.lt
  clear h hy
  generalize hdN c true = hv at *
  generalize 2 ^ c = z at *
  generalize ws.length = m at *
  have ew : IntKind.i64.wrap ((x : Int) + (z : Int)) = ((x + z : Nat) : Int) := by rw [IntKind.wrap_i64]; omega
  have hd0 : Calls Try.prog 57 #[.pointer (some ⟨g, 0, none⟩), .int .i64 (x : Int)] w fun e w' => e = .returned (.int .u32 (hv : Int)) ∧ w = w' := hd 0
  go_enter Try.func56, Try.ntmps56
  go_wp2_with fail
  refine hb.mono ?_
  rintro e w' ⟨rfl, rfl⟩
  clear hb
  go_wp2_with fail
  refine hd0.mono ?_
  rintro e w' ⟨rfl, rfl⟩
  go_wp2_with fail
  refine ht.mono ?_
  rintro e w' ⟨rfl, rfl⟩
  clear ht hd0
  go_wp2_with fail
  go_quiet (first | (go_at_call 57; exact Calls.quiet_of_same ((hd _).mono fun _ _ h => ⟨h.1, h.2.symm⟩)) | (go_at_call 70; exact Calls.quiet_of_same ((hs _).mono fun _ _ h => ⟨h.1, h.2.symm⟩)))
  go_wp2
  go_ret2
  exact ⟨by simp, _, rfl⟩

/-! ### one word of a block -/
/-- The contract of a callee that draws alone, in the words of go_quiet. -/
theorem drawn_next {f : FuncId} {args : Array Value} {v : Value} (h : Calls Try.prog f args w fun e w' => e = .returned v ∧ ∃ n, w' = w.drewN n) : Calls Try.prog f args w fun e w' => e = .returned v ∧ Kept [] w w' :=
  h.mono fun e w' ⟨h1, n, h2⟩ => ⟨h1, by rw [h2]; exact (Kept.refl _ _).drewN n⟩
set_option maxRecDepth 100000 in
set_option maxHeartbeats 1000000 in
theorem word_nil (x i : Int) (w : World) : Calls Try.prog 53 #[.pointer none, .int .i64 x, .int .i64 i] w fun e w' => e = .returned (.tuple #[.pointer none, .int .i64 1]) ∧ w = w' := by
  have ht := taken_nil x w
  go_enter Try.func53, Try.ntmps53
  go_wp2_with fail
  refine ht.mono ?_
  rintro e w' ⟨rfl, rfl⟩
  clear ht
  go_wp2
  go_ret2
  exact ⟨rfl, rfl⟩
set_option maxRecDepth 100000 in
set_option maxHeartbeats 1000000 in
theorem word_no (h : Ar w g p q ws bs) (x i : Int) (hn : No ws bs x) : Calls Try.prog 53 #[.pointer (some ⟨g, 0, none⟩), .int .i64 x, .int .i64 i] w fun e w' => e = .returned (.tuple #[.pointer none, .int .i64 4]) ∧ w = w' := by
  have ht := taken_no h x hn
  clear h hn
  go_enter Try.func53, Try.ntmps53
  go_wp2_with fail
  refine ht.mono ?_
  rintro e w' ⟨rfl, rfl⟩
  clear ht
  go_wp2
  go_ret2
  exact ⟨rfl, rfl⟩
set_option maxRecDepth 100000 in
set_option maxHeartbeats 1000000 in
theorem word_out (h : Ar w g p q ws bs) {x c : Nat} (hy : Yes ws bs x c) (i : Int) (hi : i < 0 ∨ ((2 ^ c : Nat) : Int) ≤ i) : Calls Try.prog 53 #[.pointer (some ⟨g, 0, none⟩), .int .i64 (x : Int), .int .i64 i] w fun e w' => e = .returned (.tuple #[.pointer none, .int .i64 2]) ∧ ∃ n, w' = w.drewN n := by
  have ht := taken_yes h hy
  clear h hy
  generalize 2 ^ c = z at *
  generalize ws.length = m at *
  by_cases h0 : i < 0
  · clear hi
    go_enter Try.func53, Try.ntmps53
    go_wp2_with fail
    refine ht.mono ?_
    rintro e w' ⟨rfl, n, rfl⟩
    clear ht
    go_wp2
    go_ret2
    exact ⟨rfl, _, rfl⟩
  · have h1 : (z : Int) ≤ i := by omega
    have h2 : 0 ≤ i := by omega
    clear hi
    go_enter Try.func53, Try.ntmps53
    go_wp2_with fail
    refine ht.mono ?_
    rintro e w' ⟨rfl, n, rfl⟩
    clear ht
    go_wp2
    go_ret2
    exact ⟨rfl, _, rfl⟩
set_option maxRecDepth 100000 in
set_option maxHeartbeats 1000000 in
theorem word_yes (h : Ar w g p q ws bs) {x c i : Nat} (hy : Yes ws bs x c) (hi : i < 2 ^ c) : Calls Try.prog 53 #[.pointer (some ⟨g, 0, none⟩), .int .i64 (x : Int), .int .i64 (i : Int)] w fun e w' => e = .returned (.tuple #[.pointer (some ⟨p, x + i, none⟩), .int .i64 0]) ∧ ∃ n, w' = w.drewN n := by
  have ht := taken_yes h hy
  have hp := pow5 hy.cl
  clear h hy
  generalize 2 ^ c = z at *
  generalize ws.length = m at *
  have h0 : ¬ (i : Int) < 0 := by omega
  have h1 : ¬ (z : Int) ≤ (i : Int) := by omega
  go_enter Try.func53, Try.ntmps53
  go_wp2_with fail
  refine ht.mono ?_
  rintro e w' ⟨rfl, n, rfl⟩
  clear ht
  go_wp2
  go_ret2
  exact ⟨rfl, _, rfl⟩
end
end Go.Proofs.Ytoidklkloagioaa
