/-
  As LinX, but what does not change the world may draw: the world is known up to its draws. Nothing here is a statement of the document.
-/
import Derived.Test.YtgnpoehcmlmajaaRgE
import Derived.Deep.QuietTactic
namespace Go.Proofs.Ytgnpoehcmlmajaa
open Go.RowKit Go.Shelf
set_option linter.unusedVariables false

/-- A block that is taken, of that class, is at that place. -/
structure Yes (ws : List Nat) (bs : List Bool) (x c : Nat) : Prop where
  lo : 1 ≤ x
  hi : x + 2 ^ c ≤ ws.length
  cl : c ≤ 5
  beg : bs.getD x false = true
  hd : ws.getD (x - 1) 0 = hdN c true
/-- No block that is taken is there: none at all, or one that is free. -/
def isB (bs : List Bool) (x : Int) : Bool := decide (0 ≤ x) && bs.getD x.toNat false
def No (ws : List Nat) (bs : List Bool) (x : Int) : Prop := isB bs x = false ∨ (1 ≤ x ∧ x < (ws.length : Int) ∧ isB bs x = true ∧ ∃ c, c ≤ 5 ∧ ws.getD (x.toNat - 1) 0 = hdN c false)

theorem pow5 {c : Nat} (h : c ≤ 5) : 1 ≤ 2 ^ c ∧ 2 ^ c ≤ 32 := by
  rcases (show c = 0 ∨ c = 1 ∨ c = 2 ∨ c = 3 ∨ c = 4 ∨ c = 5 by omega) with rfl | rfl | rfl | rfl | rfl | rfl <;> decide
theorem Yes.lt {ws : List Nat} {bs : List Bool} {x c : Nat} (h : Yes ws bs x c) : x < ws.length := by have := h.hi; have := (pow5 h.cl).1; omega
theorem Yes.isB {ws : List Nat} {bs : List Bool} {x c : Nat} (h : Yes ws bs x c) : isB bs (x : Int) = true := by simp only [Proofs.Ytgnpoehcmlmajaa.isB, Int.toNat_natCast, h.beg, Bool.and_true]; simp

section
variable {w : World} {g p q : Nat} {ws : List Nat} {bs : List Bool}
set_option maxRecDepth 100000 in
set_option maxHeartbeats 1000000 in
theorem isblock_any (h : Ar w g p q ws bs) (x : Int) : Calls Try.prog 73 #[.pointer (some ⟨g, 0, none⟩), .int .i64 x] w fun e w' => e = .returned (.bool (isB bs x)) ∧ w = w' := by
  have c1 := h.c1
  have hlo := h.lo
  have hhi := h.hi
  by_cases h0 : x < 0
  · have d0 : decide (0 ≤ x) = false := decide_eq_false (by omega)
    have HR := Lib.hid (show isB bs x = false by unfold isB; rw [d0]; rfl)
    clear h
    go_enter Try.func73, Try.ntmps73
    go_wp2
    go_ret
    exact ⟨ret_bool HR.out.symm, rfl⟩
  · obtain ⟨n, rfl⟩ : ∃ n : Nat, x = (n : Int) := ⟨x.toNat, by omega⟩
    by_cases h1 : n < ws.length
    · have cb := h.beg h1
      have HR := Lib.hid (show isB bs (n : Int) = bs.getD n false by unfold isB; simp)
      generalize bs.getD n false = b at *
      clear h
      generalize ws.length = m at *
      go_enter Try.func73, Try.ntmps73
      go_wp2
      go_ret
      exact ⟨ret_bool HR.out.symm, rfl⟩
    · have HR := Lib.hid (show isB bs (n : Int) = false by
        unfold isB
        have e9 : bs.getD n false = false := by
          have := h.len
          simp [List.getElem?_eq_none (by omega : bs.length ≤ n)]
        rw [Int.toNat_natCast, e9]; simp)
      clear h
      generalize ws.length = m at *
      have d1 : decide (n < m) = false := decide_eq_false h1
      go_enter Try.func73, Try.ntmps73
      go_wp2
      go_ret
      exact ⟨ret_bool HR.out.symm, rfl⟩

set_option maxRecDepth 100000 in
set_option maxHeartbeats 1000000 in
theorem taken_nil (x : Int) (w : World) : Calls Try.prog 56 #[.pointer none, .int .i64 x] w fun e w' => e = .returned (.tuple #[.slice none 0 0, .int .i64 1]) ∧ w = w' := by
  go_enter Try.func56, Try.ntmps56
  go_wp2
  go_ret2
  exact ⟨rfl, rfl⟩

set_option maxRecDepth 100000 in
set_option maxHeartbeats 1000000 in
theorem taken_no (h : Ar w g p q ws bs) (x : Int) (hn : No ws bs x) : Calls Try.prog 56 #[.pointer (some ⟨g, 0, none⟩), .int .i64 x] w fun e w' => e = .returned (.tuple #[.slice none 0 0, .int .i64 4]) ∧ w = w' := by
  have hb := isblock_any h x
  rcases hn with hn | ⟨h1, h2, h3, c, hc, hh⟩
  · rw [hn] at hb
    clear hn h
    go_enter Try.func56, Try.ntmps56
    go_wp2_with fail
    refine hb.mono ?_
    rintro e w' ⟨rfl, rfl⟩
    clear hb
    go_wp2
    go_ret2
    exact ⟨rfl, rfl⟩
  · rw [h3] at hb
    obtain ⟨n, rfl⟩ : ∃ n : Nat, x = (n : Int) := ⟨x.toNat, by omega⟩
    have hd := head_any h n (by omega) (by omega)
    rw [Int.toNat_natCast] at hh
    rw [hh] at hd
    have ht := htaken_any c false hc w
    generalize hdN c false = hv at *
    clear h h3 hh h1 h2
    go_enter Try.func56, Try.ntmps56
    go_wp2_with fail
    refine hb.mono ?_
    rintro e w' ⟨rfl, rfl⟩
    clear hb
    go_wp2_with fail
    refine hd.mono ?_
    rintro e w' ⟨rfl, rfl⟩
    clear hd
    go_wp2_with fail
    refine ht.mono ?_
    rintro e w' ⟨rfl, rfl⟩
    go_wp2
    go_ret2
    exact ⟨rfl, rfl⟩

set_option maxRecDepth 100000 in
set_option maxHeartbeats 1000000 in
theorem taken_yes (h : Ar w g p q ws bs) {x c : Nat} (hy : Yes ws bs x c) : Calls Try.prog 56 #[.pointer (some ⟨g, 0, none⟩), .int .i64 (x : Int)] w fun e w' => e = .returned (.tuple #[.slice (some ⟨p, x, none⟩) (2 ^ c) (ws.length - x), .int .i64 0]) ∧ ∃ n, w' = w.drewN n := by
  have hb := isblock_any h (x : Int)
  rw [hy.isB] at hb
  have hd := fun n => head_any (h.drewN n) x hy.lo hy.lt
  simp only [hy.hd] at hd
  have hc := hy.cl
  have ht := htaken_any c true hc w
  have hs := fun w => hsize_any c true hc w
  have hp := pow5 hc
  have hhi := hy.hi
  have hhi2 := h.hi
  have c0 : ∀ n, (w.drewN n).cell? ⟨g, 0, none⟩ = some (.slice (some ⟨p, 0, none⟩) ws.length ws.length) := fun n => (h.drewN n).c0
  have hl1 := hy.lt
  clear h hy
  generalize hdN c true = hv at *
  generalize 2 ^ c = z at *
  generalize ws.length = m at *
  have ew : IntKind.i64.wrap ((x : Int) + (z : Int)) = ((x + z : Nat) : Int) := by rw [IntKind.wrap_i64]; omega
  have hd0 : Calls Try.prog 57 #[.pointer (some ⟨g, 0, none⟩), .int .i64 (x : Int)] w fun e w' => e = .returned (.int .u32 (hv : Int)) ∧ w = w' := hd 0
  go_enter Try.func56, Try.ntmps56
  go_wp2_with fail
  refine hb.mono ?_
  rintro e w' ⟨rfl, rfl⟩
  clear hb
  go_wp2_with fail
  refine hd0.mono ?_
  rintro e w' ⟨rfl, rfl⟩
  go_wp2_with fail
  refine ht.mono ?_
  rintro e w' ⟨rfl, rfl⟩
  clear ht hd0
  go_wp2_with fail
  go_quiet (first | (go_at_call 57; exact Calls.quiet_of_same ((hd _).mono fun _ _ h => ⟨h.1, h.2.symm⟩)) | (go_at_call 70; exact Calls.quiet_of_same ((hs _).mono fun _ _ h => ⟨h.1, h.2.symm⟩)))
  go_wp2
  go_ret2
  exact ⟨by simp, _, rfl⟩

/-! ### one word of a block -/
/-- The contract of a callee that draws alone, in the words of go_quiet. -/
theorem drawn_next {f : FuncId} {args : Array Value} {v : Value} (h : Calls Try.prog f args w fun e w' => e = .returned v ∧ ∃ n, w' = w.drewN n) : Calls Try.prog f args w fun e w' => e = .returned v ∧ Kept [] w w' :=
  h.mono fun e w' ⟨h1, n, h2⟩ => ⟨h1, by rw [h2]; exact (Kept.refl _ _).drewN n⟩
set_option maxRecDepth 100000 in
set_option maxHeartbeats 1000000 in
theorem word_nil (x i : Int) (w : World) : Calls Try.prog 53 #[.pointer none, .int .i64 x, .int .i64 i] w fun e w' => e = .returned (.tuple #[.pointer none, .int .i64 1]) ∧ w = w' := by
  have ht := taken_nil x w
  go_enter Try.func53, Try.ntmps53
  go_wp2_with fail
  refine ht.mono ?_
  rintro e w' ⟨rfl, rfl⟩
  clear ht
  go_wp2
  go_ret2
  exact ⟨rfl, rfl⟩
set_option maxRecDepth 100000 in
set_option maxHeartbeats 1000000 in
theorem word_no (h : Ar w g p q ws bs) (x i : Int) (hn : No ws bs x) : Calls Try.prog 53 #[.pointer (some ⟨g, 0, none⟩), .int .i64 x, .int .i64 i] w fun e w' => e = .returned (.tuple #[.pointer none, .int .i64 4]) ∧ w = w' := by
  have ht := taken_no h x hn
  clear h hn
  go_enter Try.func53, Try.ntmps53
  go_wp2_with fail
  refine ht.mono ?_
  rintro e w' ⟨rfl, rfl⟩
  clear ht
  go_wp2
  go_ret2
  exact ⟨rfl, rfl⟩
set_option maxRecDepth 100000 in
set_option maxHeartbeats 1000000 in
theorem word_out (h : Ar w g p q ws bs) {x c : Nat} (hy : Yes ws bs x c) (i : Int) (hi : i < 0 ∨ ((2 ^ c : Nat) : Int) ≤ i) : Calls Try.prog 53 #[.pointer (some ⟨g, 0, none⟩), .int .i64 (x : Int), .int .i64 i] w fun e w' => e = .returned (.tuple #[.pointer none, .int .i64 2]) ∧ ∃ n, w' = w.drewN n := by
  have ht := taken_yes h hy
  clear h hy
  generalize 2 ^ c = z at *
  generalize ws.length = m at *
  by_cases h0 : i < 0
  · clear hi
    go_enter Try.func53, Try.ntmps53
    go_wp2_with fail
    refine ht.mono ?_
    rintro e w' ⟨rfl, n, rfl⟩
    clear ht
    go_wp2
    go_ret2
    exact ⟨rfl, _, rfl⟩
  · have h1 : (z : Int) ≤ i := by omega
    have h2 : 0 ≤ i := by omega
    clear hi
    go_enter Try.func53, Try.ntmps53
    go_wp2_with fail
    refine ht.mono ?_
    rintro e w' ⟨rfl, n, rfl⟩
    clear ht
    go_wp2
    go_ret2
    exact ⟨rfl, _, rfl⟩
set_option maxRecDepth 100000 in
set_option maxHeartbeats 1000000 in
theorem word_yes (h : Ar w g p q ws bs) {x c i : Nat} (hy : Yes ws bs x c) (hi : i < 2 ^ c) : Calls Try.prog 53 #[.pointer (some ⟨g, 0, none⟩), .int .i64 (x : Int), .int .i64 (i : Int)] w fun e w' => e = .returned (.tuple #[.pointer (some ⟨p, x + i, none⟩), .int .i64 0]) ∧ ∃ n, w' = w.drewN n := by
  have ht := taken_yes h hy
  have hp := pow5 hy.cl
  clear h hy
  generalize 2 ^ c = z at *
  generalize ws.length = m at *
  have h0 : ¬ (i : Int) < 0 := by omega
  have h1 : ¬ (z : Int) ≤ (i : Int) := by omega
  go_enter Try.func53, Try.ntmps53
  go_wp2_with fail
  refine ht.mono ?_
  rintro e w' ⟨rfl, n, rfl⟩
  clear ht
  go_wp2
  go_ret2
  exact ⟨rfl, _, rfl⟩
end
end Go.Proofs.Ytgnpoehcmlmajaa
namespace Go.Proofs.Ytgnpoehcmlmajaa
open Go.RowKit Go.Shelf
set_option linter.unusedVariables false

section
variable {w : World} {g p q : Nat} {ws : List Nat} {bs : List Bool}
set_option maxRecDepth 100000 in
set_option maxHeartbeats 1000000 in
theorem load_nil (x i : Int) (w : World) : Calls Try.prog 14 #[.pointer none, .int .i64 x, .int .i64 i] w fun e w' => e = .returned (.tuple #[.int .u32 0, .int .i64 1]) ∧ w = w' := by
  have ht := word_nil x i w
  go_enter Try.func14, Try.ntmps14
  go_wp2_with fail
  refine ht.mono ?_
  rintro e w' ⟨rfl, rfl⟩
  clear ht
  go_wp2
  go_ret2
  exact ⟨rfl, rfl⟩
set_option maxRecDepth 100000 in
set_option maxHeartbeats 1000000 in
theorem load_no (h : Ar w g p q ws bs) (x i : Int) (hn : No ws bs x) : Calls Try.prog 14 #[.pointer (some ⟨g, 0, none⟩), .int .i64 x, .int .i64 i] w fun e w' => e = .returned (.tuple #[.int .u32 0, .int .i64 4]) ∧ w = w' := by
  have ht := word_no h x i hn
  clear h hn
  go_enter Try.func14, Try.ntmps14
  go_wp2_with fail
  refine ht.mono ?_
  rintro e w' ⟨rfl, rfl⟩
  clear ht
  go_wp2
  go_ret2
  exact ⟨rfl, rfl⟩
set_option maxRecDepth 100000 in
set_option maxHeartbeats 1000000 in
theorem load_out (h : Ar w g p q ws bs) {x c : Nat} (hn : Yes ws bs x c) (i : Int) (hi : i < 0 ∨ ((2 ^ c : Nat) : Int) ≤ i) : Calls Try.prog 14 #[.pointer (some ⟨g, 0, none⟩), .int .i64 (x : Int), .int .i64 i] w fun e w' => e = .returned (.tuple #[.int .u32 0, .int .i64 2]) ∧ ∃ n, w' = w.drewN n := by
  have ht := word_out h hn i hi
  clear h hn
  go_enter Try.func14, Try.ntmps14
  go_wp2_with fail
  refine ht.mono ?_
  rintro e w' ⟨rfl, n, rfl⟩
  clear ht
  go_wp2
  go_ret2
  exact ⟨rfl, _, rfl⟩
set_option maxRecDepth 100000 in
set_option maxHeartbeats 1000000 in
theorem load_yes (h : Ar w g p q ws bs) {x c i : Nat} (hn : Yes ws bs x c) (hi : i < 2 ^ c) : Calls Try.prog 14 #[.pointer (some ⟨g, 0, none⟩), .int .i64 (x : Int), .int .i64 (i : Int)] w fun e w' => e = .returned (.tuple #[.int .u32 ((ws.getD (x + i) 0 : Nat) : Int), .int .i64 0]) ∧ ∃ n, w' = w.drewN n := by
  have ht := word_yes h hn hi
  have cx := fun n => (h.drewN n).word (i := x + i) (by have := hn.hi; omega)
  generalize ws.getD (x + i) 0 = y at *
  clear h hn
  go_enter Try.func14, Try.ntmps14
  go_wp2_with fail
  refine ht.mono ?_
  rintro e w' ⟨rfl, n, rfl⟩
  clear ht
  go_wp2
  go_ret2
  exact ⟨rfl, _, rfl⟩
set_option maxRecDepth 100000 in
set_option maxHeartbeats 1000000 in
theorem store_nil (x i y : Int) (w : World) : Calls Try.prog 13 #[.pointer none, .int .i64 x, .int .i64 i, .int .u32 y] w fun e w' => e = .returned (.int .i64 1) ∧ w = w' := by
  have ht := word_nil x i w
  go_enter Try.func13, Try.ntmps13
  go_wp2_with fail
  refine ht.mono ?_
  rintro e w' ⟨rfl, rfl⟩
  clear ht
  go_wp2
  go_ret
  exact ⟨rfl, rfl⟩
set_option maxRecDepth 100000 in
set_option maxHeartbeats 1000000 in
theorem store_no (h : Ar w g p q ws bs) (x i y : Int) (hn : No ws bs x) : Calls Try.prog 13 #[.pointer (some ⟨g, 0, none⟩), .int .i64 x, .int .i64 i, .int .u32 y] w fun e w' => e = .returned (.int .i64 4) ∧ w = w' := by
  have ht := word_no h x i hn
  clear h hn
  go_enter Try.func13, Try.ntmps13
  go_wp2_with fail
  refine ht.mono ?_
  rintro e w' ⟨rfl, rfl⟩
  clear ht
  go_wp2
  go_ret
  exact ⟨rfl, rfl⟩
set_option maxRecDepth 100000 in
set_option maxHeartbeats 1000000 in
theorem store_out (h : Ar w g p q ws bs) {x c : Nat} (hn : Yes ws bs x c) (i y : Int) (hi : i < 0 ∨ ((2 ^ c : Nat) : Int) ≤ i) : Calls Try.prog 13 #[.pointer (some ⟨g, 0, none⟩), .int .i64 (x : Int), .int .i64 i, .int .u32 y] w fun e w' => e = .returned (.int .i64 2) ∧ ∃ n, w' = w.drewN n := by
  have ht := word_out h hn i hi
  clear h hn
  go_enter Try.func13, Try.ntmps13
  go_wp2_with fail
  refine ht.mono ?_
  rintro e w' ⟨rfl, n, rfl⟩
  clear ht
  go_wp2
  go_ret
  exact ⟨rfl, _, rfl⟩
set_option maxRecDepth 100000 in
set_option maxHeartbeats 1000000 in
theorem store_yes (h : Ar w g p q ws bs) {x c i : Nat} (hn : Yes ws bs x c) (hi : i < 2 ^ c) (y : Nat) (hy : y < 4294967296) : Calls Try.prog 13 #[.pointer (some ⟨g, 0, none⟩), .int .i64 (x : Int), .int .i64 (i : Int), .int .u32 (y : Int)] w fun e w' => e = .returned (.int .i64 0) ∧ Ar w' g p q (ws.set (x + i) y) bs ∧ Kept [p] w w' := by
  have ht := word_yes h hn hi
  have cx := fun n => (h.drewN n).word (i := x + i) (by have := hn.hi; omega)
  have fx := fun n => (h.drewN n).wds.free (x + i)
  have HH := Lib.hid (fun n => And.intro ((h.drewN n).set (x + i) y hy) (((Kept.refl [p] w).drewN n).setCell (p := ⟨p, x + i, none⟩) (.inl (by simp)) (.int .u32 (y : Int))))
  generalize ws.getD (x + i) 0 = y0 at *
  clear h hn
  go_enter Try.func13, Try.ntmps13
  go_wp2_with fail
  refine ht.mono ?_
  rintro e w' ⟨rfl, n, rfl⟩
  clear ht
  go_wp2
  go_ret
  first | exact ⟨rfl, (HH.out n).1, (HH.out n).2⟩ | exact ⟨rfl, (HH.out 0).1.drewN n, (HH.out 0).2.drewN n⟩
set_option maxRecDepth 100000 in
set_option maxHeartbeats 1000000 in
theorem class_nil (x : Int) (w : World) : Calls Try.prog 35 #[.pointer none, .int .i64 x] w fun e w' => e = .returned (.tuple #[.int .i64 0, .bool false]) ∧ w = w' := by
  have ht := taken_nil x w
  go_enter Try.func35, Try.ntmps35
  go_wp2_with fail
  refine ht.mono ?_
  rintro e w' ⟨rfl, rfl⟩
  clear ht
  go_wp2
  go_ret2
  exact ⟨rfl, rfl⟩
set_option maxRecDepth 100000 in
set_option maxHeartbeats 1000000 in
theorem class_no (h : Ar w g p q ws bs) (x : Int) (hn : No ws bs x) : Calls Try.prog 35 #[.pointer (some ⟨g, 0, none⟩), .int .i64 x] w fun e w' => e = .returned (.tuple #[.int .i64 0, .bool false]) ∧ w = w' := by
  have ht := taken_no h x hn
  clear h hn
  go_enter Try.func35, Try.ntmps35
  go_wp2_with fail
  refine ht.mono ?_
  rintro e w' ⟨rfl, rfl⟩
  clear ht
  go_wp2
  go_ret2
  exact ⟨rfl, rfl⟩
set_option maxRecDepth 100000 in
set_option maxHeartbeats 1000000 in
theorem class_yes (h : Ar w g p q ws bs) {x c : Nat} (hn : Yes ws bs x c) : Calls Try.prog 35 #[.pointer (some ⟨g, 0, none⟩), .int .i64 (x : Int)] w fun e w' => e = .returned (.tuple #[.int .i64 (c : Int), .bool true]) ∧ ∃ n, w' = w.drewN n := by
  have ht := taken_yes h hn
  have hd := fun n => head_any (h.drewN n) x hn.lo hn.lt
  simp only [hn.hd] at hd
  have hc := fun w => hclass_any c true hn.cl w
  clear h hn
  generalize hdN c true = hv at *
  go_enter Try.func35, Try.ntmps35
  go_wp2_with fail
  refine ht.mono ?_
  rintro e w' ⟨rfl, n, rfl⟩
  clear ht
  go_wp2_with fail
  refine (hd n).mono ?_
  rintro e w' ⟨rfl, rfl⟩
  go_wp2_with fail
  refine (hc _).mono ?_
  rintro e w' ⟨rfl, rfl⟩
  go_wp2
  go_ret2
  exact ⟨rfl, _, rfl⟩
set_option maxRecDepth 100000 in
set_option maxHeartbeats 1000000 in
theorem lead_zero (h : Ar w g p q ws bs) (hn : No ws bs 0) : Calls Try.prog 45 #[.pointer (some ⟨g, 0, none⟩), .int .i64 0] w fun e w' => e = .returned (.bool true) ∧ w = w' := by
  have ht := taken_no h 0 hn
  clear h hn
  go_enter Try.func45, Try.ntmps45
  go_wp2_with fail
  refine ht.mono ?_
  rintro e w' ⟨rfl, rfl⟩
  clear ht
  go_wp2
  go_ret
  exact ⟨rfl, rfl⟩
set_option maxRecDepth 100000 in
set_option maxHeartbeats 1000000 in
theorem lead_no (h : Ar w g p q ws bs) (x : Int) (hx : x ≠ 0) (hn : No ws bs x) : Calls Try.prog 45 #[.pointer (some ⟨g, 0, none⟩), .int .i64 x] w fun e w' => e = .returned (.bool false) ∧ w = w' := by
  have ht := taken_no h x hn
  clear h hn
  have d0 : (x == 0) = false := by simpa using hx
  go_enter Try.func45, Try.ntmps45
  go_wp2_with fail
  refine ht.mono ?_
  rintro e w' ⟨rfl, rfl⟩
  clear ht
  go_wp2
  go_ret
  exact ⟨rfl, rfl⟩
set_option maxRecDepth 100000 in
set_option maxHeartbeats 1000000 in
theorem lead_yes (h : Ar w g p q ws bs) {x c : Nat} (hn : Yes ws bs x c) : Calls Try.prog 45 #[.pointer (some ⟨g, 0, none⟩), .int .i64 (x : Int)] w fun e w' => e = .returned (.bool true) ∧ ∃ n, w' = w.drewN n := by
  have ht := taken_yes h hn
  have d0 : ((x : Int) == 0) = false := by have := hn.lo; simp; omega
  have d1 : (x == 0) = false := by have := hn.lo; simp; omega
  clear h hn
  go_enter Try.func45, Try.ntmps45
  go_wp2_with fail
  refine ht.mono ?_
  rintro e w' ⟨rfl, n, rfl⟩
  clear ht
  go_wp2
  go_ret
  exact ⟨rfl, _, rfl⟩
set_option maxRecDepth 100000 in
set_option maxHeartbeats 1000000 in
theorem aleft_nil (w : World) : Calls Try.prog 12 #[.pointer none] w fun e w' => e = .returned (.int .i64 0) ∧ w = w' := by
  go_enter Try.func12, Try.ntmps12
  go_wp2
  go_ret
  exact ⟨rfl, rfl⟩
set_option maxRecDepth 100000 in
set_option maxHeartbeats 1000000 in
theorem aleft_any (h : Ar w g p q ws bs) (he : ws.getD 15 0 ≤ ws.length) : Calls Try.prog 12 #[.pointer (some ⟨g, 0, none⟩)] w fun e w' => e = .returned (.int .i64 ((ws.length : Int) - (ws.getD 15 0 : Nat))) ∧ ∃ n, w' = w.drewN n := by
  have hd := fun n => edge_any (h.drewN n)
  have c0 : ∀ n, (w.drewN n).cell? ⟨g, 0, none⟩ = some (.slice (some ⟨p, 0, none⟩) ws.length ws.length) := fun n => (h.drewN n).c0
  have hhi := h.hi
  clear h
  generalize ws.getD 15 0 = x at *
  generalize ws.length = m at *
  have ew : IntKind.i64.wrap ((m : Int) - (x : Int)) = (m : Int) - (x : Int) := by rw [IntKind.wrap_i64]; omega
  go_enter Try.func12, Try.ntmps12
  go_wp2_with fail
  go_quiet ((go_at_call 52; exact Calls.quiet_of_same ((hd _).mono fun _ _ h => ⟨h.1, h.2.symm⟩)))
  go_wp2
  go_ret
  exact ⟨rfl, _, rfl⟩
end

/-! ### numbers of two words -/
def twoN (ws : List Nat) (k : Nat) : Nat := ws.getD k 0 * 4294967296 + ws.getD (k + 1) 0
section
variable {w : World} {g p q : Nat} {ws : List Nat} {bs : List Bool}
theorem Ar.two (h : Ar w g p q ws bs) {k : Nat} (hk : k + 1 < ws.length) : Calls Try.prog 59 #[.pointer (some ⟨p, k, none⟩)] w fun e w' => e = .returned (.int .u64 ((twoN ws k : Nat) : Int)) ∧ ∃ n, w' = w.drewN n :=
  joined_any (fun n => (h.drewN n).word (i := k) (by omega)) (fun n => (h.drewN n).word (i := k + 1) hk) (h.small _) (h.small _)
theorem twoN_lt (h : Ar w g p q ws bs) (k : Nat) : twoN ws k < 18446744073709551616 := by
  have h1 := h.small k
  have h2 := h.small (k + 1)
  unfold twoN
  omega
set_option maxRecDepth 100000 in
set_option maxHeartbeats 1000000 in
theorem fence_nil (w : World) : Calls Try.prog 18 #[.pointer none] w fun e w' => e = .returned (.int .u64 0) ∧ w = w' := by
  go_enter Try.func18, Try.ntmps18
  go_wp2
  go_ret
  exact ⟨rfl, rfl⟩
set_option maxRecDepth 100000 in
set_option maxHeartbeats 1000000 in
theorem fence_any (h : Ar w g p q ws bs) : Calls Try.prog 18 #[.pointer (some ⟨g, 0, none⟩)] w fun e w' => e = .returned (.int .u64 ((twoN ws 7 : Nat) : Int)) ∧ ∃ n, w' = w.drewN n := by
  have hp := pair_any h 7 (by omega)
  have hj := h.two (k := 7) (by have := h.lo; omega)
  generalize twoN ws 7 = x at *
  clear h
  go_enter Try.func18, Try.ntmps18
  go_wp2_with fail
  refine hp.mono ?_
  rintro e w' ⟨rfl, rfl⟩
  go_wp2_with fail
  refine hj.mono ?_
  rintro e w' ⟨rfl, n, rfl⟩
  go_wp2
  go_ret
  exact ⟨rfl, _, rfl⟩
set_option maxRecDepth 100000 in
set_option maxHeartbeats 1000000 in
theorem raise_nil (y : Int) (w : World) : Calls Try.prog 17 #[.pointer none, .int .u64 y] w fun e w' => e = .returned (.int .i64 1) ∧ w = w' := by
  go_enter Try.func17, Try.ntmps17
  go_wp2
  go_ret
  exact ⟨rfl, rfl⟩
set_option maxRecDepth 100000 in
set_option maxHeartbeats 1000000 in
theorem raise_low (h : Ar w g p q ws bs) (y : Nat) (hy : y < twoN ws 7) : Calls Try.prog 17 #[.pointer (some ⟨g, 0, none⟩), .int .u64 (y : Int)] w fun e w' => e = .returned (.int .i64 161) ∧ ∃ n, w' = w.drewN n := by
  have hf := fence_any h
  generalize twoN ws 7 = x at *
  clear h
  have d1 : decide (y < x) = true := decide_eq_true hy
  go_enter Try.func17, Try.ntmps17
  go_wp2_with fail
  refine hf.mono ?_
  rintro e w' ⟨rfl, n, rfl⟩
  clear hf
  go_wp2
  go_ret
  exact ⟨rfl, _, rfl⟩
/-- The words with another number at k. -/
def setN (ws : List Nat) (k x : Nat) : List Nat := (ws.set k (x / 4294967296)).set (k + 1) (x % 4294967296)
set_option maxRecDepth 100000 in
set_option maxHeartbeats 1000000 in
theorem raise_yes (h : Ar w g p q ws bs) (y : Nat) (hy : twoN ws 7 ≤ y) (hy2 : y < 18446744073709551616) : Calls Try.prog 17 #[.pointer (some ⟨g, 0, none⟩), .int .u64 (y : Int)] w fun e w' => e = .returned (.int .i64 0) ∧ Ar w' g p q (setN ws 7 y) bs ∧ Kept [p] w w' := by
  have hf := fence_any h
  have hp := fun n => pair_any (h.drewN n) 7 (by omega)
  have hl := fun n => lay_any (h.drewN n) (k := 7) (x := y) (by have := h.lo; omega) hy2
  generalize twoN ws 7 = x at *
  have HK := Lib.hid (fun n => (Kept.refl [p] w).drewN n)
  clear h
  have d1 : decide (y < x) = false := decide_eq_false (by omega)
  go_enter Try.func17, Try.ntmps17
  go_wp2_with fail
  refine hf.mono ?_
  rintro e w' ⟨rfl, n, rfl⟩
  clear hf
  go_wp2_with fail
  refine (hp n).mono ?_
  rintro e w' ⟨rfl, rfl⟩
  clear hp
  go_wp2_with fail
  refine (hl n).mono ?_
  rintro e w' ⟨rfl, ha, hk⟩
  have HA := Lib.hid (And.intro ha ((HK.out n).trans hk))
  clear ha hk hl
  go_wp2
  go_ret
  exact ⟨rfl, HA.out⟩
end
end Go.Proofs.Ytgnpoehcmlmajaa
namespace Go.Proofs.Ytgnpoehcmlmajaa
set_option linter.unusedVariables false

section
variable {P : Program} {ops : Array Oper} {Q : Exit → Act → World → Prop} {S : World → Prop}

/-- In every world that meets S the operation gives v, and leaves the world as it is, but for draws. -/
def StillD (P : Program) (ops : Array Oper) (S : World → Prop) (o : Oper) (v : Value) (a : Act) : Prop :=
  (Region.wanted o (yielded ops a.tmps) = true ∧ ∀ w, S w → ((execOp a.eval o).run P w = .ok (.value v) w ∨ ∃ f args, (execOp a.eval o).run P w = .ok (.enter f args) w ∧ Calls P f args w fun e w' => e = .returned v ∧ ∃ n, w' = w.drewN n)) ∨
  (Region.wanted o (yielded ops a.tmps) = false ∧ v = undef)
theorem StillD.of_same {o : Oper} {v : Value} {a a' : Act} (hy : StillD P ops S o v a) (he : execOp a'.eval o = execOp a.eval o)
    (hw : Region.wanted o (yielded ops a'.tmps) = Region.wanted o (yielded ops a.tmps)) : StillD P ops S o v a' := by
  unfold StillD at *
  rw [he, hw]
  exact hy
/-- The operations in the order that is picked; those of eff may change the world. -/
def LinD (P : Program) (ops : Array Oper) (Q : Exit → Act → World → Prop) (S : World → Prop) (eff : List Nat) : List Nat → Act → World → Prop
  | [], a, w => ∀ n, Q .normal a (w.drewN n)
  | i :: r, a, w => ∃ o, ops[i]? = some o ∧ (eff.contains i = false → ∃ v, StillD P ops S o v a ∧ LinD P ops Q S eff r (a.put o.dst v) w) ∧ (eff.contains i = true → ∀ n, Moves P ops S o a (w.drewN n) fun v w' => LinD P ops Q S eff r (a.put o.dst v) w')

theorem LinD.swap {eff : List Nat} {i j : Nat} {x y : Oper} {r : List Nat} {a : Act} {w : World} (hi : ops[i]? = some x) (hj : ops[j]? = some y) (hx : ∀ cs b, x.op ≠ .select cs b) (hy : ∀ cs b, y.op ≠ .select cs b) (hap : x.apart ops y = true) (hq : eff.contains i = false)
    (h : LinD P ops Q S eff (i :: j :: r) a w) : LinD P ops Q S eff (j :: i :: r) a w := by
  obtain ⟨h1, h2, h3⟩ := Oper.apart_spec hap
  have ey : ∀ (v : Value), execOp (a.put x.dst v).eval y = execOp a.eval y := fun v => execOp_put y hy a x.dst v h1
  have wy : ∀ (v : Value), Region.wanted y (yielded ops (a.put x.dst v).tmps) = Region.wanted y (yielded ops a.tmps) := fun v => wanted_put y a x.dst v h1
  have ex : ∀ (v : Value), execOp (a.put y.dst v).eval x = execOp a.eval x := fun v => execOp_put x hx a y.dst v h3
  have wx : ∀ (v : Value), Region.wanted x (yielded ops (a.put y.dst v).tmps) = Region.wanted x (yielded ops a.tmps) := fun v => wanted_put x a y.dst v h3
  obtain ⟨x', hx', q1, _⟩ := h
  obtain rfl : x' = x := Option.some.inj (hx'.symm.trans hi)
  obtain ⟨vx, gx, y', hy', q2, q3⟩ := q1 hq
  obtain rfl : y' = y := Option.some.inj (hy'.symm.trans hj)
  refine ⟨_, hj, fun hf => ?_, fun ht n => ?_⟩
  · obtain ⟨vy, gy, h4⟩ := q2 hf
    refine ⟨vy, gy.of_same (ey vx).symm (wy vx).symm, _, hi, fun _ => ⟨vx, gx.of_same (ex vy) (wx vy), ?_⟩, fun h9 => by rw [hq] at h9; cases h9⟩
    rw [← Act.put_comm a vx vy h2]
    exact h4
  · refine (Moves.of_same (q3 ht n) (ey vx).symm (wy vx).symm).imp (fun v w' hS' h4 => ?_)
    refine ⟨_, hi, fun _ => ⟨vx, gx.of_same (ex v) (wx v), ?_⟩, fun h9 => by rw [hq] at h9; cases h9⟩
    rw [← Act.put_comm a vx v h2]
    exact h4
theorem LinD.front {eff : List Nat} {j : Nat} {y : Oper} {T2 : List Nat} (hj : ops[j]? = some y) (hy : ∀ cs b, y.op ≠ .select cs b) : ∀ (T1 : List Nat) (a : Act) (w : World), (∀ i ∈ T1, ∃ x, ops[i]? = some x ∧ (∀ cs b, x.op ≠ .select cs b) ∧ x.apart ops y = true ∧ eff.contains i = false) → LinD P ops Q S eff (T1 ++ j :: T2) a w → LinD P ops Q S eff (j :: (T1 ++ T2)) a w
  | [], _, _, _, h => h
  | i :: T1, a, w, hap, h => by
    obtain ⟨x, hi, hx, hxy, hq⟩ := hap i (by simp)
    obtain ⟨x', hx', q1, _⟩ := h
    obtain rfl : x' = x := Option.some.inj (hx'.symm.trans hi)
    obtain ⟨vx, gx, h4⟩ := q1 hq
    have h5 := LinD.front hj hy T1 _ w (fun k hk => hap k (by simp [hk])) h4
    exact LinD.swap hi hj hx hy hxy hq ⟨_, hi, fun _ => ⟨vx, gx, h5⟩, fun h9 => by rw [hq] at h9; cases h9⟩

theorem linD_any {eff ord : List Nat} (hok : ordOk ops eff ord = true) (hSd : ∀ w n, S w → S (w.drewN n)) : ∀ (fuel : Nat) (listed : Array Bool) (a : Act) (w : World) (m : Nat), listed.size = ops.size → (left listed ord).length ≤ fuel → S w → LinD P ops Q S eff (left listed ord) a w → wpAny P .any ops Q fuel listed a (w.drewN m) := by
  simp only [ordOk, Bool.and_eq_true] at hok
  obtain ⟨⟨hns, _⟩, hall0, hpairs⟩ := hok
  have hsel : ∀ (j : Nat) (o : Oper), ops[j]? = some o → ∀ cs b, o.op ≠ .select cs b := fun j o ho cs b => Region.noSelect_spec hns j o cs b ho
  have hback : ∀ j oj, ops[j]? = some oj → j ∈ ord ∧ ∀ e ∈ oj.after, e.on < j := by
    intro j oj hoj
    have h1 := List.all_eq_true.1 hall0 j (List.mem_range.2 (Array.getElem?_eq_some_iff.1 hoj).1)
    simp only [hoj, Bool.and_eq_true, Array.all_eq_true_iff_forall_mem, decide_eq_true_eq] at h1
    exact ⟨List.contains_iff_mem.1 h1.1, h1.2⟩
  have hnil : ∀ listed : Array Bool, listed.size = ops.size → Region.ready .any ops listed = [] → left listed ord = [] := by
    intro listed hsz hr
    have key : ∀ j, listed.getD j true = true := by
      intro j
      induction j using Nat.strongRecOn with
      | ind j ih =>
        cases hb : listed.getD j true with
        | true => rfl
        | false =>
          have hj : j < ops.size := by
            rcases Nat.lt_or_ge j listed.size with h' | h'
            · omega
            · simp [Array.getElem?_eq_none h'] at hb
          have hoj : ops[j]? = some ops[j] := Array.getElem?_eq_getElem hj
          have hm : j ∈ Region.ready .any ops listed := mem_ready.2 ⟨hb, _, hoj, fun e he _ => by
            have hlt := (hback j _ hoj).2 e he
            have h9 := ih e.on hlt
            have h8 : e.on < listed.size := by omega
            simp [h8] at h9 ⊢
            exact h9⟩
          rw [hr] at hm
          cases hm
    unfold left
    rw [List.filter_eq_nil_iff]
    intro i _
    rw [key i]
    simp
  have hpick : ∀ (listed : Array Bool) (j : Nat), listed.size = ops.size → j ∈ Region.ready .any ops listed → ∃ oj T1 T2, ops[j]? = some oj ∧ left listed ord = T1 ++ j :: T2 ∧ left (listed.setIfInBounds j true) ord = T1 ++ T2 ∧ ∀ i ∈ T1, ∃ x, ops[i]? = some x ∧ (∀ cs b, x.op ≠ .select cs b) ∧ x.apart ops oj = true ∧ eff.contains i = false := by
    intro listed j hsz hj
    obtain ⟨hun, oj, hoj, hall⟩ := mem_ready.1 hj
    obtain ⟨L1, L2, hord⟩ := List.append_of_mem (hback j oj hoj).1
    rw [hord] at hpairs
    obtain ⟨hn1, hn2, hp⟩ := pairsOk_split L1 hpairs
    have hlt : j < listed.size := by have := (Array.getElem?_eq_some_iff.1 hoj).1; omega
    refine ⟨oj, left listed L1, left listed L2, hoj, ?_, ?_, ?_⟩
    · rw [hord]
      unfold left
      rw [List.filter_append, List.filter_cons, hun]
      simp
    · have e : left (listed.setIfInBounds j true) (j :: L2) = left (listed.setIfInBounds j true) L2 := by
        unfold left
        rw [List.filter_cons]
        simp [hlt]
      have e2 : left (listed.setIfInBounds j true) (L1 ++ j :: L2) = left (listed.setIfInBounds j true) L1 ++ left (listed.setIfInBounds j true) (j :: L2) := by simp [left]
      rw [hord, e2, e, left_set _ _ _ hn1, left_set _ _ _ hn2]
    · intro i hi
      have hi1 := List.mem_filter.1 hi
      obtain ⟨hil, hc⟩ := hp i hi1.1
      have hui : listed.getD i true = false := by simpa using hi1.2
      have hoi : ops[i]? = some ops[i] := Array.getElem?_eq_getElem hil
      rcases hc with h9 | h9
      · obtain ⟨e, he, hb, rfl⟩ := waits_spec hoj h9
        have h8 := hall e he hb
        have h7 : e.on < listed.size := by omega
        simp [h7] at h8 hui
        rw [hui] at h8
        cases h8
      · refine ⟨_, hoi, hsel i _ hoi, ?_, h9.2⟩
        have h7 := h9.1
        unfold pairApart at h7
        simp only [hoi, hoj] at h7
        exact h7
  intro fuel
  induction fuel with
  | zero =>
    intro listed a w m hsz hlen hS hL
    have h0 : left listed ord = [] := List.length_eq_zero_iff.1 (by omega)
    rw [h0] at hL
    refine ⟨?_, hL m⟩
    refine List.eq_nil_iff_forall_not_mem.2 (fun j hj => ?_)
    obtain ⟨oj, T1, T2, _, h1, _⟩ := hpick listed j hsz hj
    rw [h0] at h1
    simp at h1
  | succ fuel ih =>
    intro listed a w m hsz hlen hS hL
    refine ⟨fun hr => ?_, fun j hj => ?_⟩
    · rw [hnil listed hsz hr] at hL
      exact hL m
    · obtain ⟨oj, T1, T2, hoj, h1, h2, h3⟩ := hpick listed j hsz hj
      rw [h1] at hL hlen
      obtain ⟨oj', hoj', q1, q2⟩ := LinD.front hoj (hsel j oj hoj) T1 a w h3 hL
      obtain rfl : oj' = oj := Option.some.inj (hoj'.symm.trans hoj)
      have hnext : ∀ a' w' m, S w' → LinD P ops Q S eff (T1 ++ T2) a' w' → wpAny P .any ops Q fuel (listed.setIfInBounds j true) a' (w'.drewN m) := fun a' w' m hS' h4 => by
        refine ih (listed.setIfInBounds j true) a' w' m (by simp [hsz]) ?_ hS' (by rw [h2]; exact h4)
        rw [h2]
        simp at hlen ⊢
        omega
      unfold wpOp
      simp only [hoj]
      cases hv : eff.contains j with
      | false =>
        obtain ⟨v, g, h5⟩ := q1 hv
        rcases g with ⟨hw, hy⟩ | ⟨hw, rfl⟩
        · simp only [hw, if_true]
          refine .inl ?_
          unfold Oper.wp
          rcases hy _ (hSd w m hS) with h6 | ⟨f, args, h6, h7⟩
          · rw [h6]
            exact hnext _ _ m hS h5
          · rw [h6]
            refine Calls.mono h7 ?_
            rintro e w' ⟨rfl, n, rfl⟩
            rw [World.drewN_drewN]
            exact hnext _ _ _ hS h5
        · simp only [hw, Bool.false_eq_true, if_false]
          exact hnext _ _ m hS h5
      | true =>
        obtain ⟨hw, hm⟩ := q2 hv m
        simp only [hw, if_true]
        refine .inl ?_
        unfold Oper.wp
        rcases hm with ⟨v, w', h6 | ⟨h6, rfl⟩, h7, h8⟩ | ⟨f, args, w1, h6, h7⟩
        · rw [h6]
          exact hnext _ _ 0 h7 h8
        · rw [h6]
          exact hnext _ _ 0 h7 h8
        · rw [h6]
          refine Calls.mono h7 ?_
          rintro e w' ⟨v, rfl, h8, h9⟩
          exact hnext _ _ 0 h8 h9

/-- THE BEGINNING: a region that draws its order, walked in the order that is picked; those of eff may change the world. -/
theorem wp_region_linD {id : Nat} {a : Act} {w : World} (S : World → Prop) (eff ord : List Nat) (hm : P.follows .mixedOrders = true) (hok : ordOk ops eff ord = true) (hSd : ∀ w n, S w → S (w.drewN n)) (hS : S w.drew) (h : LinD P ops Q S eff ord a w.drew) : (Code.region id ops true).wp P Q a w := by
  refine wp_region_any hm ?_
  simp only [ordOk, Bool.and_eq_true] at hok
  have hlt : ∀ i ∈ ord, i < ops.size := by
    intro i hi
    obtain ⟨L1, L2, hord⟩ := List.append_of_mem hi
    have h3 := hok.2.2
    rw [hord] at h3
    have : ∀ (L1 : List Nat), pairsOk ops eff (L1 ++ i :: L2) = true → i < ops.size := by
      intro L1
      induction L1 with
      | nil => intro h; simp only [List.nil_append, pairsOk, Bool.and_eq_true, decide_eq_true_eq] at h; exact h.1
      | cons k L1 ih => intro h; simp only [List.cons_append, pairsOk, Bool.and_eq_true] at h; exact ih h.2.2.2
    exact this L1 h3
  have hu : left (Array.replicate ops.size false) ord = ord := by
    unfold left
    rw [List.filter_eq_self]
    intro i hi
    have := hlt i hi
    simp [this]
  refine linD_any (S := S) (eff := eff) (ord := ord) (by simp only [ordOk, Bool.and_eq_true]; exact hok) hSd _ _ _ _ 0 (by simp) ?_ hS ?_
  · rw [hu]
    simpa using hok.1.2
  · rw [hu]; exact h

theorem linD_nil {eff : List Nat} {a : Act} {w : World} (h : ∀ n, Q .normal a (w.drewN n)) : LinD P ops Q S eff [] a w := h
/-- An operation that gives its value in every world that meets S, and leaves the world as it is. -/
theorem linD_op {eff : List Nat} {i : Nat} {o : Oper} {r : List Nat} {a : Act} {w : World} {v : Value} (ho : ops[i]? = some o) (he : eff.contains i = false) (hw : Region.wanted o (yielded ops a.tmps) = true) (hy : ∀ w, S w → (execOp a.eval o).run P w = .ok (.value v) w) (h : LinD P ops Q S eff r (a.put o.dst v) w) : LinD P ops Q S eff (i :: r) a w :=
  ⟨o, ho, fun _ => ⟨v, .inl ⟨hw, fun w hS => .inl (hy w hS)⟩, h⟩, fun h9 => by rw [he] at h9; cases h9⟩
theorem linD_off {eff : List Nat} {i : Nat} {o : Oper} {r : List Nat} {a : Act} {w : World} (ho : ops[i]? = some o) (he : eff.contains i = false) (hw : Region.wanted o (yielded ops a.tmps) = false) (h : LinD P ops Q S eff r (a.put o.dst undef) w) : LinD P ops Q S eff (i :: r) a w :=
  ⟨o, ho, fun _ => ⟨undef, .inr ⟨hw, rfl⟩, h⟩, fun h9 => by rw [he] at h9; cases h9⟩
theorem linD_fn {eff : List Nat} {i : Nat} {o : Oper} {r : List Nat} {a : Act} {w : World} {v : Value} {f : Nat} {c : Call} {args : Array Value} (hi : ops[i]? = some o) (he : eff.contains i = false) (hw : Region.wanted o (yielded ops a.tmps) = true) (ho : o.op = .call c) (hc : c.callee = .value (.func f)) (hen : ∀ args w, (callFunc f args).run P w = .ok (.enter f args) w)
    (hcl : ∀ w, S w → Calls P f args w fun e w' => e = .returned v ∧ ∃ n, w' = w.drewN n) (ha : c.args.map a.eval = args) (h : LinD P ops Q S eff r (a.put o.dst v) w) : LinD P ops Q S eff (i :: r) a w := by
  refine ⟨o, hi, fun _ => ⟨v, .inl ⟨hw, fun w hS => .inr ⟨f, args, ?_, hcl w hS⟩⟩, h⟩, fun h9 => by rw [he] at h9; cases h9⟩
  simp only [execOp, ho, resolve, hc, ha, Act.eval, Deferred.ofValue, invoke, Sem.run_bind, Sem.run_pure, Result.andThen_ok]
  have e1 := hen (#[] ++ args ++ #[]) w
  simp only [Array.empty_append, Array.append_empty] at e1 ⊢
  exact e1
/-- An operation that changes the world. -/
theorem linD_do {eff : List Nat} {i : Nat} {o : Oper} {r : List Nat} {a : Act} {w : World} {v : Value} (ho : ops[i]? = some o) (he : eff.contains i = true) (hw : Region.wanted o (yielded ops a.tmps) = true) (hy : ∀ n, ∃ w', (execOp a.eval o).run P (w.drewN n) = .ok (.value v) w' ∧ S w' ∧ LinD P ops Q S eff r (a.put o.dst v) w') : LinD P ops Q S eff (i :: r) a w :=
  ⟨o, ho, fun h9 => (by rw [he] at h9; cases h9), fun _ n => ⟨hw, let ⟨w', h1, h2, h3⟩ := hy n; .inl ⟨v, w', .inl h1, h2, h3⟩⟩⟩
/-- A store. -/
theorem linD_store {eff : List Nat} {i : Nat} {o : Oper} {r : List Nat} {a : Act} {w : World} (ho : ops[i]? = some o) (he : eff.contains i = true) (hw : Region.wanted o (yielded ops a.tmps) = true) (hy : ∀ n, ∃ w', (execOp a.eval o).run P (w.drewN n) = .ok .skip w' ∧ S w' ∧ LinD P ops Q S eff r (a.put o.dst undef) w') : LinD P ops Q S eff (i :: r) a w :=
  ⟨o, ho, fun h9 => (by rw [he] at h9; cases h9), fun _ n => ⟨hw, let ⟨w', h1, h2, h3⟩ := hy n; .inl ⟨undef, w', .inr ⟨h1, rfl⟩, h2, h3⟩⟩⟩
/-- A call that changes the world. -/
theorem linD_call {eff : List Nat} {i : Nat} {o : Oper} {r : List Nat} {a : Act} {w : World} {f : Nat} {c : Call} {args : Array Value} (hi : ops[i]? = some o) (he : eff.contains i = true) (hw : Region.wanted o (yielded ops a.tmps) = true) (ho : o.op = .call c) (hc : c.callee = .value (.func f)) (hen : ∀ args w, (callFunc f args).run P w = .ok (.enter f args) w) (ha : c.args.map a.eval = args)
    (h : ∀ n, Calls P f args (w.drewN n) fun e w' => ∃ v, e = .returned v ∧ S w' ∧ LinD P ops Q S eff r (a.put o.dst v) w') : LinD P ops Q S eff (i :: r) a w := by
  refine ⟨o, hi, fun h9 => (by rw [he] at h9; cases h9), fun _ n => ⟨hw, .inr ⟨f, args, w.drewN n, ?_, h n⟩⟩⟩
  simp only [execOp, ho, resolve, hc, ha, Act.eval, Deferred.ofValue, invoke, Sem.run_bind, Sem.run_pure, Result.andThen_ok]
  have e1 := hen (#[] ++ args ++ #[]) (w.drewN n)
  simp only [Array.empty_append, Array.append_empty] at e1 ⊢
  exact e1
end
end Go.Proofs.Ytgnpoehcmlmajaa
