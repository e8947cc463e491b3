/-
  Load, Store, Class, whether a place may lead, Left, Fence, Raise, Root. Nothing here is a statement of the document.
-/
import Derived.Test.YtoidklkloagioaaArnC
namespace Go.Proofs.Ytoidklkloagioaa
open Go.RowKit Go.Shelf
set_option linter.unusedVariables false

section
variable {w : World} {g p q : Nat} {ws : List Nat} {bs : List Bool}
set_option maxRecDepth 100000 in
set_option maxHeartbeats 1000000 in
theorem load_nil (x i : Int) (w : World) : Calls Try.prog 14 #[.pointer none, .int .i64 x, .int .i64 i] w fun e w' => e = .returned (.tuple #[.int .u32 0, .int .i64 1]) ∧ w = w' := by
  have ht := word_nil x i w
  go_enter Try.func14, Try.ntmps14
  go_wp2_with fail
  refine ht.mono ?_
  rintro e w' ⟨rfl, rfl⟩
  clear ht
  go_wp2
  go_ret2
  exact ⟨rfl, rfl⟩
set_option maxRecDepth 100000 in
set_option maxHeartbeats 1000000 in
theorem load_no (h : Ar w g p q ws bs) (x i : Int) (hn : No ws bs x) : Calls Try.prog 14 #[.pointer (some ⟨g, 0, none⟩), .int .i64 x, .int .i64 i] w fun e w' => e = .returned (.tuple #[.int .u32 0, .int .i64 4]) ∧ w = w' := by
  have ht := word_no h x i hn
  clear h hn
  go_enter Try.func14, Try.ntmps14
  go_wp2_with fail
  refine ht.mono ?_
  rintro e w' ⟨rfl, rfl⟩
  clear ht
  go_wp2
  go_ret2
  exact ⟨rfl, rfl⟩
set_option maxRecDepth 100000 in
set_option maxHeartbeats 1000000 in
theorem load_out (h : Ar w g p q ws bs) {x c : Nat} (hn : Yes ws bs x c) (i : Int) (hi : i < 0 ∨ ((2 ^ c : Nat) : Int) ≤ i) : Calls Try.prog 14 #[.pointer (some ⟨g, 0, none⟩), .int .i64 (x : Int), .int .i64 i] w fun e w' => e = .returned (.tuple #[.int .u32 0, .int .i64 2]) ∧ ∃ n, w' = w.drewN n := by
  have ht := word_out h hn i hi
  clear h hn
  go_enter Try.func14, Try.ntmps14
  go_wp2_with fail
  refine ht.mono ?_
  rintro e w' ⟨rfl, n, rfl⟩
  clear ht
  go_wp2
  go_ret2
  exact ⟨rfl, _, rfl⟩
set_option maxRecDepth 100000 in
set_option maxHeartbeats 1000000 in
theorem load_yes (h : Ar w g p q ws bs) {x c i : Nat} (hn : Yes ws bs x c) (hi : i < 2 ^ c) : Calls Try.prog 14 #[.pointer (some ⟨g, 0, none⟩), .int .i64 (x : Int), .int .i64 (i : Int)] w fun e w' => e = .returned (.tuple #[.int .u32 ((ws.getD (x + i) 0 : Nat) : Int), .int .i64 0]) ∧ ∃ n, w' = w.drewN n := by
  have ht := word_yes h hn hi
  have cx := fun n => (h.drewN n).word (i := x + i) (by have := hn.hi; omega)
  generalize ws.getD (x + i) 0 = y at *
  clear h hn
  go_enter Try.func14, Try.ntmps14
  go_wp2_with fail
  refine ht.mono ?_
  rintro e w' ⟨rfl, n, rfl⟩
  clear ht
  go_wp2
  go_ret2
  exact ⟨rfl, _, rfl⟩
set_option maxRecDepth 100000 in
set_option maxHeartbeats 1000000 in
theorem store_nil (x i y : Int) (w : World) : Calls Try.prog 13 #[.pointer none, .int .i64 x, .int .i64 i, .int .u32 y] w fun e w' => e = .returned (.int .i64 1) ∧ w = w' := by
  have ht := word_nil x i w
  go_enter Try.func13, Try.ntmps13
  go_wp2_with fail
  refine ht.mono ?_
  rintro e w' ⟨rfl, rfl⟩
  clear ht
  go_wp2
  go_ret
  exact ⟨rfl, rfl⟩
set_option maxRecDepth 100000 in
set_option maxHeartbeats 1000000 in
theorem store_no (h : Ar w g p q ws bs) (x i y : Int) (hn : No ws bs x) : Calls Try.prog 13 #[.pointer (some ⟨g, 0, none⟩), .int .i64 x, .int .i64 i, .int .u32 y] w fun e w' => e = .returned (.int .i64 4) ∧ w = w' := by
  have ht := word_no h x i hn
  clear h hn
  go_enter Try.func13, Try.ntmps13
  go_wp2_with fail
  refine ht.mono ?_
  rintro e w' ⟨rfl, rfl⟩
  clear ht
  go_wp2
  go_ret
  exact ⟨rfl, rfl⟩
set_option maxRecDepth 100000 in
set_option maxHeartbeats 1000000 in
theorem store_out (h : Ar w g p q ws bs) {x c : Nat} (hn : Yes ws bs x c) (i y : Int) (hi : i < 0 ∨ ((2 ^ c : Nat) : Int) ≤ i) : Calls Try.prog 13 #[.pointer (some ⟨g, 0, none⟩), .int .i64 (x : Int), .int .i64 i, .int .u32 y] w fun e w' => e = .returned (.int .i64 2) ∧ ∃ n, w' = w.drewN n := by
  have ht := word_out h hn i hi
  clear h hn
  go_enter Try.func13, Try.ntmps13
  go_wp2_with fail
  refine ht.mono ?_
  rintro e w' ⟨rfl, n, rfl⟩
  clear ht
  go_wp2
  go_ret
  exact ⟨rfl, _, rfl⟩
set_option maxRecDepth 100000 in
set_option maxHeartbeats 1000000 in
theorem store_yes (h : Ar w g p q ws bs) {x c i : Nat} (hn : Yes ws bs x c) (hi : i < 2 ^ c) (y : Nat) (hy : y < 4294967296) : Calls Try.prog 13 #[.pointer (some ⟨g, 0, none⟩), .int .i64 (x : Int), .int .i64 (i : Int), .int .u32 (y : Int)] w fun e w' => e = .returned (.int .i64 0) ∧ Ar w' g p q (ws.set (x + i) y) bs ∧ Kept [p] w w' := by
  have ht := word_yes h hn hi
  have cx := fun n => (h.drewN n).word (i := x + i) (by have := hn.hi; omega)
  have fx := fun n => (h.drewN n).wds.free (x + i)
  have HH := Lib.hid (fun n => And.intro ((h.drewN n).set (x + i) y hy) (((Kept.refl [p] w).drewN n).setCell (p := ⟨p, x + i, none⟩) (.inl (by simp)) (.int .u32 (y : Int))))
  generalize ws.getD (x + i) 0 = y0 at *
  clear h hn
  go_enter Try.func13, Try.ntmps13
  go_wp2_with fail
  refine ht.mono ?_
  rintro e w' ⟨rfl, n, rfl⟩
  clear ht
  go_wp2
  go_ret
  first | exact ⟨rfl, (HH.out n).1, (HH.out n).2⟩ | exact ⟨rfl, (HH.out 0).1.drewN n, (HH.out 0).2.drewN n⟩
set_option maxRecDepth 100000 in
set_option maxHeartbeats 1000000 in
theorem class_nil (x : Int) (w : World) : Calls Try.prog 35 #[.pointer none, .int .i64 x] w fun e w' => e = .returned (.tuple #[.int .i64 0, .bool false]) ∧ w = w' := by
  have ht := taken_nil x w
  go_enter Try.func35, Try.ntmps35
  go_wp2_with fail
  refine ht.mono ?_
  rintro e w' ⟨rfl, rfl⟩
  clear ht
  go_wp2
  go_ret2
  exact ⟨rfl, rfl⟩
set_option maxRecDepth 100000 in
set_option maxHeartbeats 1000000 in
theorem class_no (h : Ar w g p q ws bs) (x : Int) (hn : No ws bs x) : Calls Try.prog 35 #[.pointer (some ⟨g, 0, none⟩), .int .i64 x] w fun e w' => e = .returned (.tuple #[.int .i64 0, .bool false]) ∧ w = w' := by
  have ht := taken_no h x hn
  clear h hn
  go_enter Try.func35, Try.ntmps35
  go_wp2_with fail
  refine ht.mono ?_
  rintro e w' ⟨rfl, rfl⟩
  clear ht
  go_wp2
  go_ret2
  exact ⟨rfl, rfl⟩
set_option maxRecDepth 100000 in
set_option maxHeartbeats 1000000 in
theorem class_yes (h : Ar w g p q ws bs) {x c : Nat} (hn : Yes ws bs x c) : Calls Try.prog 35 #[.pointer (some ⟨g, 0, none⟩), .int .i64 (x : Int)] w fun e w' => e = .returned (.tuple #[.int .i64 (c : Int), .bool true]) ∧ ∃ n, w' = w.drewN n := by
  have ht := taken_yes h hn
  have hd := fun n => head_any (h.drewN n) x hn.lo hn.lt
  simp only [hn.hd] at hd
  have hc := fun w => hclass_any c true hn.cl w
  clear h hn
  generalize hdN c true = hv at *
  go_enter Try.func35, Try.ntmps35
  go_wp2_with fail
  refine ht.mono ?_
  rintro e w' ⟨rfl, n, rfl⟩
  clear ht
  go_wp2_with fail
  refine (hd n).mono ?_
  rintro e w' ⟨rfl, rfl⟩
  go_wp2_with fail
  refine (hc _).mono ?_
  rintro e w' ⟨rfl, rfl⟩
  go_wp2
  go_ret2
  exact ⟨rfl, _, rfl⟩
set_option maxRecDepth 100000 in
set_option maxHeartbeats 1000000 in
theorem lead_zero (h : Ar w g p q ws bs) (hn : No ws bs 0) : Calls Try.prog 45 #[.pointer (some ⟨g, 0, none⟩), .int .i64 0] w fun e w' => e = .returned (.bool true) ∧ w = w' := by
  have ht := taken_no h 0 hn
  clear h hn
  go_enter Try.func45, Try.ntmps45
  go_wp2_with fail
  refine ht.mono ?_
  rintro e w' ⟨rfl, rfl⟩
  clear ht
  go_wp2
  go_ret
  exact ⟨rfl, rfl⟩
set_option maxRecDepth 100000 in
set_option maxHeartbeats 1000000 in
theorem lead_no (h : Ar w g p q ws bs) (x : Int) (hx : x ≠ 0) (hn : No ws bs x) : Calls Try.prog 45 #[.pointer (some ⟨g, 0, none⟩), .int .i64 x] w fun e w' => e = .returned (.bool false) ∧ w = w' := by
  have ht := taken_no h x hn
  clear h hn
  have d0 : (x == 0) = false := by simpa using hx
  go_enter Try.func45, Try.ntmps45
  go_wp2_with fail
  refine ht.mono ?_
  rintro e w' ⟨rfl, rfl⟩
  clear ht
  go_wp2
  go_ret
  exact ⟨rfl, rfl⟩
set_option maxRecDepth 100000 in
set_option maxHeartbeats 1000000 in
theorem lead_yes (h : Ar w g p q ws bs) {x c : Nat} (hn : Yes ws bs x c) : Calls Try.prog 45 #[.pointer (some ⟨g, 0, none⟩), .int .i64 (x : Int)] w fun e w' => e = .returned (.bool true) ∧ ∃ n, w' = w.drewN n := by
  have ht := taken_yes h hn
  have d0 : ((x : Int) == 0) = false := by have := hn.lo; simp; omega
  have d1 : (x == 0) = false := by have := hn.lo; simp; omega
  clear h hn
  go_enter Try.func45, Try.ntmps45
  go_wp2_with fail
  refine ht.mono ?_
  rintro e w' ⟨rfl, n, rfl⟩
  clear ht
  go_wp2
  go_ret
  exact ⟨rfl, _, rfl⟩
set_option maxRecDepth 100000 in
set_option maxHeartbeats 1000000 in
theorem aleft_nil (w : World) : Calls Try.prog 12 #[.pointer none] w fun e w' => e = .returned (.int .i64 0) ∧ w = w' := by
  go_enter Try.func12, Try.ntmps12
  go_wp2
  go_ret
  exact ⟨rfl, rfl⟩
set_option maxRecDepth 100000 in
set_option maxHeartbeats 1000000 in
theorem aleft_any (h : Ar w g p q ws bs) (he : ws.getD 15 0 ≤ ws.length) : Calls Try.prog 12 #[.pointer (some ⟨g, 0, none⟩)] w fun e w' => e = .returned (.int .i64 ((ws.length : Int) - (ws.getD 15 0 : Nat))) ∧ ∃ n, w' = w.drewN n := by
  have hd := fun n => edge_any (h.drewN n)
  have c0 : ∀ n, (w.drewN n).cell? ⟨g, 0, none⟩ = some (.slice (some ⟨p, 0, none⟩) ws.length ws.length) := fun n => (h.drewN n).c0
  have hhi := h.hi
  clear h
  generalize ws.getD 15 0 = x at *
  generalize ws.length = m at *
  have ew : IntKind.i64.wrap ((m : Int) - (x : Int)) = (m : Int) - (x : Int) := by rw [IntKind.wrap_i64]; omega
  go_enter Try.func12, Try.ntmps12
  go_wp2_with fail
  go_quiet ((go_at_call 52; exact Calls.quiet_of_same ((hd _).mono fun _ _ h => ⟨h.1, h.2.symm⟩)))
  go_wp2
  go_ret
  exact ⟨rfl, _, rfl⟩
end

/-! ### numbers of two words -/
def twoN (ws : List Nat) (k : Nat) : Nat := ws.getD k 0 * 4294967296 + ws.getD (k + 1) 0
section
variable {w : World} {g p q : Nat} {ws : List Nat} {bs : List Bool}
theorem Ar.two (h : Ar w g p q ws bs) {k : Nat} (hk : k + 1 < ws.length) : Calls Try.prog 59 #[.pointer (some ⟨p, k, none⟩)] w fun e w' => e = .returned (.int .u64 ((twoN ws k : Nat) : Int)) ∧ ∃ n, w' = w.drewN n :=
  joined_any (fun n => (h.drewN n).word (i := k) (by omega)) (fun n => (h.drewN n).word (i := k + 1) hk) (h.small _) (h.small _)
theorem twoN_lt (h : Ar w g p q ws bs) (k : Nat) : twoN ws k < 18446744073709551616 := by
  have h1 := h.small k
  have h2 := h.small (k + 1)
  unfold twoN
  omega
set_option maxRecDepth 100000 in
set_option maxHeartbeats 1000000 in
theorem fence_nil (w : World) : Calls Try.prog 18 #[.pointer none] w fun e w' => e = .returned (.int .u64 0) ∧ w = w' := by
  go_enter Try.func18, Try.ntmps18
  go_wp2
  go_ret
  exact ⟨rfl, rfl⟩
set_option maxRecDepth 100000 in
set_option maxHeartbeats 1000000 in
theorem fence_any (h : Ar w g p q ws bs) : Calls Try.prog 18 #[.pointer (some ⟨g, 0, none⟩)] w fun e w' => e = .returned (.int .u64 ((twoN ws 7 : Nat) : Int)) ∧ ∃ n, w' = w.drewN n := by
  have hp := pair_any h 7 (by omega)
  have hj := h.two (k := 7) (by have := h.lo; omega)
  generalize twoN ws 7 = x at *
  clear h
  go_enter Try.func18, Try.ntmps18
  go_wp2_with fail
  refine hp.mono ?_
  rintro e w' ⟨rfl, rfl⟩
  go_wp2_with fail
  refine hj.mono ?_
  rintro e w' ⟨rfl, n, rfl⟩
  go_wp2
  go_ret
  exact ⟨rfl, _, rfl⟩
set_option maxRecDepth 100000 in
set_option maxHeartbeats 1000000 in
theorem raise_nil (y : Int) (w : World) : Calls Try.prog 17 #[.pointer none, .int .u64 y] w fun e w' => e = .returned (.int .i64 1) ∧ w = w' := by
  go_enter Try.func17, Try.ntmps17
  go_wp2
  go_ret
  exact ⟨rfl, rfl⟩
set_option maxRecDepth 100000 in
set_option maxHeartbeats 1000000 in
theorem raise_low (h : Ar w g p q ws bs) (y : Nat) (hy : y < twoN ws 7) : Calls Try.prog 17 #[.pointer (some ⟨g, 0, none⟩), .int .u64 (y : Int)] w fun e w' => e = .returned (.int .i64 161) ∧ ∃ n, w' = w.drewN n := by
  have hf := fence_any h
  generalize twoN ws 7 = x at *
  clear h
  have d1 : decide (y < x) = true := decide_eq_true hy
  go_enter Try.func17, Try.ntmps17
  go_wp2_with fail
  refine hf.mono ?_
  rintro e w' ⟨rfl, n, rfl⟩
  clear hf
  go_wp2
  go_ret
  exact ⟨rfl, _, rfl⟩
/-- The words with another number at k. -/
def setN (ws : List Nat) (k x : Nat) : List Nat := (ws.set k (x / 4294967296)).set (k + 1) (x % 4294967296)
set_option maxRecDepth 100000 in
set_option maxHeartbeats 1000000 in
theorem raise_yes (h : Ar w g p q ws bs) (y : Nat) (hy : twoN ws 7 ≤ y) (hy2 : y < 18446744073709551616) : Calls Try.prog 17 #[.pointer (some ⟨g, 0, none⟩), .int .u64 (y : Int)] w fun e w' => e = .returned (.int .i64 0) ∧ Ar w' g p q (setN ws 7 y) bs ∧ Kept [p] w w' := by
  have hf := fence_any h
  have hp := fun n => pair_any (h.drewN n) 7 (by omega)
  have hl := fun n => lay_any (h.drewN n) (k := 7) (x := y) (by have := h.lo; omega) hy2
  generalize twoN ws 7 = x at *
  have HK := Lib.hid (fun n => (Kept.refl [p] w).drewN n)
  clear h
  have d1 : decide (y < x) = false := decide_eq_false (by omega)
  go_enter Try.func17, Try.ntmps17
  go_wp2_with fail
  refine hf.mono ?_
  rintro e w' ⟨rfl, n, rfl⟩
  clear hf
  go_wp2_with fail
  refine (hp n).mono ?_
  rintro e w' ⟨rfl, rfl⟩
  clear hp
  go_wp2_with fail
  refine (hl n).mono ?_
  rintro e w' ⟨rfl, ha, hk⟩
  have HA := Lib.hid (And.intro ha ((HK.out n).trans hk))
  clear ha hk hl
  go_wp2
  go_ret
  exact ⟨rfl, HA.out⟩
end
end Go.Proofs.Ytoidklkloagioaa
