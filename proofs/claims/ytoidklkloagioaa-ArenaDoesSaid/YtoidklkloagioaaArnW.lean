/-
  Does the layer do anything? Nothing here is a statement of the document.
-/
import Derived.Test.YtoidklkloagioaaArnF
import Derived.Test.YtoidklkloagioaaArnG
namespace Go.Proofs.Ytoidklkloagioaa
open Go.RowKit Go.Shelf
set_option linter.unusedVariables false

theorem bel_kept {w a b : World} (h : Below w.heap.size w a) {S : List Nat} (k : Kept S a b) (hS : ∀ k ∈ S, w.heap.size ≤ k) : Below w.heap.size w b := h.trans (k.below hS h.size)
theorem bel_later {w a b : World} (h : Below w.heap.size w a) (k : Below a.heap.size a b) : Below w.heap.size w b := h.trans (k.mono h.size)

def kW0 : List Nat := newWs 64
def kW1 : List Nat := growW kW0 0
def kW2 : List Nat := growW kW1 2
def kW3 : List Nat := kW2.set 22 7
def kW4 : List Nat := ((setN (setN kW3 1 1) 3 0).set 5 19).set 6 0
def kB0 : List Bool := List.replicate 64 false
def kB1 : List Bool := kB0.set 17 true
def kB2 : List Bool := kB1.set 19 true
theorem kF1 : kW0.getD 9 0 = 0 ∧ kW0.getD 15 0 = 16 ∧ kW0.length = 64 := by decide +kernel
theorem kF2 : kW1.getD 11 0 = 0 ∧ kW1.getD 15 0 = 18 ∧ kW1.length = 64 := by decide +kernel
theorem kF3 : kW2.getD 15 0 = 23 ∧ kW2.length = 64 := by decide +kernel
theorem kY2 : Yes kW2 kB2 19 2 := ⟨by decide +kernel, by decide +kernel, by decide +kernel, by decide +kernel, by decide +kernel⟩
theorem kY3 : Yes kW3 kB2 19 2 := ⟨by decide +kernel, by decide +kernel, by decide +kernel, by decide +kernel, by decide +kernel⟩
theorem kY4 : Yes kW4 kB2 19 2 := ⟨by decide +kernel, by decide +kernel, by decide +kernel, by decide +kernel, by decide +kernel⟩
theorem kN3 : No kW3 kB2 0 := .inl (by decide +kernel)
theorem kF4 : kW3.getD 22 0 = 7 ∧ twoN kW3 7 = 0 ∧ twoN kW3 1 = 0 := by decide +kernel
theorem kF5 : kW4.getD 5 0 = 19 ∧ twoN kW4 7 = 0 := by decide +kernel
theorem kF6 : twoN (setN kW4 7 2) 7 = 2 := by decide +kernel

set_option maxRecDepth 100000 in
set_option maxHeartbeats 1000000 in
theorem wakes6_any (w : World) : Calls Try.prog 5 #[] w fun e w' => e = .returned (.bool true) ∧ Below w.heap.size w w' := by
  have hnew := new_yes 64 (by omega) (by omega) w
  have hbd := fun w' => (show (Instr.build 34 #[(0, .int .u64 1), (2, .int .i64 19)]).run Try.prog w' = .ok (.agg #[.int .u64 1, .int .u64 0, .int .i64 19, .int .i64 0]) w' by kernel_rfl)
  go_enter Try.func5, Try.ntmps5
  go_wp2_with fail
  refine hnew.mono ?_
  rintro e w0 ⟨rfl, A0, b0⟩
  clear hnew
  have hp := A0.wds.lt
  have hpq : ∀ k ∈ [w.heap.size, w.heap.size + 1], w.heap.size ≤ k := by simp
  have hpp : ∀ k ∈ [w.heap.size], w.heap.size ≤ k := by simp
  have h1 := alloc_grow A0 0 (by omega) kF1.1 (by rw [show (newWs 64).getD 15 0 = 16 from kF1.2.1]; omega) (by decide +kernel)
  rw [show (newWs 64).getD 15 0 = 16 from kF1.2.1] at h1
  go_wp2_with fail
  refine h1.mono ?_
  rintro e w1 ⟨rfl, A1, k1⟩
  have b1 := bel_kept b0 k1 hpq
  clear h1 k1 A0 b0
  have h2 := alloc_grow A1 2 (by omega) kF2.1 (by rw [show (growW (newWs 64) 0).getD 15 0 = 18 from kF2.2.1]; omega) (by decide +kernel)
  rw [show (growW (newWs 64) 0).getD 15 0 = 18 from kF2.2.1] at h2
  go_wp2_with fail
  refine h2.mono ?_
  rintro e w2 ⟨rfl, A2, k2⟩
  have b2 := bel_kept b1 k2 hpq
  clear h2 k2 A1 b1
  replace A2 : Ar w2 (w.heap.size + 2) w.heap.size (w.heap.size + 1) kW2 kB2 := A2
  have h3 := aleft_any A2 (by rw [kF3.1, kF3.2]; omega)
  rw [kF3.1, kF3.2] at h3
  go_wp2_with fail
  refine h3.mono ?_
  rintro e w3 ⟨rfl, n, hn⟩
  have A3 : Ar w3 (w.heap.size + 2) w.heap.size (w.heap.size + 1) kW2 kB2 := by rw [hn]; exact A2.drewN n
  have b3 : Below w.heap.size w w3 := by rw [hn]; exact below_drewN b2 n
  clear h3 hn A2 b2
  have h4 := store_yes A3 kY2 (i := 3) (by decide) 7 (by omega)
  go_wp2_with fail
  refine h4.mono ?_
  rintro e w4 ⟨rfl, A4, k4⟩
  have b4 := bel_kept b3 k4 hpp
  clear h4 k4 A3 b3
  replace A4 : Ar w4 (w.heap.size + 2) w.heap.size (w.heap.size + 1) kW3 kB2 := A4
  have h5 := load_yes A4 kY3 (i := 3) (by decide)
  rw [show (19 + 3 : Nat) = 22 from rfl, kF4.1] at h5
  go_wp2_with fail
  refine h5.mono ?_
  rintro e w5 ⟨rfl, n, hn⟩
  have A5 : Ar w5 (w.heap.size + 2) w.heap.size (w.heap.size + 1) kW3 kB2 := by rw [hn]; exact A4.drewN n
  have b5 : Below w.heap.size w w5 := by rw [hn]; exact below_drewN b4 n
  clear h5 hn A4 b4
  have h6 := pub_yes A5 1 0 19 0 (by rw [kF4.2.1]; omega) (by omega) (by omega) (by omega) (by rw [kF4.2.2]) (.inr ⟨19, 2, rfl, kY3⟩) (.inl ⟨rfl, kN3⟩)
  go_wp2_with fail
  refine h6.mono ?_
  rintro e w6 ⟨rfl, A6, k6⟩
  have b6 := bel_kept b5 k6 hpp
  clear h6 k6 A5 b5
  replace A6 : Ar w6 (w.heap.size + 2) w.heap.size (w.heap.size + 1) kW4 kB2 := A6
  have h7 := free_arg A6 kY4 (.inl kF5.1)
  go_wp2_with fail
  refine h7.mono ?_
  rintro e w7 ⟨rfl, k7⟩
  have A7 := A6.later k7
  have b7 := bel_later b6 k7
  clear h7 k7 A6 b6
  have h8 := raise_yes A7 2 (by rw [kF5.2]; omega) (by omega)
  go_wp2_with fail
  refine h8.mono ?_
  rintro e w8 ⟨rfl, A8, k8⟩
  have b8 := bel_kept b7 k8 hpp
  clear h8 k8 A7 b7
  have h9 := fence_any A8
  rw [kF6] at h9
  go_wp2_with fail
  refine h9.mono ?_
  rintro e w9 ⟨rfl, n, hn⟩
  have b9 : Below w.heap.size w w9 := by rw [hn]; exact below_drewN b8 n
  clear h9 hn A8 b8
  go_wp2
  go_ret
  exact ⟨rfl, b9⟩
end Go.Proofs.Ytoidklkloagioaa
