/-
  The layer does something: the walk of 'wakes', which each statement of layer 1 calls first. Nothing here is a statement of the document.
-/
import Derived.Test.YtgofnoakgigjbaaOctD
namespace Go.Proofs.Ytgofnoakgigjbaa
open Go.RowKit
set_option linter.unusedVariables false

theorem Aft.rd {w w' : World} {p g : Nat} {L : List Nat} {j j' : Nat} {err err' n : Int} (h : Aft w w' p g L j err n) (e : offTo L.length j err n = (j', err')) : Rd w' p g L j' err' := by
  have := h.1
  rw [e] at this
  exact this
theorem Aft.below {w0 w w' : World} {p g : Nat} {L : List Nat} {j : Nat} {err n : Int} {B : Nat} (h : Aft w w' p g L j err n) (hb : Below B w0 w) (hB : B ≤ w.heap.size) (hp : B ≤ p) : Below B w0 w' :=
  hb.grown h.2 hB (fun k hk => by cases hk; exact hp)

theorem bys3 : Bys [5, 0, 1] := by intro n hn; simp at hn; omega
theorem bys10 : Bys [1, 0] := by intro n hn; simp at hn; omega

set_option maxHeartbeats 1600000 in
theorem wakes_any (w : World) : Calls Try.prog 9 #[] w fun e w' => e = .returned (.bool true) ∧ Below w.heap.size w w' := by
  have hb0 : Below w.heap.size w (w.alloc (.cells #[.int .u8 5, .int .u8 0, .int .u8 1] 5)) := (Below.refl _ _).alloc (Nat.le_refl _) _
  have hO : Own (w.alloc (.cells #[.int .u8 5, .int .u8 0, .int .u8 1] 5)) w.heap.size [5, 0, 1] := heap_alloc_new w _
  go_enter Try.func9, Try.ntmps9
  go_wp2_with fail
  refine (read_any _ _ _ [5, 0, 1] _ rfl (by simp) hO.lies).mono ?_
  rintro e w1 ⟨p, rfl, hp, hR, hB1⟩
  have hb1 := hb0.trans (hB1.mono (by simp))
  simp only [World.size_alloc] at hp hB1
  go_wp2_with fail
  refine (u8_any hR bys3 (by simp)).mono ?_
  rintro e w2 ⟨he, hA⟩
  have hR2 : Rd w2 p _ [5, 0, 1] 1 0 := hA.rd rfl
  have hb2 := hA.below hb1 hb1.size (by omega)
  obtain rfl : e = .returned (.int .u8 5) := he
  clear hA hR
  go_wp2_with fail
  refine (u32_any hR2 bys3 (by simp)).mono ?_
  rintro e w3 ⟨he, hA⟩
  have hR3 : Rd w3 p _ [5, 0, 1] 1 7 := hA.rd rfl
  have hb3 := hA.below hb2 hb2.size (by omega)
  obtain rfl : e = .returned (.int .u32 0) := he
  clear hA hR2
  go_wp2_with fail
  refine (err_any hR3).mono ?_
  rintro e w' ⟨rfl, rfl⟩
  go_wp2_with fail
  refine (u8_any hR3 bys3 (by simp)).mono ?_
  rintro e w4 ⟨he, hA⟩
  have hR4 : Rd w4 p _ [5, 0, 1] 1 7 := hA.rd rfl
  have hb4 := hA.below hb3 hb3.size (by omega)
  obtain rfl : e = .returned (.int .u8 0) := he
  clear hA hR3
  go_wp2_with fail
  refine (left_any hR4).mono ?_
  rintro e w' ⟨he, rfl⟩
  obtain rfl : e = .returned (.int .i64 2) := he
  have hO5 : Own (w4.alloc (.cells #[.int .u8 1, .int .u8 0] 5)) w4.heap.size [1, 0] := heap_alloc_new w4 _
  have hb5 := hb4.alloc hb4.size (.cells #[.int .u8 1, .int .u8 0] 5)
  go_wp2_with fail
  refine (bit_any _ _ _ [1, 0] 8 _ rfl (by simp) bys10 hO5.lies (by omega) (by omega)).mono ?_
  rintro e w' ⟨he, rfl⟩
  obtain rfl : e = .returned (.bool true) := he
  have hO6 : Own ((w4.alloc (.cells #[.int .u8 1, .int .u8 0] 5)).alloc (.cells #[.int .u8 1, .int .u8 0] 5)) (w4.heap.size + 1) [1, 0] := by
    have h := heap_alloc_new (w4.alloc (.cells #[.int .u8 1, .int .u8 0] 5)) (.cells #[.int .u8 1, .int .u8 0] 5)
    rw [World.size_alloc] at h
    exact h
  have hb6 := hb5.alloc hb5.size (.cells #[.int .u8 1, .int .u8 0] 5)
  go_wp2_with fail
  refine (bit_any _ _ _ [1, 0] 0 _ rfl (by simp) bys10 (by exact hO6.lies) (by omega) (by omega)).mono ?_
  rintro e w' ⟨he, rfl⟩
  obtain rfl : e = .returned (.bool false) := he
  have hO7 : Own (((w4.alloc (.cells #[.int .u8 1, .int .u8 0] 5)).alloc (.cells #[.int .u8 1, .int .u8 0] 5)).alloc (.cells #[.int .u8 7] 5)) (w4.heap.size + 1 + 1) [7] := by
    have h := heap_alloc_new ((w4.alloc (.cells #[.int .u8 1, .int .u8 0] 5)).alloc (.cells #[.int .u8 1, .int .u8 0] 5)) (.cells #[.int .u8 7] 5)
    rw [World.size_alloc, World.size_alloc] at h
    exact h
  have hb7 := hb6.alloc hb6.size (.cells #[.int .u8 7] 5)
  go_wp2_with fail
  refine (put16_any _ _ _ [7] 1 _ rfl (by simp) (by exact hO7.lies) (by omega)).mono ?_
  rintro e w8 ⟨rfl, hO8, hB8⟩
  go_wp2_with fail
  go_ret
  exact ⟨rfl, hb7.trans (hB8.mono hb7.size)⟩
end Go.Proofs.Ytgofnoakgigjbaa
