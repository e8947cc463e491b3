/-
  The contracts of the reference's Both, Same, High, and of bytes.Equal, octet.Equal. Nothing here is a statement of the document.
-/
import Derived.Test.YtkfpkolgikpcpaaOctF
import Derived.Deep.QuietTactic
import Derived.BigQuiet
import Derived.BigRegion
namespace Go.Proofs.Ytkfpkolgikpcpaa
open Go.RowKit
set_option linter.unusedVariables false

/-- What 'Both' has made when k bytes are laid. -/
def bothK (l m : List Nat) (k : Nat) : List Nat := (l ++ m).take k ++ List.replicate (l.length + m.length - k) 0

theorem bothK_zero (l m : List Nat) : bothK l m 0 = List.replicate (l.length + m.length) 0 := by simp [bothK]
theorem bothK_all (l m : List Nat) : bothK l m (l.length + m.length) = l ++ m := by
  rw [bothK, List.take_of_length_le (by simp)]; simp
theorem length_bothK (l m : List Nat) (k : Nat) (h : k ≤ l.length + m.length) : (bothK l m k).length = l.length + m.length := by
  simp [bothK]; omega
theorem bothK_succ (l m : List Nat) (k : Nat) (h : k < l.length + m.length) : bothK l m (k + 1) = (bothK l m k).set k ((l ++ m).getD k 0) := by
  have hk : k < (l ++ m).length := by simpa using h
  unfold bothK
  have e : l.length + m.length - k = (l.length + m.length - (k + 1)) + 1 := by omega
  rw [e, List.replicate_succ, List.take_add_one, List.getElem?_eq_getElem hk]
  have hl : ((l ++ m).take k).length = k := by simp at hk ⊢; omega
  rw [List.set_append_right _ _ (by omega), hl, Nat.sub_self, List.set_cons_zero, List.getD_eq_getElem?_getD, List.getElem?_eq_getElem hk]
  simp only [Option.toList_some, Option.getD_some, List.append_assoc, List.singleton_append]

theorem both_world {w wr : World} {l m : List Nat} {k v : Nat} (hOw : Own wr w.heap.size (bothK l m k)) (hBw : Below w.heap.size w wr) (hlt : k < l.length + m.length) (hv : (l ++ m).getD k 0 = v) :
    Own (wr.setCell ⟨w.heap.size, k, none⟩ (.int .u8 (v : Int))) w.heap.size (bothK l m (k + 1)) ∧ Below w.heap.size w (wr.setCell ⟨w.heap.size, k, none⟩ (.int .u8 (v : Int))) := by
  rw [bothK_succ l m k hlt, hv]
  exact ⟨hOw.set _, hBw.setCell (Nat.le_refl _) _⟩

/-- Draws alone. -/
def Drawn (w w' : World) : Prop := ∃ n, w' = w.drewN n
theorem Drawn.below {w w' : World} (h : Drawn w w') (B : Nat) : Below B w w' := by
  obtain ⟨n, rfl⟩ := h
  exact ⟨rfl, rfl, rfl, Nat.le_refl _, fun _ _ => rfl⟩

theorem same_all (l m : List Nat) (h : l.length = m.length) (ha : ∀ j, j < l.length → l.getD j 0 = m.getD j 0) : (l == m) = true := by
  rw [beq_iff_eq]
  apply List.ext_getElem h
  intro j h1 h2
  have := ha j h1
  simpa [h1, h2] using this
theorem same_not (l m : List Nat) (k : Nat) (ha : l.getD k 0 ≠ m.getD k 0) : (l == m) = false := by
  rw [beq_eq_false_iff_ne]
  rintro rfl
  exact ha rfl
theorem same_len (l m : List Nat) (h : l.length ≠ m.length) : (l == m) = false := by
  rw [beq_eq_false_iff_ne]
  rintro rfl
  exact h rfl

end Go.Proofs.Ytkfpkolgikpcpaa
