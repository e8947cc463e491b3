/-
  The document's row of yes, by its contract. Nothing here is a statement of the document.
-/
import Derived.Test.YtaikgngigaohmaaDoorDskJ
namespace Go.Proofs.YtaikgngigaohmaaDoor
open Go.RowKit Go.Shelf
set_option linter.unusedVariables false

theorem own_wholeB {w : World} {g : Nat} {t : TypeId} {cs : Array Value} (h : Blk w g t cs) (n size : Nat) (hs : cs.size = n * size) (hn : n ≤ maxLen) (B : Nat) (hB : B ≤ g) : w.ownsRow B t size (.slice (some ⟨g, 0, none⟩) n n) n cs.toList :=
  ⟨by rw [Array.length_toList, hs], .inr ⟨g, n, cs, rfl, hB, h, Nat.le_refl _, hn, hs, by rw [List.take_of_length_le (by rw [Array.length_toList, hs]; exact Nat.le_refl _)]⟩⟩

def yesTo (n k : Nat) : Array Value := (List.replicate (min k n) (Value.bool true) ++ List.replicate (n - k) (Value.bool false)).toArray
theorem yesTo_zero (n : Nat) : madeCells (Value.bool false).cells (n * 1) = yesTo n 0 := by
  apply Array.ext_getElem?
  intro i
  by_cases hi : i < n
  · have h1 : (yesTo n 0)[i]? = some (.bool false) := by simp [yesTo, hi]
    rw [h1]
    simp [madeCells, Value.cells, hi, Nat.mod_one]
  · have h1 : (yesTo n 0)[i]? = none := by simp [yesTo]; omega
    rw [h1]
    simp [madeCells]; omega
theorem yesTo_size (n k : Nat) (h : k ≤ n) : (yesTo n k).size = n := by simp [yesTo]; omega
theorem yesTo_succ (n k : Nat) (h : k < n) : (yesTo n k).setIfInBounds k (.bool true) = yesTo n (k + 1) := by
  apply Array.ext'
  rw [Array.toList_setIfInBounds]
  simp only [yesTo, Nat.min_eq_left (show k ≤ n by omega), Nat.min_eq_left (show k + 1 ≤ n by omega), List.set_append_right _ _ (show (List.replicate k (Value.bool true)).length ≤ k by simp), List.length_replicate, Nat.sub_self]
  rw [show n - k = (n - (k + 1)) + 1 from by omega, List.replicate_succ, List.set_cons_zero, List.replicate_succ' (n := k)]
  simp
theorem yesTo_all (n : Nat) : (yesTo n n).toList = (List.replicate n true).map Value.bool := by simp [yesTo]

end Go.Proofs.YtaikgngigaohmaaDoor
