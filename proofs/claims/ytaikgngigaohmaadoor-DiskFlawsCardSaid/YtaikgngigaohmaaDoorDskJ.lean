/-
  The document's new disk, its row of yes, and what a sector shows, by their contracts. Nothing here is a statement of the document.
-/
import Derived.Test.YtaikgngigaohmaaDoorDskI
namespace Go.Proofs.YtaikgngigaohmaaDoor
open Go.RowKit Go.Shelf
set_option linter.unusedVariables false

def newR (n : Nat) : Rk := ⟨List.replicate n Bk.zero, [], -1, -1, false, 0⟩
/-- A row that is wholly known, from its block's head. -/
theorem own_whole {w : World} {g : Nat} {t : TypeId} {cs : Array Value} (h : Blk w g t cs) (n size : Nat) (hs : cs.size = n * size) (hn : n ≤ maxLen) : w.ownsRow 0 t size (.slice (some ⟨g, 0, none⟩) n n) n cs.toList :=
  ⟨by rw [Array.length_toList, hs], .inr ⟨g, n, cs, rfl, Nat.zero_le _, h, Nat.le_refl _, hn, hs, by rw [List.take_of_length_le (by rw [Array.length_toList, hs]; exact Nat.le_refl _)]⟩⟩
/-- What a row that is owned holds, cell by cell. -/
theorem own_cells {w : World} {b : Nat} {e : TypeId} {size : Nat} {v : Value} {n : Nat} {xs : List Value} (h : w.ownsRow b e size v n xs) (hn : 0 < n) :
    ∃ g c C, v = .slice (some ⟨g, 0, none⟩) n c ∧ b ≤ g ∧ Blk w g e C ∧ n * size ≤ C.size ∧ n ≤ c ∧ c ≤ maxLen ∧ ∀ j, j < n * size → C[j]? = xs[j]? := by
  rcases h.2 with ⟨_, h0⟩ | ⟨g, cap, cur, rfl, hB, hg, hc, hm, hsz, ht⟩
  · omega
  · refine ⟨g, cap, cur, rfl, hB, hg, by rw [hsz]; exact Nat.mul_le_mul_right _ hc, hc, hm, fun j hj => ?_⟩
    rw [← ht, List.getElem?_take, if_pos hj, Array.getElem?_toList]

end Go.Proofs.YtaikgngigaohmaaDoor
