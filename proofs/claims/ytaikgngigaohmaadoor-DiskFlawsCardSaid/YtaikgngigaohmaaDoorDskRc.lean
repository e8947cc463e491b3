/-
  The document's crash, sync and read, by their contracts. Nothing here is a statement of the document.
-/
import Derived.Test.YtaikgngigaohmaaDoorDskDown
import Derived.Deep.RegionHeld3
namespace Go.Proofs.YtaikgngigaohmaaDoor
open Go.RowKit Go.Shelf
set_option linter.unusedVariables false

/-- Six cells are written. -/
theorem set6 {w : World} {g : Nat} {t : TypeId} {z0 z1 z2 z3 z4 z5 : Value} (h : Blk w g t #[z0, z1, z2, z3, z4, z5]) (a0 a1 a2 a3 a4 a5 : Value) :
    Blk ((((((w.setCell ⟨g, 0, none⟩ a0).setCell ⟨g, 1, none⟩ a1).setCell ⟨g, 2, none⟩ a2).setCell ⟨g, 3, none⟩ a3).setCell ⟨g, 4, none⟩ a4).setCell ⟨g, 5, none⟩ a5) g t #[a0, a1, a2, a3, a4, a5] ∧
    Kept [g] w ((((((w.setCell ⟨g, 0, none⟩ a0).setCell ⟨g, 1, none⟩ a1).setCell ⟨g, 2, none⟩ a2).setCell ⟨g, 3, none⟩ a3).setCell ⟨g, 4, none⟩ a4).setCell ⟨g, 5, none⟩ a5) :=
  ⟨(((((h.set 0 a0).set 1 a1).set 2 a2).set 3 a3).set 4 a4).set 5 a5,
   ((((((Kept.refl _ _).setCell (p := ⟨g, 0, none⟩) (.inl (by simp)) _).setCell (p := ⟨g, 1, none⟩) (.inl (by simp)) _).setCell (p := ⟨g, 2, none⟩) (.inl (by simp)) _).setCell (p := ⟨g, 3, none⟩) (.inl (by simp)) _).setCell (p := ⟨g, 4, none⟩) (.inl (by simp)) _).setCell (p := ⟨g, 5, none⟩) (.inl (by simp)) _⟩
/-- A row that is owned lies in no block of another type. -/
theorem own_apart {w : World} {b : Nat} {e t : TypeId} {size : Nat} {v : Value} {n : Nat} {xs : List Value} {g : Nat} {cs : Array Value} (h : w.ownsRow b e size v n xs) (hb : Blk w g t cs) (ht : e ≠ t) : ∀ k, v.ownBlock = some k → k ∉ [g] := by
  intro k hk h9
  obtain rfl : k = g := by simpa using h9
  rcases h.2 with ⟨h7, _⟩ | ⟨g5, cc5, cur5, h7, _, h6, _⟩
  · rw [h7] at hk; simp [Value.ownBlock] at hk
  · rw [h7] at hk
    simp only [Value.ownBlock, Option.some.injEq] at hk
    subst hk
    exact (show Blk w g5 e cur5 from h6).ne hb ht rfl

def crashR (M : Rk) (ks : List Bool) : Rk := ⟨(downR M ks).plate, [], -1, -1, false, M.ops⟩

end Go.Proofs.YtaikgngigaohmaaDoor
