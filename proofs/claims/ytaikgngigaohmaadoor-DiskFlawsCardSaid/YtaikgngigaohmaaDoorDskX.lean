/-
  A map from numbers to truths that the call itself has made: which numbers it has met. And a slice of deeds that came in. Nothing here is a statement of the document.
-/
import Derived.Test.YtaikgngigaohmaaDoorDskV
import Derived.Maps.Own
import Derived.Maps.Views
namespace Go.Proofs.YtaikgngigaohmaaDoor
open Go.RowKit Go.Shelf
set_option linter.unusedVariables false

/-- Block b is a map that says true of just the numbers of xs. -/
def Met (w : World) (b : Nat) (xs : List Int) : Prop :=
  ∃ D : DataW Unit, w.ownsMap Tryd.prog 3 (plainElem Tryd.prog 4) b xs.length D ∧ Maps.IsMap D ∧ ∀ k : Int, D.atKey (.int .i64 k) (.lit (.bool false)) = .lit (.bool (decide (k ∈ xs)))

theorem Met.new (w : World) : Met (w.alloc (.map #[] 0)) w.heap.size [] :=
  ⟨.map [], World.ownsMap_made w _ _ _, Maps.isMap_empty, fun k => rfl⟩
theorem Met.lt {w : World} {b : Nat} {xs : List Int} (h : Met w b xs) : b < w.heap.size := by
  obtain ⟨D, h1, _⟩ := h
  exact h1.lt
theorem Met.grown {w w' : World} {row : Option Nat} {b : Nat} {xs : List Int} (h : Met w b xs) (hg : w.grownBy w' row) (hn : some b ≠ row) : Met w' b xs := by
  obtain ⟨D, h1, h2, h3⟩ := h
  exact ⟨D, h1.kept hg hn, h2, h3⟩
theorem Met.below {w w' : World} {b : Nat} {xs : List Int} (h : Met w b xs) (hb : Below w.heap.size w w') : Met w' b xs :=
  h.grown (row := none) ⟨hb.os, hb.tape, hb.output, hb.size, fun k hk _ => hb.block k hk⟩ (by simp)

theorem plainElem_bool_inv {v : Value} {z : DataW Unit × List MemPlace} (h : plainElem Tryd.prog 4 v = some z) : ∃ b, v = .bool b ∧ z = (.lit (.bool b), []) := by
  unfold plainElem at h
  rw [Tryd.underlying4] at h
  cases v <;> simp at h
  exact ⟨_, rfl, h.symm⟩

theorem zero_bool (w : World) : (zeroValue 4).run Tryd.prog w = .ok (.bool false) w := by kernel_rfl

/-! ### A slice of deeds -/
def Deeds (w : World) (a : Option Addr) (l : List (Deed × List Bool)) : Prop :=
  l = [] ∨ ∃ x, a = some x ∧ ∀ (i : Nat) (y : Deed × List Bool), l[i]? = some y →
    (∀ j, j < 5 → w.cell? (x.add (i * 5 + j)) = (y.1.cs)[j]?) ∧ Truths w y.1.ad y.2 ∧ y.2.length = y.1.len ∧ y.1.len ≤ y.1.cap ∧ y.1.cap ≤ maxLen ∧ (Lit.int .i64 y.1.sector).wf = true ∧ y.1.num ≤ 9223372036854775807
end Go.Proofs.YtaikgngigaohmaaDoor
