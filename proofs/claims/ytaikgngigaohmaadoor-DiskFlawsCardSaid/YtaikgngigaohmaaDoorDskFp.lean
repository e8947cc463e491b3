/-
  Words for DiskForks: a disk and its copy, each beside the document's. Nothing here is a statement of the document.
-/
import Derived.Test.YtaikgngigaohmaaDoorDskCq
namespace Go.Proofs.YtaikgngigaohmaaDoor
open Go.RowKit Go.Shelf
set_option linter.unusedVariables false

/-! ### What stands below a block stays -/
theorem own_under {n0 : Nat} {w w' : World} {b : Nat} {e : TypeId} {size : Nat} {v : Value} {n : Nat} {xs : List Value} (h : w.ownsRow b e size v n xs) (hb : Below n0 w w') (hl : ∀ k, v.ownBlock = some k → k < n0) : w'.ownsRow b e size v n xs := by
  rcases h.2 with h9 | ⟨g, cap, cur, rfl, h2, h3, h4⟩
  · exact ⟨h.1, .inl h9⟩
  · exact ⟨h.1, .inr ⟨g, cap, cur, rfl, h2, (hb.block g (hl g rfl)).trans h3, h4⟩⟩
theorem dsk_ge {W : World} {B p pb : Nat} {bv : Value} {D : Dk} (h : Dsk W B p pb bv D) : ∀ k ∈ fp p pb bv, B ≤ k := by
  intro k hk
  simp only [fp, List.mem_cons, Option.mem_toList] at hk
  rcases hk with rfl | rfl | h9
  · exact h.hp
  · exact h.hpb
  · exact (h.far k h9).2.2.1
theorem crash_none (D : Dk) : (crashM D []).plate = D.plate := by
  have : ∀ (l : List (Nat × Rw)) (E : Dk), crashF E [] l = E := by
    intro l
    induction l with
    | nil => intro E; rfl
    | cons x l ih =>
      intro E
      have e : crashF E [] (x :: l) = crashF (if ([] : List Bool).getD x.1 false = true then downM E x.2 else E) [] l := rfl
      rw [e, ih]
      rfl
  show (crashF D [] _).plate = _
  rw [this]
end Go.Proofs.YtaikgngigaohmaaDoor
