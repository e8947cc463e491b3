/-
  An op, done on an arena. Nothing here is a statement of the document.
-/
import Derived.Test.YtoidklkloagioaaArnS
import Derived.Test.YtoidklkloagioaaLinB
namespace Go.Proofs.Ytoidklkloagioaa
open Go.RowKit Go.Shelf
set_option linter.unusedVariables false

/-- Which kind of op it is. -/
def OpM.k (o : OpM) : Nat := unN o.kind % 8
/-- Which places it may touch. -/
def OpM.sk (o : OpM) (B : List Bl) : Int → Prop := fun x => (o.k = 2 ∨ o.k = 4 ∨ o.k = 5) ∧ x = o.row B
theorem StepOk.weak {B B' : List Bl} {ws ws' : List Nat} {sk sk' : Int → Prop} (h : StepOk B ws ws' B' sk) (hk : ∀ x, sk x → sk' x) : StepOk B ws ws' B' sk' :=
  ⟨fun b hb ht hs => h.keep b hb ht (fun hx => hs (hk _ hx)), h.fence, h.root, h.len, h.nice⟩
theorem Left.weak {w w' : World} {g p q : Nat} {ws : List Nat} {B : List Bl} {sk sk' : Int → Prop} (h : Left w w' g p q ws B sk) (hk : ∀ x, sk x → sk' x) : Left w w' g p q ws B sk' := by
  obtain ⟨ws', bs', B', L', h1, h2, h3, h4⟩ := h
  exact ⟨ws', bs', B', L', h1, h2, h3.weak hk, h4⟩
theorem Left.after {w0 w w' : World} {g p q : Nat} {ws : List Nat} {B : List Bl} {sk : Int → Prop} (hb : Below w0.heap.size w0 w) (h : Left w w' g p q ws B sk) : Left w0 w' g p q ws B sk := by
  obtain ⟨ws', bs', B', L', h1, h2, h3, h4⟩ := h
  exact ⟨ws', bs', B', L', h1, h2, h3, (Kept.of_below [p, q] hb).trans h4⟩

attribute [local go_sem ↓] load_op_rule
section
variable {w : World} {g p q : Nat} {ws : List Nat} {bs : List Bool} {B : List Bl} {L : Nat → List Nat}
end
end Go.Proofs.Ytoidklkloagioaa
