/-
  What a sector shows by the document, by its contract. Nothing here is a statement of the document.
-/
import Derived.Test.YtaikgngigaohmaaDoorDskO
namespace Go.Proofs.YtaikgngigaohmaaDoor
open Go.RowKit Go.Shelf
set_option linter.unusedVariables false

def showsFrom (b : Bk) (l : List Rw) (i : Nat) : Bk := l.foldl (fun b r => if r.s = i then r.b else b) b
theorem showsFrom_snoc (b : Bk) (l : List Rw) (r : Rw) (i : Nat) : showsFrom b (l ++ [r]) i = if r.s = i then r.b else showsFrom b l i := by simp [showsFrom]
def showsR (M : Rk) (i : Nat) : Bk := showsFrom (M.plate.getD i Bk.zero) M.rows i

end Go.Proofs.YtaikgngigaohmaaDoor
