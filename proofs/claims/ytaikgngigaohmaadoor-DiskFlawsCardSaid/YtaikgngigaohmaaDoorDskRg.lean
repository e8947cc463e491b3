/-
  A row of the document's disk as a value, a slice of one row, and a row appended. Nothing here is a statement of the document.
-/
import Derived.Test.YtaikgngigaohmaaDoorDskShows
import Derived.Test.YtaikgngigaohmaaDoorDskH
namespace Go.Proofs.YtaikgngigaohmaaDoor
open Go.RowKit Go.Shelf
set_option linter.unusedVariables false

/-! ### A slice of one row -/
/-! ### Appending one row -/
end Go.Proofs.YtaikgngigaohmaaDoor
