/-
  The document's write, as far as its act: what fails changes no row. Nothing here is a statement of the document.
-/
import Derived.Test.YtaikgngigaohmaaDoorDskRr
namespace Go.Proofs.YtaikgngigaohmaaDoor
open Go.RowKit Go.Shelf
set_option linter.unusedVariables false

end Go.Proofs.YtaikgngigaohmaaDoor
