/-
  A disk tells what the document's disk does, where the two agree (the law's own is). Nothing here is a statement of the document.
-/
import Derived.Test.YtaikgngigaohmaaDoorDskT
import Derived.Test.YtaikgngigaohmaaDoorDskZ
import Derived.Test.YtaikgngigaohmaaDoorDskShows
namespace Go.Proofs.YtaikgngigaohmaaDoor
open Go.RowKit Go.Shelf
set_option linter.unusedVariables false

end Go.Proofs.YtaikgngigaohmaaDoor
