/-
  The document's write where the act is done. Nothing here is a statement of the document.
-/
import Derived.Test.YtaikgngigaohmaaDoorDskRw
import Derived.Test.YtaikgngigaohmaaDoorDskRg
import Derived.Laws.AppendOwnNone
namespace Go.Proofs.YtaikgngigaohmaaDoor
open Go.RowKit Go.Shelf
set_option linter.unusedVariables false

/-- The document's write. -/
def writeR (M : Rk) (i : Int) (b : Bk) : Rk × Int :=
  if (actM M i true).2 ≠ 0 then actM M i true
  else match M.rows.findIdx? (fun r => r.s == i.toNat) with
    | some k => ({ (actM M i true).1 with rows := M.rows.set k ⟨i.toNat, b⟩ }, 0)
    | none => if M.rows.length = 8 then ({ downR (actM M i true).1 [true] with rows := (downR (actM M i true).1 [true]).rows ++ [⟨i.toNat, b⟩] }, 0)
      else ({ (actM M i true).1 with rows := M.rows ++ [⟨i.toNat, b⟩] }, 0)

end Go.Proofs.YtaikgngigaohmaaDoor
