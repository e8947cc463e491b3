/-
  Which disks are made, and what nothing answers: the walk of the whole law. Nothing here is a statement of the document.
-/
import Derived.Test.YtaikgngigaohmaaDoorDskT
namespace Go.Proofs.YtaikgngigaohmaaDoor
open Go.RowKit Go.Shelf
set_option linter.unusedVariables false

def eqSem (a b : Value) : Sem Bool := Op.equalIn 10000 31 a b
theorem eq_rule (a b : Value) : Op.equalIn 10000 31 a b = eqSem a b := rfl
theorem eqSem_run (w : World) : (eqSem (.agg Bk.zero.cs) (.agg #[Value.int .u8 0, Value.int .u8 0, Value.int .u8 0, Value.int .u8 0, Value.int .u8 0, Value.int .u8 0, Value.int .u8 0, Value.int .u8 0, Value.int .u8 0, Value.int .u8 0, Value.int .u8 0, Value.int .u8 0, Value.int .u8 0, Value.int .u8 0, Value.int .u8 0, Value.int .u8 0, Value.int .u8 0, Value.int .u8 0, Value.int .u8 0, Value.int .u8 0, Value.int .u8 0, Value.int .u8 0, Value.int .u8 0, Value.int .u8 0, Value.int .u8 0, Value.int .u8 0, Value.int .u8 0, Value.int .u8 0, Value.int .u8 0, Value.int .u8 0, Value.int .u8 0, Value.int .u8 0, Value.int .u8 0, Value.int .u8 0, Value.int .u8 0, Value.int .u8 0, Value.int .u8 0, Value.int .u8 0, Value.int .u8 0, Value.int .u8 0, Value.int .u8 0, Value.int .u8 0, Value.int .u8 0, Value.int .u8 0, Value.int .u8 0, Value.int .u8 0, Value.int .u8 0, Value.int .u8 0, Value.int .u8 0, Value.int .u8 0, Value.int .u8 0, Value.int .u8 0, Value.int .u8 0, Value.int .u8 0, Value.int .u8 0, Value.int .u8 0, Value.int .u8 0, Value.int .u8 0, Value.int .u8 0, Value.int .u8 0, Value.int .u8 0, Value.int .u8 0, Value.int .u8 0, Value.int .u8 0])).run Tryd.prog w = .ok true w := by kernel_rfl
attribute [local go_sem ↓] load_blk_rule eq_rule

end Go.Proofs.YtaikgngigaohmaaDoor
