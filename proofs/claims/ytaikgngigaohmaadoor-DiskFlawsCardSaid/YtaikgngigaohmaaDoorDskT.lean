/-
  A new disk tells what the document's new disk does (the law's own is, of no rows). Nothing here is a statement of the document.
-/
import Derived.Test.YtaikgngigaohmaaDoorDskW
import Derived.Test.YtaikgngigaohmaaDoorDskS
namespace Go.Proofs.YtaikgngigaohmaaDoor
open Go.RowKit Go.Shelf
set_option linter.unusedVariables false

theorem Dsk.drewN {w : World} {B p pb : Nat} {bv : Value} {D : Dk} (h : Dsk w B p pb bv D) (n : Nat) : Dsk (w.drewN n) B p pb bv D := h.later ⟨rfl, rfl, rfl, Nat.le_refl _, fun _ _ => rfl⟩

end Go.Proofs.YtaikgngigaohmaaDoor
