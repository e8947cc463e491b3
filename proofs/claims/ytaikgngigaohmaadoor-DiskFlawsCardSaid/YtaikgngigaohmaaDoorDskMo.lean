/-
  What a deed does by the document (the law's own models): its contract. Nothing here is a statement of the document.
-/
import Derived.Test.YtaikgngigaohmaaDoorDskAh
import Derived.Deep.DeepCutAuto
import Derived.Deep.CutBlock
namespace Go.Proofs.YtaikgngigaohmaaDoor
open Go.RowKit Go.Shelf
set_option linter.unusedVariables false

theorem vals_size (M : Rk) (pv rv : Value) : (M.vals pv rv).size = 6 := rfl
theorem lblk {W : World} {g : Nat} {b : Bk} (h : Blk W g 31 b.cs) : (loadSem 31 (.pointer (some ⟨g, 0, none⟩))).run Tryd.prog W = .ok (.agg b.cs) W :=
  loadRes_of (o := 0) h (fun q _ => by rw [Nat.zero_add]) _ Tryd.underlying31 rfl (s_blk b)
theorem sblk {W : World} {g : Nat} {b : Bk} (h : Blk W g 31 b.cs) (b' : Bk) : (storeSem 31 (.pointer (some ⟨g, 0, none⟩)) (.agg b'.cs)).run Tryd.prog W = .ok () (W.setRow g b'.cs) := by
  have := storeRes_of (P := Tryd.prog) (ty := 31) (o := 0) (vs := b'.cs) h (by rw [Bk.size, Bk.size]; omega) (s_blk b') b'.one
  rwa [over_all (by rw [Bk.size, Bk.size])] at this
attribute [local go_sem ↓] load_blk_rule store_blk_rule

theorem Blk.new4 (w : World) (o o2 o3 : Obj) (t : TypeId) (cs : Array Value) : Blk ((((w.alloc o).alloc o2).alloc o3).alloc (.cells cs t)) (w.heap.size + 1 + 1 + 1) t cs := by
  have := Blk.new (((w.alloc o).alloc o2).alloc o3) t cs
  rwa [World.size_alloc, World.size_alloc, World.size_alloc] at this
theorem Blk.new5 (w : World) (o o2 o3 o4 : Obj) (t : TypeId) (cs : Array Value) : Blk (((((w.alloc o).alloc o2).alloc o3).alloc o4).alloc (.cells cs t)) (w.heap.size + 1 + 1 + 1 + 1) t cs := by
  have := Blk.new ((((w.alloc o).alloc o2).alloc o3).alloc o4) t cs
  rwa [World.size_alloc, World.size_alloc, World.size_alloc, World.size_alloc] at this

end Go.Proofs.YtaikgngigaohmaaDoor
