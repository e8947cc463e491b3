/-
  The document's disk as a value (the reference package): what it holds, and the contracts of its small functions. Nothing here is a statement of the document.
-/
import Derived.Test.YtaikgngigaohmaaDoorDskV
namespace Go.Proofs.YtaikgngigaohmaaDoor
open Go.RowKit Go.Shelf
set_option linter.unusedVariables false

/-- What a disk is by the document. -/
structure Rk where
  plate : List Bk
  rows : List Rw
  fuse : Int
  flaw : Int
  dead : Bool
  ops : Int

def Rk.vals (M : Rk) (pv rv : Value) : Array Value := #[pv, rv, .int .i64 M.fuse, .int .i64 M.flaw, .bool M.dead, .int .i64 M.ops]
theorem own_below {w w' : World} {b : Nat} {e : TypeId} {size : Nat} {v : Value} {n : Nat} {xs : List Value} (h : w.ownsRow b e size v n xs) (hb : Below w.heap.size w w') : w'.ownsRow b e size v n xs := by
  rcases h.2 with h9 | ⟨g, cap, cur, h1, h2, h3, h4⟩
  · exact ⟨h.1, .inl h9⟩
  · exact ⟨h.1, .inr ⟨g, cap, cur, h1, h2, (hb.block g (Array.getElem?_eq_some_iff.1 h3).1).trans h3, h4⟩⟩
theorem own_slice {w : World} {b : Nat} {e : TypeId} {size : Nat} {v : Value} {n : Nat} {xs : List Value} (h : w.ownsRow b e size v n xs) : ∃ a c, v = .slice a n c := by
  rcases h.2 with ⟨rfl, rfl⟩ | ⟨g, cap, cur, rfl, _⟩
  · exact ⟨_, _, rfl⟩
  · exact ⟨_, _, rfl⟩
theorem own_zero {w : World} {b : Nat} {e : TypeId} {size : Nat} {v : Value} {n : Nat} {xs : List Value} (h : w.ownsRow b e size v n xs) : w.ownsRow 0 e size v n xs := by
  rcases h.2 with h9 | ⟨g, cap, cur, h1, h2, h3⟩
  · exact ⟨h.1, .inl h9⟩
  · exact ⟨h.1, .inr ⟨g, cap, cur, h1, Nat.zero_le _, h3⟩⟩

def actM (M : Rk) (i : Int) (wr : Bool) : Rk × Int :=
  if M.dead then (M, 9) else if i < 0 ∨ (M.plate.length : Int) ≤ i then (M, 2)
  else if wr = true ∧ M.fuse = 0 then ({ M with flaw := if 0 ≤ M.flaw then M.flaw - 1 else M.flaw, dead := true }, 9)
  else if M.flaw = 0 then ({ M with flaw := -1 }, 8)
  else ({ M with flaw := if 0 ≤ M.flaw then M.flaw - 1 else M.flaw, fuse := if wr = true ∧ 0 < M.fuse then M.fuse - 1 else M.fuse, ops := wrap64 (M.ops + 1) }, 0)

theorem Blk.new2 (w : World) (o : Obj) (t : TypeId) (cs : Array Value) : Blk ((w.alloc o).alloc (.cells cs t)) (w.heap.size + 1) t cs := by
  have := Blk.new (w.alloc o) t cs
  rwa [World.size_alloc] at this
theorem Blk.new3 (w : World) (o o2 : Obj) (t : TypeId) (cs : Array Value) : Blk (((w.alloc o).alloc o2).alloc (.cells cs t)) (w.heap.size + 2) t cs := by
  have := Blk.new ((w.alloc o).alloc o2) t cs
  rwa [World.size_alloc, World.size_alloc] at this

end Go.Proofs.YtaikgngigaohmaaDoor
