/-
  What a disk holds, as plain data; how it lies in memory; and the contracts of disk's functions that only read, or turn one field. Nothing here is a statement of the document.
-/
import Derived.Test.YtfnagfmbhcaphaaDoorDskA
namespace Go.Proofs.YtfnagfmbhcaphaaDoor
open Go.RowKit
set_option linter.unusedVariables false

/-- What a disk holds. -/
structure Dk where
  plate : List Bk
  rows : List Rw
  fuse : Option Nat
  flaw : Option Nat
  dead : Bool
  ops : Int

def cdB (o : Option Nat) : Bool := o.isSome
def cdI (o : Option Nat) : Int := ((o.getD 0 : Nat) : Int)

/-- A disk's own cells. -/
def dcs (pb : Nat) (bv : Value) (D : Dk) : Array Value :=
  #[.slice (some ⟨pb, 0, none⟩) D.plate.length D.plate.length, bv, .bool (cdB D.fuse), .int .i64 (cdI D.fuse), .bool (cdB D.flaw), .int .i64 (cdI D.flaw), .bool D.dead, .int .i64 D.ops]

/-- What holds of every disk. -/
structure Dk.Ok (D : Dk) : Prop where
  pos : 1 ≤ D.plate.length
  max : D.plate.length ≤ 2048
  held : D.rows.length ≤ 8
  at_ : ∀ r ∈ D.rows, r.s < D.plate.length
  once : (D.rows.map (·.s)).Nodup
  fuse : ∀ n, D.fuse = some n → n ≤ 9223372036854775807
  flaw : ∀ n, D.flaw = some n → n ≤ 9223372036854775807

/-- The blocks of a disk. -/
def fp (p pb : Nat) (bv : Value) : List Nat := p :: pb :: bv.ownBlock.toList

/-- Only a disk's blocks have changed; its buffer is where it was, or new. -/
structure Goes (w w' : World) (p pb : Nat) (bv bv' : Value) : Prop where
  kept : Kept (fp p pb bv) w w'
  new : ∀ k, bv'.ownBlock = some k → bv.ownBlock = some k ∨ w.heap.size ≤ k

theorem Goes.refl (w : World) (p pb : Nat) (bv : Value) : Goes w w p pb bv bv := ⟨Kept.refl _ _, fun k h => .inl h⟩
theorem Goes.trans {w w' w2 : World} {p pb : Nat} {bv bv' bv2 : Value} (h : Goes w w' p pb bv bv') (k : Goes w' w2 p pb bv' bv2) : Goes w w2 p pb bv bv2 := by
  refine ⟨h.kept.trans2 k.kept (fun i hi => ?_), fun i hi => ?_⟩
  · simp only [fp, List.mem_cons, Option.mem_toList] at hi ⊢
    rcases hi with rfl | rfl | hi
    · exact .inl (.inl rfl)
    · exact .inl (.inr (.inl rfl))
    · rcases h.new i hi with h1 | h1
      · exact .inl (.inr (.inr h1))
      · exact .inr h1
  · rcases k.new i hi with h1 | h1
    · exact h.new i h1
    · exact .inr (Nat.le_trans h.kept.size h1)
theorem Goes.alloc {w w' : World} {p pb : Nat} {bv bv' : Value} (h : Goes w w' p pb bv bv') (o : Obj) : Goes w (w'.alloc o) p pb bv bv' := ⟨h.kept.alloc o, h.new⟩
theorem Goes.drew {w w' : World} {p pb : Nat} {bv bv' : Value} (h : Goes w w' p pb bv bv') : Goes w w'.drew p pb bv bv' := ⟨h.kept.drew, h.new⟩
theorem Goes.later {w w' w2 : World} {p pb : Nat} {bv bv' : Value} (h : Goes w w' p pb bv bv') (k : Below w'.heap.size w' w2) : Goes w w2 p pb bv bv' :=
  ⟨h.kept.trans (Kept.of_below _ k), h.new⟩
theorem Goes.setCell {w w' : World} {p pb : Nat} {bv bv' : Value} (h : Goes w w' p pb bv bv') (i : Nat) (v : Value) : Goes w (w'.setCell ⟨p, i, none⟩ v) p pb bv bv' :=
  ⟨h.kept.setCell (.inl (by simp [fp])) v, h.new⟩

section
variable {w w' : World} {B p pb : Nat} {bv : Value} {D : Dk}
end

/-! ### What only reads -/

/-! ### Countdowns -/

def cdOf (n : Int) : Option Nat := if n < 0 then none else some n.toNat
/-! ### reach -/

/-- Why a sector can't be asked for. -/
def reachE (D : Dk) (i : Int) : Int := if D.dead then 9 else if 0 ≤ i ∧ i < D.plate.length then 0 else 2

end Go.Proofs.YtfnagfmbhcaphaaDoor
