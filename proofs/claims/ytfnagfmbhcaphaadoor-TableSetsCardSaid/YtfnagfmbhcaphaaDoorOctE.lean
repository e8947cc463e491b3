/-
  The layer does something: the walk of 'wakes', which each statement of layer 1 calls first. Nothing here is a statement of the document.
-/
import Derived.Test.YtfnagfmbhcaphaaDoorOctD
namespace Go.Proofs.YtfnagfmbhcaphaaDoor
open Go.RowKit
set_option linter.unusedVariables false

theorem Aft.rd {w w' : World} {p g : Nat} {L : List Nat} {j j' : Nat} {err err' n : Int} (h : Aft w w' p g L j err n) (e : offTo L.length j err n = (j', err')) : Rd w' p g L j' err' := by
  have := h.1
  rw [e] at this
  exact this
theorem Aft.below {w0 w w' : World} {p g : Nat} {L : List Nat} {j : Nat} {err n : Int} {B : Nat} (h : Aft w w' p g L j err n) (hb : Below B w0 w) (hB : B ≤ w.heap.size) (hp : B ≤ p) : Below B w0 w' :=
  hb.grown h.2 hB (fun k hk => by cases hk; exact hp)

theorem bys3 : Bys [5, 0, 1] := by intro n hn; simp at hn; omega
theorem bys10 : Bys [1, 0] := by intro n hn; simp at hn; omega

end Go.Proofs.YtfnagfmbhcaphaaDoor
