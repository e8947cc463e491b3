/-
  The place that an op names, of an arena. Nothing here is a statement of the document.
-/
import Derived.Test.YtoidklkloagioaaArnQ
import Derived.Test.YtoidklkloagioaaArnW
import Derived.Test.YtoidklkloagioaaArnK
namespace Go.Proofs.Ytoidklkloagioaa
open Go.RowKit Go.Shelf
set_option linter.unusedVariables false

/-- What is done. -/
structure OpM where
  kind : Int
  cls : Int
  place : Int
  i : Int
  n : Int
  x : Int
  f : Bool
def OpM.cs (o : OpM) : Array Value := #[.int .i64 o.kind, .int .i64 o.cls, .int .i64 o.place, .int .i64 o.i, .int .i64 o.n, .int .u64 o.x, .bool o.f]
structure OpM.Ok (o : OpM) : Prop where
  kind : -9223372036854775808 ≤ o.kind ∧ o.kind ≤ 9223372036854775807
  cls : -9223372036854775808 ≤ o.cls ∧ o.cls ≤ 9223372036854775807
  place : -9223372036854775808 ≤ o.place ∧ o.place ≤ 9223372036854775807
  i : -9223372036854775808 ≤ o.i ∧ o.i ≤ 9223372036854775807
  n : -9223372036854775808 ≤ o.n ∧ o.n ≤ 9223372036854775807
  x : 0 ≤ o.x ∧ o.x ≤ 18446744073709551615
/-- A number as one without a sign. -/
def unN (z : Int) : Nat := (z % 18446744073709551616).toNat
/-- The place that it names. -/
def OpM.row (o : OpM) (B : List Bl) : Int := if o.f = true ∧ 0 < (ofT true B).length then (((ofT true B).getD (unN o.place % (ofT true B).length) Bl.zero).x : Int) else o.place

theorem s_op : (Try.prog.info? 38).map (·.size) = some 7 := by kernel_rfl
theorem load_op_rule (v : Value) : Instr.loadAt 38 v = loadSem 38 v := rfl
theorem ld_op {w : World} {g : Nat} {o : OpM} (h : Blk w g 38 o.cs) : (loadSem 38 (.pointer (some ⟨g, 0, none⟩))).run Try.prog w = .ok (.agg o.cs) w :=
  loadRes_of (w := w) h (fun j _ => by rw [Nat.zero_add]) _ Try.underlying38 rfl s_op
theorem pcl_get {L : List Bl} {k : Nat} {b : Bl} (h : L[k]? = some b) {j : Nat} (hj : j < 2) : (pcl L)[k * 2 + j]? = (pccs b)[j]? := flat_get (f := pccs) (n := 2) (fun _ => rfl) L k b h j hj
theorem owns_sl {w : World} {B : Nat} {e : TypeId} {z : Nat} {v : Value} {n : Nat} {xs : List Value} (h : w.ownsRow B e z v n xs) : ∃ a c, v = .slice a n c := by
  rcases h.2 with ⟨h9, h0⟩ | ⟨g, cap, cur, h9, _⟩
  · exact ⟨none, 0, by rw [h9, h0]⟩
  · exact ⟨_, _, h9⟩
theorem owns_cell {w : World} {B : Nat} {e : TypeId} {z : Nat} {v : Value} {n : Nat} {xs : List Value} (h : w.ownsRow B e z v n xs) (hn : 0 < n) : ∃ g c, v = .slice (some ⟨g, 0, none⟩) n c ∧ n ≤ c ∧ c ≤ maxLen ∧ ∀ j u, xs[j]? = some u → w.cell? ⟨g, j, none⟩ = some u := by
  rcases h.2 with ⟨h9, h0⟩ | ⟨g, cap, cur, h9, hb, hg, hc, hm, hs, ht⟩
  · omega
  · refine ⟨g, cap, h9, hc, hm, fun j u hj => ?_⟩
    rw [show w.cell? ⟨g, j, none⟩ = cur[j]? from cell_of_row w g j cur e (0, 0) hg]
    rw [← ht, List.getElem?_take] at hj
    split at hj
    · simpa using hj
    · cases hj

section
variable {w : World} {g p q : Nat} {ws : List Nat} {bs : List Bool} {B : List Bl} {L : Nat → List Nat}
end
end Go.Proofs.Ytoidklkloagioaa
