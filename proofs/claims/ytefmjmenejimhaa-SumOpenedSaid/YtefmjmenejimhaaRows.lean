/-
  No cell of these rows narrows 'for every input' (looked for: loops, veiled, ifaces, maps, wideKeys, modest, calm, conditions, laid).
  DERIVED. THE GIVEN ROWS OF THIS SEAT. 5 by the template 'for every input the law returns true; each argument reads behind the call as it read before'; 0 by the template 'total and deterministic' (their statements: YtefmjmenejimhaaTotals.lean).
  GIVEN WITH THE SEED: the statements are not yours to turn. If you find one false, say at which input.
  Laid BY PROGRAM, IN A SANDBOX (cutbox-rows.mjs): the forced cells as the released guide's own fill.sh prints them over the translation f5e339483c1921eb… (all of the seat's roots in one cut). By AI agents, Wed Nov 11 2026. No macro, syntax, notation, axiom, sorry.
-/
import Derived.Test.YtefmjmenejimhaaChecked
import GoSem.Claim
import GoSem.ClaimJoined
import GoSem.ClaimMapViews
import Derived.JoinedTies
import Derived.KernelRfl
namespace Go.Proofs.Ytefmjmenejimhaa
/- THE CELL 'sum', in the pinned program and in every row, IS THE sha256 OF THE DUMP (.gsa) THAT YtefmjmenejimhaaProg.lean LOADS. Nothing in Lean hashes anything: it is a label: what it is worth is what the hold of that sum in a sandbox is worth. -/
noncomputable def Try.pinned : Pinned := { name := "ytefmjmenejimhaa", sum := "f5e339483c1921eb231624b4c83e5d0a98d213830a08ff17cd8e6751fd6e0d74", checked := Try.checked }
namespace Rows
def none {H : Type} : Left H := { results := [], args := [] }

/-- 'junctionboxlaw03.SumGoes': WHATEVER THE INPUT: true; the input reads as it did. -/
def sumGoesSpec : ChangeSpec := { name := "sumGoes", fn := fun _ => fun
  | [d1, d2] => { results := [.lit (.bool true)], args := [d1, d2] }
  | _ => none }
def sumGoesRow : OpenClaim := { program := "ytefmjmenejimhaa", sum := "f5e339483c1921eb231624b4c83e5d0a98d213830a08ff17cd8e6751fd6e0d74", func := "junctionbox/junctionboxlaw03.SumGoes", spec := "sumGoes", unfollowed := true, recurses := true, apart := false }
def SumGoesSaid : Prop := sumGoesRow.holds Try.pinned (OpenSpec.ofChange sumGoesSpec)

/-- ITS FALSE NEIGHBOUR: 'it returns false'. Refute it at one input. -/
def sumGoesWrong : ChangeSpec := { name := "sumGoes", fn := fun _ => fun
  | [d1, d2] => { results := [.lit (.bool false)], args := [d1, d2] }
  | _ => none }
def SumGoesWrongFalsely : Prop := sumGoesRow.holds Try.pinned (OpenSpec.ofChange sumGoesWrong)

/-- 'junctionboxlaw03.SumSeals': WHATEVER THE INPUT: true; the input reads as it did. -/
def sumSealsSpec : ChangeSpec := { name := "sumSeals", fn := fun _ => fun
  | [d] => { results := [.lit (.bool true)], args := [d] }
  | _ => none }
def sumSealsRow : OpenClaim := { program := "ytefmjmenejimhaa", sum := "f5e339483c1921eb231624b4c83e5d0a98d213830a08ff17cd8e6751fd6e0d74", func := "junctionbox/junctionboxlaw03.SumSeals", spec := "sumSeals", unfollowed := true, recurses := true, apart := false }
def SumSealsSaid : Prop := sumSealsRow.holds Try.pinned (OpenSpec.ofChange sumSealsSpec)

/-- ITS FALSE NEIGHBOUR: 'it returns false'. Refute it at one input. -/
def sumSealsWrong : ChangeSpec := { name := "sumSeals", fn := fun _ => fun
  | [d] => { results := [.lit (.bool false)], args := [d] }
  | _ => none }
def SumSealsWrongFalsely : Prop := sumSealsRow.holds Try.pinned (OpenSpec.ofChange sumSealsWrong)

/-- 'junctionboxlaw03.SumBehind': WHATEVER THE INPUT: true; the input reads as it did. -/
def sumBehindSpec : ChangeSpec := { name := "sumBehind", fn := fun _ => fun
  | [d1, d2, d3] => { results := [.lit (.bool true)], args := [d1, d2, d3] }
  | _ => none }
def sumBehindRow : OpenClaim := { program := "ytefmjmenejimhaa", sum := "f5e339483c1921eb231624b4c83e5d0a98d213830a08ff17cd8e6751fd6e0d74", func := "junctionbox/junctionboxlaw03.SumBehind", spec := "sumBehind", unfollowed := true, recurses := true, apart := false }
def SumBehindSaid : Prop := sumBehindRow.holds Try.pinned (OpenSpec.ofChange sumBehindSpec)

/-- ITS FALSE NEIGHBOUR: 'it returns false'. Refute it at one input. -/
def sumBehindWrong : ChangeSpec := { name := "sumBehind", fn := fun _ => fun
  | [d1, d2, d3] => { results := [.lit (.bool false)], args := [d1, d2, d3] }
  | _ => none }
def SumBehindWrongFalsely : Prop := sumBehindRow.holds Try.pinned (OpenSpec.ofChange sumBehindWrong)

/-- 'junctionboxlaw03.SumPlace': WHATEVER THE INPUT: true; the input reads as it did. -/
def sumPlaceSpec : ChangeSpec := { name := "sumPlace", fn := fun _ => fun
  | [d1, d2, d3] => { results := [.lit (.bool true)], args := [d1, d2, d3] }
  | _ => none }
def sumPlaceRow : OpenClaim := { program := "ytefmjmenejimhaa", sum := "f5e339483c1921eb231624b4c83e5d0a98d213830a08ff17cd8e6751fd6e0d74", func := "junctionbox/junctionboxlaw03.SumPlace", spec := "sumPlace", unfollowed := true, recurses := true, apart := false }
def SumPlaceSaid : Prop := sumPlaceRow.holds Try.pinned (OpenSpec.ofChange sumPlaceSpec)

/-- ITS FALSE NEIGHBOUR: 'it returns false'. Refute it at one input. -/
def sumPlaceWrong : ChangeSpec := { name := "sumPlace", fn := fun _ => fun
  | [d1, d2, d3] => { results := [.lit (.bool false)], args := [d1, d2, d3] }
  | _ => none }
def SumPlaceWrongFalsely : Prop := sumPlaceRow.holds Try.pinned (OpenSpec.ofChange sumPlaceWrong)

/-- 'junctionboxlaw03.SumOpened': WHATEVER THE INPUT: true; the input reads as it did. -/
def sumOpenedSpec : ChangeSpec := { name := "sumOpened", fn := fun _ => fun
  | [d1, d2, d3] => { results := [.lit (.bool true)], args := [d1, d2, d3] }
  | _ => none }
def sumOpenedRow : OpenClaim := { program := "ytefmjmenejimhaa", sum := "f5e339483c1921eb231624b4c83e5d0a98d213830a08ff17cd8e6751fd6e0d74", func := "junctionbox/junctionboxlaw03.SumOpened", spec := "sumOpened", unfollowed := true, recurses := true, apart := false }
def SumOpenedSaid : Prop := sumOpenedRow.holds Try.pinned (OpenSpec.ofChange sumOpenedSpec)

/-- ITS FALSE NEIGHBOUR: 'it returns false'. Refute it at one input. -/
def sumOpenedWrong : ChangeSpec := { name := "sumOpened", fn := fun _ => fun
  | [d1, d2, d3] => { results := [.lit (.bool false)], args := [d1, d2, d3] }
  | _ => none }
def SumOpenedWrongFalsely : Prop := sumOpenedRow.holds Try.pinned (OpenSpec.ofChange sumOpenedWrong)

/- THE SECOND FORM. 'bulk': how many values and letters a reading holds, each counted each time it is reached (what is shared counts as often as it is met; a slice's spare places count too). A statement '..UptoSaid' is the law's where the arguments, and the package variables that the reading takes, are together of bulk at most 1048576: NARROWER than '..Said'. Prove '..Said' where nothing that the law and all that it calls make is longer than what came in: it says more and counts as full. Else prove '..UptoSaid'. A law counts once. -/
mutual
def uptoBulk {H : Type} : DataW H → Nat
  | .lit (.string bytes) => bytes.length + 1
  | .lit _ => 1
  | .nil => 1
  | .ptr d => uptoBulk d + 1
  | .slice elems spare => uptoBulkAll elems + uptoBulkAll spare + 1
  | .agg parts => uptoBulkAll parts + 1
  | .iface _ d => uptoBulk d + 1
  | .map entries => uptoBulkEntries entries + 1
  | .held _ => 1
def uptoBulkAll {H : Type} : List (DataW H) → Nat
  | [] => 0
  | d :: r => uptoBulk d + uptoBulkAll r
def uptoBulkEntries {H : Type} : List (Lit × DataW H) → Nat
  | [] => 0
  | x :: r => uptoBulkEntry x + uptoBulkEntries r
def uptoBulkEntry {H : Type} : Lit × DataW H → Nat
  | (.string bytes, d) => bytes.length + uptoBulk d + 1
  | (_, d) => uptoBulk d + 1
 end
def uptoSmall : (H : Type) → List (DataW H) → Bool := fun _ ds => decide (uptoBulkAll ds ≤ 1048576)
def OpenSpec.upto (s : _root_.Go.ChangeSpec) : _root_.Go.OpenSpec := { _root_.Go.OpenSpec.ofChange s with cond := some uptoSmall }

/-- 'junctionboxlaw03.SumGoes', WHERE WHAT IT READS IS OF BULK AT MOST 1048576: true; the input reads as it did. -/
def sumGoesUptoRow : OpenClaim := { program := "ytefmjmenejimhaa", sum := "f5e339483c1921eb231624b4c83e5d0a98d213830a08ff17cd8e6751fd6e0d74", func := "junctionbox/junctionboxlaw03.SumGoes", spec := "sumGoes", unfollowed := true, recurses := true, apart := false, narrowed := true }
def SumGoesUptoSaid : Prop := sumGoesUptoRow.holds Try.pinned (OpenSpec.upto sumGoesSpec)

/-- 'junctionboxlaw03.SumSeals', WHERE WHAT IT READS IS OF BULK AT MOST 1048576: true; the input reads as it did. -/
def sumSealsUptoRow : OpenClaim := { program := "ytefmjmenejimhaa", sum := "f5e339483c1921eb231624b4c83e5d0a98d213830a08ff17cd8e6751fd6e0d74", func := "junctionbox/junctionboxlaw03.SumSeals", spec := "sumSeals", unfollowed := true, recurses := true, apart := false, narrowed := true }
def SumSealsUptoSaid : Prop := sumSealsUptoRow.holds Try.pinned (OpenSpec.upto sumSealsSpec)

/-- 'junctionboxlaw03.SumBehind', WHERE WHAT IT READS IS OF BULK AT MOST 1048576: true; the input reads as it did. -/
def sumBehindUptoRow : OpenClaim := { program := "ytefmjmenejimhaa", sum := "f5e339483c1921eb231624b4c83e5d0a98d213830a08ff17cd8e6751fd6e0d74", func := "junctionbox/junctionboxlaw03.SumBehind", spec := "sumBehind", unfollowed := true, recurses := true, apart := false, narrowed := true }
def SumBehindUptoSaid : Prop := sumBehindUptoRow.holds Try.pinned (OpenSpec.upto sumBehindSpec)

/-- 'junctionboxlaw03.SumPlace', WHERE WHAT IT READS IS OF BULK AT MOST 1048576: true; the input reads as it did. -/
def sumPlaceUptoRow : OpenClaim := { program := "ytefmjmenejimhaa", sum := "f5e339483c1921eb231624b4c83e5d0a98d213830a08ff17cd8e6751fd6e0d74", func := "junctionbox/junctionboxlaw03.SumPlace", spec := "sumPlace", unfollowed := true, recurses := true, apart := false, narrowed := true }
def SumPlaceUptoSaid : Prop := sumPlaceUptoRow.holds Try.pinned (OpenSpec.upto sumPlaceSpec)

/-- 'junctionboxlaw03.SumOpened', WHERE WHAT IT READS IS OF BULK AT MOST 1048576: true; the input reads as it did. -/
def sumOpenedUptoRow : OpenClaim := { program := "ytefmjmenejimhaa", sum := "f5e339483c1921eb231624b4c83e5d0a98d213830a08ff17cd8e6751fd6e0d74", func := "junctionbox/junctionboxlaw03.SumOpened", spec := "sumOpened", unfollowed := true, recurses := true, apart := false, narrowed := true }
def SumOpenedUptoSaid : Prop := sumOpenedUptoRow.holds Try.pinned (OpenSpec.upto sumOpenedSpec)

end Rows
end Go.Proofs.Ytefmjmenejimhaa
