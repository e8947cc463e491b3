/-
  NARROWER THAN 'FOR EVERY INPUT', by the rows' own cells (each row's printed sentence says how): TableSets: laid · TableMatches: laid · TableDiffers: laid · TableBytes: laid · TableLongest: laid · TableBack: laid.
  DERIVED. THE GIVEN ROWS OF THIS SEAT. 6 by the template 'for every input the law returns true; each argument reads behind the call as it read before'; 0 by the template 'total and deterministic' (their statements: YtfnagfmbhcaphaaDoorTotals.lean).
  GIVEN WITH THE SEED: the statements are not yours to turn. If you find one false, say at which input.
  Laid BY PROGRAM, IN A SANDBOX (cutbox-rows.mjs): the forced cells as the released guide's own fill.sh prints them over the translation b23795fc08ccbb22… (all of the seat's roots in one cut). By AI agents, Wed Nov 11 2026. No macro, syntax, notation, axiom, sorry.
-/
import Derived.Test.YtfnagfmbhcaphaaDoorChecked
import GoSem.Claim
import GoSem.ClaimJoined
import GoSem.ClaimMapViews
import Derived.JoinedTies
import Derived.KernelRfl
namespace Go.Proofs.YtfnagfmbhcaphaaDoor
/- THE CELL 'sum', in the pinned program and in every row, IS THE sha256 OF THE DUMP (.gsa) THAT YtfnagfmbhcaphaaDoorProg.lean LOADS. Nothing in Lean hashes anything: it is a label: what it is worth is what the hold of that sum in a sandbox is worth. -/
noncomputable def Tryd.pinned : Pinned := { name := "ytfnagfmbhcaphaadoor", sum := "b23795fc08ccbb22bae541e209c9a73d21e75060460e5ea9f816f0f45b187299", checked := Tryd.checked }
namespace Rows
def none {H : Type} : Left H := { results := [], args := [] }

/- WHAT THE LISTED PACKAGE-LEVEL VARIABLES READ AS WHEN THE CALL BEGINS. Each datum BY PROGRAM (the guide's laid-datum.mjs) off the statement by which the dump's own 'gosem.cut.vars' lays the variable. In a bare row this is a premise. The card (YtfnagfmbhcaphaaDoorCards.lean) ties it to the program's text. -/
def laid_junctionbox_prefix_widths {H : Type} : DataW H := .agg [.lit (.int .i64 0), .lit (.int .i64 0), .lit (.int .i64 0), .lit (.int .i64 0), .lit (.int .i64 32), .lit (.int .i64 0), .lit (.int .i64 128)]

/-- 'junctionboxlaw09.TableSets': WHATEVER THE INPUT: true; the input reads as it did. -/
def tableSetsSpec : ChangeSpec := { name := "tableSets", fn := fun _ => fun
  | [d1, d2, d3] => { results := [.lit (.bool true)], args := [d1, d2, d3] }
  | _ => none }
def tableSetsRow : OpenClaim := { program := "ytfnagfmbhcaphaadoor", sum := "b23795fc08ccbb22bae541e209c9a73d21e75060460e5ea9f816f0f45b187299", func := "junctionbox/junctionboxlaw09.TableSets", spec := "tableSets", inPlace := ["internal/bytealg.Compare", "slices.overlaps[junctionbox/api.Row]"], unfollowed := true, recurses := true, named := ["junctionbox/prefix.widths"], apart := false, laid := [("junctionbox/prefix.widths", laid_junctionbox_prefix_widths)] }
def TableSetsSaid : Prop := tableSetsRow.holds Tryd.pinned (OpenSpec.ofChange tableSetsSpec)

/-- ITS FALSE NEIGHBOUR: 'it returns false'. Refute it at one input. -/
def tableSetsWrong : ChangeSpec := { name := "tableSets", fn := fun _ => fun
  | [d1, d2, d3] => { results := [.lit (.bool false)], args := [d1, d2, d3] }
  | _ => none }
def TableSetsWrongFalsely : Prop := tableSetsRow.holds Tryd.pinned (OpenSpec.ofChange tableSetsWrong)

/-- 'junctionboxlaw09.TableMatches': WHATEVER THE INPUT: true; the input reads as it did. -/
def tableMatchesSpec : ChangeSpec := { name := "tableMatches", fn := fun _ => fun
  | [d1, d2] => { results := [.lit (.bool true)], args := [d1, d2] }
  | _ => none }
def tableMatchesRow : OpenClaim := { program := "ytfnagfmbhcaphaadoor", sum := "b23795fc08ccbb22bae541e209c9a73d21e75060460e5ea9f816f0f45b187299", func := "junctionbox/junctionboxlaw09.TableMatches", spec := "tableMatches", inPlace := ["internal/bytealg.Compare", "slices.overlaps[junctionbox/api.Row]"], unfollowed := true, recurses := true, named := ["junctionbox/prefix.widths"], apart := false, laid := [("junctionbox/prefix.widths", laid_junctionbox_prefix_widths)] }
def TableMatchesSaid : Prop := tableMatchesRow.holds Tryd.pinned (OpenSpec.ofChange tableMatchesSpec)

/-- ITS FALSE NEIGHBOUR: 'it returns false'. Refute it at one input. -/
def tableMatchesWrong : ChangeSpec := { name := "tableMatches", fn := fun _ => fun
  | [d1, d2] => { results := [.lit (.bool false)], args := [d1, d2] }
  | _ => none }
def TableMatchesWrongFalsely : Prop := tableMatchesRow.holds Tryd.pinned (OpenSpec.ofChange tableMatchesWrong)

/-- 'junctionboxlaw09.TableDiffers': WHATEVER THE INPUT: true; the input reads as it did. -/
def tableDiffersSpec : ChangeSpec := { name := "tableDiffers", fn := fun _ => fun
  | [d1, d2] => { results := [.lit (.bool true)], args := [d1, d2] }
  | _ => none }
def tableDiffersRow : OpenClaim := { program := "ytfnagfmbhcaphaadoor", sum := "b23795fc08ccbb22bae541e209c9a73d21e75060460e5ea9f816f0f45b187299", func := "junctionbox/junctionboxlaw09.TableDiffers", spec := "tableDiffers", inPlace := ["internal/bytealg.Compare", "slices.overlaps[junctionbox/api.Row]"], unfollowed := true, recurses := true, named := ["junctionbox/prefix.widths"], apart := false, laid := [("junctionbox/prefix.widths", laid_junctionbox_prefix_widths)] }
def TableDiffersSaid : Prop := tableDiffersRow.holds Tryd.pinned (OpenSpec.ofChange tableDiffersSpec)

/-- ITS FALSE NEIGHBOUR: 'it returns false'. Refute it at one input. -/
def tableDiffersWrong : ChangeSpec := { name := "tableDiffers", fn := fun _ => fun
  | [d1, d2] => { results := [.lit (.bool false)], args := [d1, d2] }
  | _ => none }
def TableDiffersWrongFalsely : Prop := tableDiffersRow.holds Tryd.pinned (OpenSpec.ofChange tableDiffersWrong)

/-- 'junctionboxlaw09.TableBytes': WHATEVER THE INPUT: true; the input reads as it did. -/
def tableBytesSpec : ChangeSpec := { name := "tableBytes", fn := fun _ => fun
  | [d1, d2] => { results := [.lit (.bool true)], args := [d1, d2] }
  | _ => none }
def tableBytesRow : OpenClaim := { program := "ytfnagfmbhcaphaadoor", sum := "b23795fc08ccbb22bae541e209c9a73d21e75060460e5ea9f816f0f45b187299", func := "junctionbox/junctionboxlaw09.TableBytes", spec := "tableBytes", inPlace := ["internal/bytealg.Compare", "slices.overlaps[junctionbox/api.Row]"], unfollowed := true, recurses := true, named := ["junctionbox/prefix.widths"], apart := false, laid := [("junctionbox/prefix.widths", laid_junctionbox_prefix_widths)] }
def TableBytesSaid : Prop := tableBytesRow.holds Tryd.pinned (OpenSpec.ofChange tableBytesSpec)

/-- ITS FALSE NEIGHBOUR: 'it returns false'. Refute it at one input. -/
def tableBytesWrong : ChangeSpec := { name := "tableBytes", fn := fun _ => fun
  | [d1, d2] => { results := [.lit (.bool false)], args := [d1, d2] }
  | _ => none }
def TableBytesWrongFalsely : Prop := tableBytesRow.holds Tryd.pinned (OpenSpec.ofChange tableBytesWrong)

/-- 'junctionboxlaw09.TableLongest': WHATEVER THE INPUT: true; the input reads as it did. -/
def tableLongestSpec : ChangeSpec := { name := "tableLongest", fn := fun _ => fun
  | [d1, d2, d3] => { results := [.lit (.bool true)], args := [d1, d2, d3] }
  | _ => none }
def tableLongestRow : OpenClaim := { program := "ytfnagfmbhcaphaadoor", sum := "b23795fc08ccbb22bae541e209c9a73d21e75060460e5ea9f816f0f45b187299", func := "junctionbox/junctionboxlaw09.TableLongest", spec := "tableLongest", inPlace := ["internal/bytealg.Compare", "slices.overlaps[junctionbox/api.Row]"], unfollowed := true, recurses := true, named := ["junctionbox/prefix.widths"], apart := false, laid := [("junctionbox/prefix.widths", laid_junctionbox_prefix_widths)] }
def TableLongestSaid : Prop := tableLongestRow.holds Tryd.pinned (OpenSpec.ofChange tableLongestSpec)

/-- ITS FALSE NEIGHBOUR: 'it returns false'. Refute it at one input. -/
def tableLongestWrong : ChangeSpec := { name := "tableLongest", fn := fun _ => fun
  | [d1, d2, d3] => { results := [.lit (.bool false)], args := [d1, d2, d3] }
  | _ => none }
def TableLongestWrongFalsely : Prop := tableLongestRow.holds Tryd.pinned (OpenSpec.ofChange tableLongestWrong)

/-- 'junctionboxlaw09.TableBack': WHATEVER THE INPUT: true; the input reads as it did. -/
def tableBackSpec : ChangeSpec := { name := "tableBack", fn := fun _ => fun
  | [d1, d2, d3] => { results := [.lit (.bool true)], args := [d1, d2, d3] }
  | _ => none }
def tableBackRow : OpenClaim := { program := "ytfnagfmbhcaphaadoor", sum := "b23795fc08ccbb22bae541e209c9a73d21e75060460e5ea9f816f0f45b187299", func := "junctionbox/junctionboxlaw09.TableBack", spec := "tableBack", inPlace := ["internal/bytealg.Compare", "slices.overlaps[junctionbox/api.Row]"], unfollowed := true, recurses := true, named := ["junctionbox/prefix.widths"], apart := false, laid := [("junctionbox/prefix.widths", laid_junctionbox_prefix_widths)] }
def TableBackSaid : Prop := tableBackRow.holds Tryd.pinned (OpenSpec.ofChange tableBackSpec)

/-- ITS FALSE NEIGHBOUR: 'it returns false'. Refute it at one input. -/
def tableBackWrong : ChangeSpec := { name := "tableBack", fn := fun _ => fun
  | [d1, d2, d3] => { results := [.lit (.bool false)], args := [d1, d2, d3] }
  | _ => none }
def TableBackWrongFalsely : Prop := tableBackRow.holds Tryd.pinned (OpenSpec.ofChange tableBackWrong)

/- THE SECOND FORM. 'bulk': how many values and letters a reading holds, each counted each time it is reached (what is shared counts as often as it is met; a slice's spare places count too). A statement '..UptoSaid' is the law's where the arguments, and the package variables that the reading takes, are together of bulk at most 1048576: NARROWER than '..Said'. Prove '..Said' where nothing that the law and all that it calls make is longer than what came in: it says more and counts as full. Else prove '..UptoSaid'. A law counts once. -/
mutual
def uptoBulk {H : Type} : DataW H → Nat
  | .lit (.string bytes) => bytes.length + 1
  | .lit _ => 1
  | .nil => 1
  | .ptr d => uptoBulk d + 1
  | .slice elems spare => uptoBulkAll elems + uptoBulkAll spare + 1
  | .agg parts => uptoBulkAll parts + 1
  | .iface _ d => uptoBulk d + 1
  | .map entries => uptoBulkEntries entries + 1
  | .held _ => 1
def uptoBulkAll {H : Type} : List (DataW H) → Nat
  | [] => 0
  | d :: r => uptoBulk d + uptoBulkAll r
def uptoBulkEntries {H : Type} : List (Lit × DataW H) → Nat
  | [] => 0
  | x :: r => uptoBulkEntry x + uptoBulkEntries r
def uptoBulkEntry {H : Type} : Lit × DataW H → Nat
  | (.string bytes, d) => bytes.length + uptoBulk d + 1
  | (_, d) => uptoBulk d + 1
 end
def uptoSmall : (H : Type) → List (DataW H) → Bool := fun _ ds => decide (uptoBulkAll ds ≤ 1048576)
def OpenSpec.upto (s : _root_.Go.ChangeSpec) : _root_.Go.OpenSpec := { _root_.Go.OpenSpec.ofChange s with cond := some uptoSmall }

/-- 'junctionboxlaw09.TableSets', WHERE WHAT IT READS IS OF BULK AT MOST 1048576: true; the input reads as it did. -/
def tableSetsUptoRow : OpenClaim := { program := "ytfnagfmbhcaphaadoor", sum := "b23795fc08ccbb22bae541e209c9a73d21e75060460e5ea9f816f0f45b187299", func := "junctionbox/junctionboxlaw09.TableSets", spec := "tableSets", inPlace := ["internal/bytealg.Compare", "slices.overlaps[junctionbox/api.Row]"], unfollowed := true, recurses := true, named := ["junctionbox/prefix.widths"], apart := false, laid := [("junctionbox/prefix.widths", laid_junctionbox_prefix_widths)], narrowed := true }
def TableSetsUptoSaid : Prop := tableSetsUptoRow.holds Tryd.pinned (OpenSpec.upto tableSetsSpec)

/-- 'junctionboxlaw09.TableMatches', WHERE WHAT IT READS IS OF BULK AT MOST 1048576: true; the input reads as it did. -/
def tableMatchesUptoRow : OpenClaim := { program := "ytfnagfmbhcaphaadoor", sum := "b23795fc08ccbb22bae541e209c9a73d21e75060460e5ea9f816f0f45b187299", func := "junctionbox/junctionboxlaw09.TableMatches", spec := "tableMatches", inPlace := ["internal/bytealg.Compare", "slices.overlaps[junctionbox/api.Row]"], unfollowed := true, recurses := true, named := ["junctionbox/prefix.widths"], apart := false, laid := [("junctionbox/prefix.widths", laid_junctionbox_prefix_widths)], narrowed := true }
def TableMatchesUptoSaid : Prop := tableMatchesUptoRow.holds Tryd.pinned (OpenSpec.upto tableMatchesSpec)

/-- 'junctionboxlaw09.TableDiffers', WHERE WHAT IT READS IS OF BULK AT MOST 1048576: true; the input reads as it did. -/
def tableDiffersUptoRow : OpenClaim := { program := "ytfnagfmbhcaphaadoor", sum := "b23795fc08ccbb22bae541e209c9a73d21e75060460e5ea9f816f0f45b187299", func := "junctionbox/junctionboxlaw09.TableDiffers", spec := "tableDiffers", inPlace := ["internal/bytealg.Compare", "slices.overlaps[junctionbox/api.Row]"], unfollowed := true, recurses := true, named := ["junctionbox/prefix.widths"], apart := false, laid := [("junctionbox/prefix.widths", laid_junctionbox_prefix_widths)], narrowed := true }
def TableDiffersUptoSaid : Prop := tableDiffersUptoRow.holds Tryd.pinned (OpenSpec.upto tableDiffersSpec)

/-- 'junctionboxlaw09.TableBytes', WHERE WHAT IT READS IS OF BULK AT MOST 1048576: true; the input reads as it did. -/
def tableBytesUptoRow : OpenClaim := { program := "ytfnagfmbhcaphaadoor", sum := "b23795fc08ccbb22bae541e209c9a73d21e75060460e5ea9f816f0f45b187299", func := "junctionbox/junctionboxlaw09.TableBytes", spec := "tableBytes", inPlace := ["internal/bytealg.Compare", "slices.overlaps[junctionbox/api.Row]"], unfollowed := true, recurses := true, named := ["junctionbox/prefix.widths"], apart := false, laid := [("junctionbox/prefix.widths", laid_junctionbox_prefix_widths)], narrowed := true }
def TableBytesUptoSaid : Prop := tableBytesUptoRow.holds Tryd.pinned (OpenSpec.upto tableBytesSpec)

/-- 'junctionboxlaw09.TableLongest', WHERE WHAT IT READS IS OF BULK AT MOST 1048576: true; the input reads as it did. -/
def tableLongestUptoRow : OpenClaim := { program := "ytfnagfmbhcaphaadoor", sum := "b23795fc08ccbb22bae541e209c9a73d21e75060460e5ea9f816f0f45b187299", func := "junctionbox/junctionboxlaw09.TableLongest", spec := "tableLongest", inPlace := ["internal/bytealg.Compare", "slices.overlaps[junctionbox/api.Row]"], unfollowed := true, recurses := true, named := ["junctionbox/prefix.widths"], apart := false, laid := [("junctionbox/prefix.widths", laid_junctionbox_prefix_widths)], narrowed := true }
def TableLongestUptoSaid : Prop := tableLongestUptoRow.holds Tryd.pinned (OpenSpec.upto tableLongestSpec)

/-- 'junctionboxlaw09.TableBack', WHERE WHAT IT READS IS OF BULK AT MOST 1048576: true; the input reads as it did. -/
def tableBackUptoRow : OpenClaim := { program := "ytfnagfmbhcaphaadoor", sum := "b23795fc08ccbb22bae541e209c9a73d21e75060460e5ea9f816f0f45b187299", func := "junctionbox/junctionboxlaw09.TableBack", spec := "tableBack", inPlace := ["internal/bytealg.Compare", "slices.overlaps[junctionbox/api.Row]"], unfollowed := true, recurses := true, named := ["junctionbox/prefix.widths"], apart := false, laid := [("junctionbox/prefix.widths", laid_junctionbox_prefix_widths)], narrowed := true }
def TableBackUptoSaid : Prop := tableBackUptoRow.holds Tryd.pinned (OpenSpec.upto tableBackSpec)

end Rows
end Go.Proofs.YtfnagfmbhcaphaaDoor
