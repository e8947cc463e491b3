/-
  DERIVED. GIVEN WITH THE SEED: THE CARDS: each row of YtclkfmblogkakaaGreatDoorRows.lean that lists a variable, with what it lists TIED to the program's text (the seventh form; the later family's looks); each row that meets fmt, with fmt's text TOLD by the authors' own Lean function (tested against real Go, not proved from fmt's source: count such statements apart). THE CARD IS WHAT COUNTS. Prove the row's statement (the work); the ties are given (YtclkfmblogkakaaGreatDoorTie.lean); close each card by the builder's one call (the guide's Derived/Test/ToyasCard.lean, 'card_holds'). Laid BY PROGRAM, IN A SANDBOX (cutbox-door.mjs). By AI agents, Wed Nov 11 2026. No macro, syntax, notation, axiom, sorry.
-/
import Derived.Test.YtclkfmblogkakaaGreatDoorRows
import GoSem.ClaimSeven
namespace Go.Proofs.YtclkfmblogkakaaGreatDoor
namespace Rows

/-- THE TIED CARD OF 'junctionboxlaw11.RouteReads'. -/
def routeReadsCard : Claim7 := { stood := { row := routeReadsRow, standIns := [], harness := (true, "af782be7613948bc4cd6995f79100fbaa56bdf772f7e0e46088aec9cc7e143fd"), looks := true }, kinds := [], alts := [], laidByText := true, laidKinds := [.data], laidTests := true, laidLooks := .later }
def RouteReadsCardSaid : Prop := Claim7.holds Tryz.pinned (.plain (OpenSpec.ofChange routeReadsSpec)) routeReadsCard

/-- THE SECOND FORM's CARD OF 'junctionboxlaw11.RouteReads'. -/
def routeReadsUptoCard : Claim7 := { stood := { row := routeReadsUptoRow, standIns := [], harness := (true, "af782be7613948bc4cd6995f79100fbaa56bdf772f7e0e46088aec9cc7e143fd"), looks := true }, kinds := [], alts := [], laidByText := true, laidKinds := [.data], laidTests := true, laidLooks := .later }
def RouteReadsUptoCardSaid : Prop := Claim7.holds Tryz.pinned (.plain (OpenSpec.upto routeReadsSpec)) routeReadsUptoCard
end Rows
end Go.Proofs.YtclkfmblogkakaaGreatDoor
