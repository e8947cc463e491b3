/-
  DERIVED. GIVEN WITH THE SEED: THE CARDS: each row of YtclkfmblogkakaaDoorRows.lean that lists a variable, with what it lists TIED to the program's text (the seventh form; the later family's looks); each row that meets fmt, with fmt's text TOLD by the authors' own Lean function (tested against real Go, not proved from fmt's source: count such statements apart). THE CARD IS WHAT COUNTS. Prove the row's statement (the work); the ties are given (YtclkfmblogkakaaDoorTie.lean); close each card by the builder's one call (the guide's Derived/Test/ToyasCard.lean, 'card_holds'). Laid BY PROGRAM, IN A SANDBOX (cutbox-door.mjs). By AI agents, Wed Nov 11 2026. No macro, syntax, notation, axiom, sorry.
-/
import Derived.Test.YtclkfmblogkakaaDoorRows
import GoSem.ClaimSeven
namespace Go.Proofs.YtclkfmblogkakaaDoor
namespace Rows

/-- THE TIED CARD OF 'junctionboxlaw11.RouteApplies'. -/
def routeAppliesCard : Claim7 := { stood := { row := routeAppliesRow, standIns := [], harness := (true, "d3ac1a29fe0258b9c9f7a4fd99da017738e7c0c8e885b34a9e5e95bbbe1be697"), looks := false }, kinds := [], alts := [], laidByText := true, laidKinds := [.data], laidTests := true, laidLooks := .later }
def RouteAppliesCardSaid : Prop := Claim7.holds Tryd.pinned (.plain (OpenSpec.ofChange routeAppliesSpec)) routeAppliesCard

/-- THE TIED CARD OF 'junctionboxlaw11.RouteTells'. -/
def routeTellsCard : Claim7 := { stood := { row := routeTellsRow, standIns := [], harness := (true, "d3ac1a29fe0258b9c9f7a4fd99da017738e7c0c8e885b34a9e5e95bbbe1be697"), looks := false }, kinds := [], alts := [], laidByText := true, laidKinds := [.data], laidTests := true, laidLooks := .later }
def RouteTellsCardSaid : Prop := Claim7.holds Tryd.pinned (.plain (OpenSpec.ofChange routeTellsSpec)) routeTellsCard

/-- THE TIED CARD OF 'junctionboxlaw11.RouteBytes'. -/
def routeBytesCard : Claim7 := { stood := { row := routeBytesRow, standIns := [], harness := (true, "d3ac1a29fe0258b9c9f7a4fd99da017738e7c0c8e885b34a9e5e95bbbe1be697"), looks := false }, kinds := [], alts := [], laidByText := true, laidKinds := [.data], laidTests := true, laidLooks := .later }
def RouteBytesCardSaid : Prop := Claim7.holds Tryd.pinned (.plain (OpenSpec.ofChange routeBytesSpec)) routeBytesCard

/-- THE TIED CARD OF 'junctionboxlaw11.RouteFolds'. -/
def routeFoldsCard : Claim7 := { stood := { row := routeFoldsRow, standIns := [], harness := (true, "d3ac1a29fe0258b9c9f7a4fd99da017738e7c0c8e885b34a9e5e95bbbe1be697"), looks := false }, kinds := [], alts := [], laidByText := true, laidKinds := [.data], laidTests := true, laidLooks := .later }
def RouteFoldsCardSaid : Prop := Claim7.holds Tryd.pinned (.plain (OpenSpec.ofChange routeFoldsSpec)) routeFoldsCard

/-- THE TIED CARD OF 'junctionboxlaw11.RouteBest'. -/
def routeBestCard : Claim7 := { stood := { row := routeBestRow, standIns := [], harness := (true, "d3ac1a29fe0258b9c9f7a4fd99da017738e7c0c8e885b34a9e5e95bbbe1be697"), looks := false }, kinds := [], alts := [], laidByText := true, laidKinds := [.data], laidTests := true, laidLooks := .later }
def RouteBestCardSaid : Prop := Claim7.holds Tryd.pinned (.plain (OpenSpec.ofChange routeBestSpec)) routeBestCard

/-- THE SECOND FORM's CARD OF 'junctionboxlaw11.RouteApplies'. -/
def routeAppliesUptoCard : Claim7 := { stood := { row := routeAppliesUptoRow, standIns := [], harness := (true, "d3ac1a29fe0258b9c9f7a4fd99da017738e7c0c8e885b34a9e5e95bbbe1be697"), looks := false }, kinds := [], alts := [], laidByText := true, laidKinds := [.data], laidTests := true, laidLooks := .later }
def RouteAppliesUptoCardSaid : Prop := Claim7.holds Tryd.pinned (.plain (OpenSpec.upto routeAppliesSpec)) routeAppliesUptoCard

/-- THE SECOND FORM's CARD OF 'junctionboxlaw11.RouteTells'. -/
def routeTellsUptoCard : Claim7 := { stood := { row := routeTellsUptoRow, standIns := [], harness := (true, "d3ac1a29fe0258b9c9f7a4fd99da017738e7c0c8e885b34a9e5e95bbbe1be697"), looks := false }, kinds := [], alts := [], laidByText := true, laidKinds := [.data], laidTests := true, laidLooks := .later }
def RouteTellsUptoCardSaid : Prop := Claim7.holds Tryd.pinned (.plain (OpenSpec.upto routeTellsSpec)) routeTellsUptoCard

/-- THE SECOND FORM's CARD OF 'junctionboxlaw11.RouteBytes'. -/
def routeBytesUptoCard : Claim7 := { stood := { row := routeBytesUptoRow, standIns := [], harness := (true, "d3ac1a29fe0258b9c9f7a4fd99da017738e7c0c8e885b34a9e5e95bbbe1be697"), looks := false }, kinds := [], alts := [], laidByText := true, laidKinds := [.data], laidTests := true, laidLooks := .later }
def RouteBytesUptoCardSaid : Prop := Claim7.holds Tryd.pinned (.plain (OpenSpec.upto routeBytesSpec)) routeBytesUptoCard

/-- THE SECOND FORM's CARD OF 'junctionboxlaw11.RouteFolds'. -/
def routeFoldsUptoCard : Claim7 := { stood := { row := routeFoldsUptoRow, standIns := [], harness := (true, "d3ac1a29fe0258b9c9f7a4fd99da017738e7c0c8e885b34a9e5e95bbbe1be697"), looks := false }, kinds := [], alts := [], laidByText := true, laidKinds := [.data], laidTests := true, laidLooks := .later }
def RouteFoldsUptoCardSaid : Prop := Claim7.holds Tryd.pinned (.plain (OpenSpec.upto routeFoldsSpec)) routeFoldsUptoCard

/-- THE SECOND FORM's CARD OF 'junctionboxlaw11.RouteBest'. -/
def routeBestUptoCard : Claim7 := { stood := { row := routeBestUptoRow, standIns := [], harness := (true, "d3ac1a29fe0258b9c9f7a4fd99da017738e7c0c8e885b34a9e5e95bbbe1be697"), looks := false }, kinds := [], alts := [], laidByText := true, laidKinds := [.data], laidTests := true, laidLooks := .later }
def RouteBestUptoCardSaid : Prop := Claim7.holds Tryd.pinned (.plain (OpenSpec.upto routeBestSpec)) routeBestUptoCard
end Rows
end Go.Proofs.YtclkfmblogkakaaDoor
