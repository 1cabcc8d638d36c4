/-
  DERIVED. GIVEN WITH THE SEED: THE CARDS: each row of YtafdpimkfkddaaaDoorRows.lean that lists a variable, with what it lists TIED to the program's text (the seventh form; the later family's looks); each row that meets fmt, with fmt's text TOLD by the authors' own Lean function (tested against real Go, not proved from fmt's source: count such statements apart). THE CARD IS WHAT COUNTS. Prove the row's statement (the work); the ties are given (YtafdpimkfkddaaaDoorTie.lean); close each card by the builder's one call (the guide's Derived/Test/ToyasCard.lean, 'card_holds'). Laid BY PROGRAM, IN A SANDBOX (cutbox-door.mjs). By AI agents, Wed Nov 11 2026. No macro, syntax, notation, axiom, sorry.
-/
import Derived.Test.YtafdpimkfkddaaaDoorRows
import GoSem.ClaimSeven
namespace Go.Proofs.YtafdpimkfkddaaaDoor
namespace Rows

/-- THE TIED CARD OF 'forkwrightlaw.SpGraphs'. -/
def spGraphsCard : Claim7 := { stood := { row := spGraphsRow, standIns := [], harness := (true, "a190e73fdea999d3d16c60f1657a9098be849819eae0e02a3b53121de0de31d6"), looks := false }, kinds := [], alts := [], laidByText := true, laidKinds := [.data], laidTests := true, laidLooks := .later }
def SpGraphsCardSaid : Prop := Claim7.holds Tryd.pinned (.plain (OpenSpec.ofChange spGraphsSpec)) spGraphsCard

/-- THE TIED CARD OF 'forkwrightkeep.SpClosed'. -/
def spClosedCard : Claim7 := { stood := { row := spClosedRow, standIns := [], harness := (true, "a190e73fdea999d3d16c60f1657a9098be849819eae0e02a3b53121de0de31d6"), looks := false }, kinds := [], alts := [], laidByText := true, laidKinds := [.data], laidTests := true, laidLooks := .later }
def SpClosedCardSaid : Prop := Claim7.holds Tryd.pinned (.plain (OpenSpec.ofChange spClosedSpec)) spClosedCard

/-- THE TIED CARD OF 'forkwrightkeep.SpCounts'. -/
def spCountsCard : Claim7 := { stood := { row := spCountsRow, standIns := [], harness := (true, "a190e73fdea999d3d16c60f1657a9098be849819eae0e02a3b53121de0de31d6"), looks := false }, kinds := [], alts := [], laidByText := true, laidKinds := [.data], laidTests := true, laidLooks := .later }
def SpCountsCardSaid : Prop := Claim7.holds Tryd.pinned (.plain (OpenSpec.ofChange spCountsSpec)) spCountsCard

/-- THE SECOND FORM's CARD OF 'forkwrightlaw.SpGraphs'. -/
def spGraphsUptoCard : Claim7 := { stood := { row := spGraphsUptoRow, standIns := [], harness := (true, "a190e73fdea999d3d16c60f1657a9098be849819eae0e02a3b53121de0de31d6"), looks := false }, kinds := [], alts := [], laidByText := true, laidKinds := [.data], laidTests := true, laidLooks := .later }
def SpGraphsUptoCardSaid : Prop := Claim7.holds Tryd.pinned (.plain (OpenSpec.upto spGraphsSpec)) spGraphsUptoCard

/-- THE SECOND FORM's CARD OF 'forkwrightkeep.SpClosed'. -/
def spClosedUptoCard : Claim7 := { stood := { row := spClosedUptoRow, standIns := [], harness := (true, "a190e73fdea999d3d16c60f1657a9098be849819eae0e02a3b53121de0de31d6"), looks := false }, kinds := [], alts := [], laidByText := true, laidKinds := [.data], laidTests := true, laidLooks := .later }
def SpClosedUptoCardSaid : Prop := Claim7.holds Tryd.pinned (.plain (OpenSpec.upto spClosedSpec)) spClosedUptoCard

/-- THE SECOND FORM's CARD OF 'forkwrightkeep.SpCounts'. -/
def spCountsUptoCard : Claim7 := { stood := { row := spCountsUptoRow, standIns := [], harness := (true, "a190e73fdea999d3d16c60f1657a9098be849819eae0e02a3b53121de0de31d6"), looks := false }, kinds := [], alts := [], laidByText := true, laidKinds := [.data], laidTests := true, laidLooks := .later }
def SpCountsUptoCardSaid : Prop := Claim7.holds Tryd.pinned (.plain (OpenSpec.upto spCountsSpec)) spCountsUptoCard
end Rows
end Go.Proofs.YtafdpimkfkddaaaDoor
