/-
  DERIVED. GIVEN WITH THE SEED: THE CARDS: each row of YtgfbjlmpofbnnaaDoorRows.lean that lists a variable, with what it lists TIED to the program's text (the seventh form; the later family's looks); each row that meets fmt, with fmt's text TOLD by the authors' own Lean function (tested against real Go, not proved from fmt's source: count such statements apart). THE CARD IS WHAT COUNTS. Prove the row's statement (the work); the ties are given (YtgfbjlmpofbnnaaDoorTie.lean); close each card by the builder's one call (the guide's Derived/Test/ToyasCard.lean, 'card_holds'). Laid BY PROGRAM, IN A SANDBOX (cutbox-door.mjs). By AI agents, Wed Nov 11 2026. No macro, syntax, notation, axiom, sorry.
-/
import Derived.Test.YtgfbjlmpofbnnaaDoorRows
import GoSem.ClaimSeven
namespace Go.Proofs.YtgfbjlmpofbnnaaDoor
namespace Rows

/-- THE TIED CARD OF 'forkwrightlaw.GraphWrong'. -/
def graphWrongCard : Claim7 := { stood := { row := graphWrongRow, standIns := [], harness := (true, "4784dfe9b34670330dfa0f76d921b64bb85d9ae49d97b41eda14b7b9b0fc7039"), looks := false }, kinds := [], alts := [], laidByText := true, laidKinds := [.data], laidTests := true, laidLooks := .later }
def GraphWrongCardSaid : Prop := Claim7.holds Tryd.pinned (.plain (OpenSpec.ofChange graphWrongSpec)) graphWrongCard

/-- THE TIED CARD OF 'forkwrightlaw.GraphSorts'. -/
def graphSortsCard : Claim7 := { stood := { row := graphSortsRow, standIns := [], harness := (true, "4784dfe9b34670330dfa0f76d921b64bb85d9ae49d97b41eda14b7b9b0fc7039"), looks := false }, kinds := [], alts := [], laidByText := true, laidKinds := [.data], laidTests := true, laidLooks := .later }
def GraphSortsCardSaid : Prop := Claim7.holds Tryd.pinned (.plain (OpenSpec.ofChange graphSortsSpec)) graphSortsCard

/-- THE TIED CARD OF 'forkwrightlaw.GraphCloses'. -/
def graphClosesCard : Claim7 := { stood := { row := graphClosesRow, standIns := [], harness := (true, "4784dfe9b34670330dfa0f76d921b64bb85d9ae49d97b41eda14b7b9b0fc7039"), looks := false }, kinds := [], alts := [], laidByText := true, laidKinds := [.data], laidTests := true, laidLooks := .later }
def GraphClosesCardSaid : Prop := Claim7.holds Tryd.pinned (.plain (OpenSpec.ofChange graphClosesSpec)) graphClosesCard

/-- THE TIED CARD OF 'forkwrightkeep.GraphRound'. -/
def graphRoundCard : Claim7 := { stood := { row := graphRoundRow, standIns := [], harness := (true, "4784dfe9b34670330dfa0f76d921b64bb85d9ae49d97b41eda14b7b9b0fc7039"), looks := false }, kinds := [], alts := [], laidByText := true, laidKinds := [.data], laidTests := true, laidLooks := .later }
def GraphRoundCardSaid : Prop := Claim7.holds Tryd.pinned (.plain (OpenSpec.ofChange graphRoundSpec)) graphRoundCard

/-- THE TIED CARD OF 'forkwrightkeep.GraphClosed'. -/
def graphClosedCard : Claim7 := { stood := { row := graphClosedRow, standIns := [], harness := (true, "4784dfe9b34670330dfa0f76d921b64bb85d9ae49d97b41eda14b7b9b0fc7039"), looks := false }, kinds := [], alts := [], laidByText := true, laidKinds := [.data], laidTests := true, laidLooks := .later }
def GraphClosedCardSaid : Prop := Claim7.holds Tryd.pinned (.plain (OpenSpec.ofChange graphClosedSpec)) graphClosedCard

/-- THE TIED CARD OF 'forkwrightkeep.GraphLeast'. -/
def graphLeastCard : Claim7 := { stood := { row := graphLeastRow, standIns := [], harness := (true, "4784dfe9b34670330dfa0f76d921b64bb85d9ae49d97b41eda14b7b9b0fc7039"), looks := false }, kinds := [], alts := [], laidByText := true, laidKinds := [.data], laidTests := true, laidLooks := .later }
def GraphLeastCardSaid : Prop := Claim7.holds Tryd.pinned (.plain (OpenSpec.ofChange graphLeastSpec)) graphLeastCard

/-- THE TIED CARD OF 'forkwrightkeep.GraphBehind'. -/
def graphBehindCard : Claim7 := { stood := { row := graphBehindRow, standIns := [], harness := (true, "4784dfe9b34670330dfa0f76d921b64bb85d9ae49d97b41eda14b7b9b0fc7039"), looks := false }, kinds := [], alts := [], laidByText := true, laidKinds := [.data], laidTests := true, laidLooks := .later }
def GraphBehindCardSaid : Prop := Claim7.holds Tryd.pinned (.plain (OpenSpec.ofChange graphBehindSpec)) graphBehindCard

/-- THE SECOND FORM's CARD OF 'forkwrightlaw.GraphWrong'. -/
def graphWrongUptoCard : Claim7 := { stood := { row := graphWrongUptoRow, standIns := [], harness := (true, "4784dfe9b34670330dfa0f76d921b64bb85d9ae49d97b41eda14b7b9b0fc7039"), looks := false }, kinds := [], alts := [], laidByText := true, laidKinds := [.data], laidTests := true, laidLooks := .later }
def GraphWrongUptoCardSaid : Prop := Claim7.holds Tryd.pinned (.plain (OpenSpec.upto graphWrongSpec)) graphWrongUptoCard

/-- THE SECOND FORM's CARD OF 'forkwrightlaw.GraphSorts'. -/
def graphSortsUptoCard : Claim7 := { stood := { row := graphSortsUptoRow, standIns := [], harness := (true, "4784dfe9b34670330dfa0f76d921b64bb85d9ae49d97b41eda14b7b9b0fc7039"), looks := false }, kinds := [], alts := [], laidByText := true, laidKinds := [.data], laidTests := true, laidLooks := .later }
def GraphSortsUptoCardSaid : Prop := Claim7.holds Tryd.pinned (.plain (OpenSpec.upto graphSortsSpec)) graphSortsUptoCard

/-- THE SECOND FORM's CARD OF 'forkwrightlaw.GraphCloses'. -/
def graphClosesUptoCard : Claim7 := { stood := { row := graphClosesUptoRow, standIns := [], harness := (true, "4784dfe9b34670330dfa0f76d921b64bb85d9ae49d97b41eda14b7b9b0fc7039"), looks := false }, kinds := [], alts := [], laidByText := true, laidKinds := [.data], laidTests := true, laidLooks := .later }
def GraphClosesUptoCardSaid : Prop := Claim7.holds Tryd.pinned (.plain (OpenSpec.upto graphClosesSpec)) graphClosesUptoCard

/-- THE SECOND FORM's CARD OF 'forkwrightkeep.GraphRound'. -/
def graphRoundUptoCard : Claim7 := { stood := { row := graphRoundUptoRow, standIns := [], harness := (true, "4784dfe9b34670330dfa0f76d921b64bb85d9ae49d97b41eda14b7b9b0fc7039"), looks := false }, kinds := [], alts := [], laidByText := true, laidKinds := [.data], laidTests := true, laidLooks := .later }
def GraphRoundUptoCardSaid : Prop := Claim7.holds Tryd.pinned (.plain (OpenSpec.upto graphRoundSpec)) graphRoundUptoCard

/-- THE SECOND FORM's CARD OF 'forkwrightkeep.GraphClosed'. -/
def graphClosedUptoCard : Claim7 := { stood := { row := graphClosedUptoRow, standIns := [], harness := (true, "4784dfe9b34670330dfa0f76d921b64bb85d9ae49d97b41eda14b7b9b0fc7039"), looks := false }, kinds := [], alts := [], laidByText := true, laidKinds := [.data], laidTests := true, laidLooks := .later }
def GraphClosedUptoCardSaid : Prop := Claim7.holds Tryd.pinned (.plain (OpenSpec.upto graphClosedSpec)) graphClosedUptoCard

/-- THE SECOND FORM's CARD OF 'forkwrightkeep.GraphLeast'. -/
def graphLeastUptoCard : Claim7 := { stood := { row := graphLeastUptoRow, standIns := [], harness := (true, "4784dfe9b34670330dfa0f76d921b64bb85d9ae49d97b41eda14b7b9b0fc7039"), looks := false }, kinds := [], alts := [], laidByText := true, laidKinds := [.data], laidTests := true, laidLooks := .later }
def GraphLeastUptoCardSaid : Prop := Claim7.holds Tryd.pinned (.plain (OpenSpec.upto graphLeastSpec)) graphLeastUptoCard

/-- THE SECOND FORM's CARD OF 'forkwrightkeep.GraphBehind'. -/
def graphBehindUptoCard : Claim7 := { stood := { row := graphBehindUptoRow, standIns := [], harness := (true, "4784dfe9b34670330dfa0f76d921b64bb85d9ae49d97b41eda14b7b9b0fc7039"), looks := false }, kinds := [], alts := [], laidByText := true, laidKinds := [.data], laidTests := true, laidLooks := .later }
def GraphBehindUptoCardSaid : Prop := Claim7.holds Tryd.pinned (.plain (OpenSpec.upto graphBehindSpec)) graphBehindUptoCard
end Rows
end Go.Proofs.YtgfbjlmpofbnnaaDoor
