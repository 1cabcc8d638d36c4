/-
  DERIVED. GIVEN WITH THE SEED: THE CARDS: each row of YtidgibkiacbgfaaDoorRows.lean that lists a variable, with what it lists TIED to the program's text (the seventh form; the later family's looks); each row that meets fmt, with fmt's text TOLD by the authors' own Lean function (tested against real Go, not proved from fmt's source: count such statements apart). THE CARD IS WHAT COUNTS. Prove the row's statement (the work); the ties are given (YtidgibkiacbgfaaDoorTie.lean); close each card by the builder's one call (the guide's Derived/Test/ToyasCard.lean, 'card_holds'). Laid BY PROGRAM, IN A SANDBOX (cutbox-door.mjs). By AI agents, Wed Nov 11 2026. No macro, syntax, notation, axiom, sorry.
-/
import Derived.Test.YtidgibkiacbgfaaDoorRows
import GoSem.ClaimSeven
namespace Go.Proofs.YtidgibkiacbgfaaDoor
namespace Rows

/-- THE TIED CARD OF 'forkwrightkeep.SpCounts'. -/
def spCountsCard : Claim7 := { stood := { row := spCountsRow, standIns := [], harness := (true, "85c16796bd381ad9d0f7d8ace4ab38efe6857f8a2afba8fe411d5018a1c6c9f3"), looks := false }, kinds := [], alts := [], laidByText := true, laidKinds := [.data], laidTests := true, laidLooks := .later }
def SpCountsCardSaid : Prop := Claim7.holds Tryd.pinned (.plain (OpenSpec.ofChange spCountsSpec)) spCountsCard

/-- THE TIED CARD OF 'forkwrightkeep.SpanHeight'. -/
def spanHeightCard : Claim7 := { stood := { row := spanHeightRow, standIns := [], harness := (true, "85c16796bd381ad9d0f7d8ace4ab38efe6857f8a2afba8fe411d5018a1c6c9f3"), looks := false }, kinds := [], alts := [], laidByText := true, laidKinds := [.data], laidTests := true, laidLooks := .later }
def SpanHeightCardSaid : Prop := Claim7.holds Tryd.pinned (.plain (OpenSpec.ofChange spanHeightSpec)) spanHeightCard

/-- THE SECOND FORM's CARD OF 'forkwrightkeep.SpCounts'. -/
def spCountsUptoCard : Claim7 := { stood := { row := spCountsUptoRow, standIns := [], harness := (true, "85c16796bd381ad9d0f7d8ace4ab38efe6857f8a2afba8fe411d5018a1c6c9f3"), looks := false }, kinds := [], alts := [], laidByText := true, laidKinds := [.data], laidTests := true, laidLooks := .later }
def SpCountsUptoCardSaid : Prop := Claim7.holds Tryd.pinned (.plain (OpenSpec.upto spCountsSpec)) spCountsUptoCard

/-- THE SECOND FORM's CARD OF 'forkwrightkeep.SpanHeight'. -/
def spanHeightUptoCard : Claim7 := { stood := { row := spanHeightUptoRow, standIns := [], harness := (true, "85c16796bd381ad9d0f7d8ace4ab38efe6857f8a2afba8fe411d5018a1c6c9f3"), looks := false }, kinds := [], alts := [], laidByText := true, laidKinds := [.data], laidTests := true, laidLooks := .later }
def SpanHeightUptoCardSaid : Prop := Claim7.holds Tryd.pinned (.plain (OpenSpec.upto spanHeightSpec)) spanHeightUptoCard
end Rows
end Go.Proofs.YtidgibkiacbgfaaDoor
