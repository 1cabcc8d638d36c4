/-
  DERIVED. GIVEN WITH THE SEED: THE CARDS: each row of YtfpgdkbgmmpncaaDoorRows.lean that lists a variable, with what it lists TIED to the program's text (the seventh form; the later family's looks); each row that meets fmt, with fmt's text TOLD by the authors' own Lean function (tested against real Go, not proved from fmt's source: count such statements apart). THE CARD IS WHAT COUNTS. Prove the row's statement (the work); the ties are given (YtfpgdkbgmmpncaaDoorTie.lean); close each card by the builder's one call (the guide's Derived/Test/ToyasCard.lean, 'card_holds'). Laid BY PROGRAM, IN A SANDBOX (cutbox-door.mjs). By AI agents, Wed Nov 11 2026. No macro, syntax, notation, axiom, sorry.
-/
import Derived.Test.YtfpgdkbgmmpncaaDoorRows
import GoSem.ClaimSeven
namespace Go.Proofs.YtfpgdkbgmmpncaaDoor
namespace Rows

/-- THE TIED CARD OF 'forkwrightlaw.BitsetLists'. -/
def bitsetListsCard : Claim7 := { stood := { row := bitsetListsRow, standIns := [], harness := (true, "af49d4c6344cf227b206276540dee34762d615408a993b58b642e7c4c28101d0"), looks := false }, kinds := [], alts := [], laidByText := true, laidKinds := [.data], laidTests := true, laidLooks := .later }
def BitsetListsCardSaid : Prop := Claim7.holds Tryd.pinned (.plain (OpenSpec.ofChange bitsetListsSpec)) bitsetListsCard

/-- THE TIED CARD OF 'forkwrightkeep.BitsetAlgebra'. -/
def bitsetAlgebraCard : Claim7 := { stood := { row := bitsetAlgebraRow, standIns := [], harness := (true, "af49d4c6344cf227b206276540dee34762d615408a993b58b642e7c4c28101d0"), looks := false }, kinds := [], alts := [], laidByText := true, laidKinds := [.data], laidTests := true, laidLooks := .later }
def BitsetAlgebraCardSaid : Prop := Claim7.holds Tryd.pinned (.plain (OpenSpec.ofChange bitsetAlgebraSpec)) bitsetAlgebraCard

/-- THE TIED CARD OF 'forkwrightkeep.BitsetCount'. -/
def bitsetCountCard : Claim7 := { stood := { row := bitsetCountRow, standIns := [], harness := (true, "af49d4c6344cf227b206276540dee34762d615408a993b58b642e7c4c28101d0"), looks := false }, kinds := [], alts := [], laidByText := true, laidKinds := [.data], laidTests := true, laidLooks := .later }
def BitsetCountCardSaid : Prop := Claim7.holds Tryd.pinned (.plain (OpenSpec.ofChange bitsetCountSpec)) bitsetCountCard

/-- THE TIED CARD OF 'forkwrightkeep.BitsetBack'. -/
def bitsetBackCard : Claim7 := { stood := { row := bitsetBackRow, standIns := [], harness := (true, "af49d4c6344cf227b206276540dee34762d615408a993b58b642e7c4c28101d0"), looks := false }, kinds := [], alts := [], laidByText := true, laidKinds := [.data], laidTests := true, laidLooks := .later }
def BitsetBackCardSaid : Prop := Claim7.holds Tryd.pinned (.plain (OpenSpec.ofChange bitsetBackSpec)) bitsetBackCard

/-- THE TIED CARD OF 'forkwrightkeep.BitsetWithin'. -/
def bitsetWithinCard : Claim7 := { stood := { row := bitsetWithinRow, standIns := [], harness := (true, "af49d4c6344cf227b206276540dee34762d615408a993b58b642e7c4c28101d0"), looks := false }, kinds := [], alts := [], laidByText := true, laidKinds := [.data], laidTests := true, laidLooks := .later }
def BitsetWithinCardSaid : Prop := Claim7.holds Tryd.pinned (.plain (OpenSpec.ofChange bitsetWithinSpec)) bitsetWithinCard

/-- THE SECOND FORM's CARD OF 'forkwrightlaw.BitsetLists'. -/
def bitsetListsUptoCard : Claim7 := { stood := { row := bitsetListsUptoRow, standIns := [], harness := (true, "af49d4c6344cf227b206276540dee34762d615408a993b58b642e7c4c28101d0"), looks := false }, kinds := [], alts := [], laidByText := true, laidKinds := [.data], laidTests := true, laidLooks := .later }
def BitsetListsUptoCardSaid : Prop := Claim7.holds Tryd.pinned (.plain (OpenSpec.upto bitsetListsSpec)) bitsetListsUptoCard

/-- THE SECOND FORM's CARD OF 'forkwrightkeep.BitsetAlgebra'. -/
def bitsetAlgebraUptoCard : Claim7 := { stood := { row := bitsetAlgebraUptoRow, standIns := [], harness := (true, "af49d4c6344cf227b206276540dee34762d615408a993b58b642e7c4c28101d0"), looks := false }, kinds := [], alts := [], laidByText := true, laidKinds := [.data], laidTests := true, laidLooks := .later }
def BitsetAlgebraUptoCardSaid : Prop := Claim7.holds Tryd.pinned (.plain (OpenSpec.upto bitsetAlgebraSpec)) bitsetAlgebraUptoCard

/-- THE SECOND FORM's CARD OF 'forkwrightkeep.BitsetCount'. -/
def bitsetCountUptoCard : Claim7 := { stood := { row := bitsetCountUptoRow, standIns := [], harness := (true, "af49d4c6344cf227b206276540dee34762d615408a993b58b642e7c4c28101d0"), looks := false }, kinds := [], alts := [], laidByText := true, laidKinds := [.data], laidTests := true, laidLooks := .later }
def BitsetCountUptoCardSaid : Prop := Claim7.holds Tryd.pinned (.plain (OpenSpec.upto bitsetCountSpec)) bitsetCountUptoCard

/-- THE SECOND FORM's CARD OF 'forkwrightkeep.BitsetBack'. -/
def bitsetBackUptoCard : Claim7 := { stood := { row := bitsetBackUptoRow, standIns := [], harness := (true, "af49d4c6344cf227b206276540dee34762d615408a993b58b642e7c4c28101d0"), looks := false }, kinds := [], alts := [], laidByText := true, laidKinds := [.data], laidTests := true, laidLooks := .later }
def BitsetBackUptoCardSaid : Prop := Claim7.holds Tryd.pinned (.plain (OpenSpec.upto bitsetBackSpec)) bitsetBackUptoCard

/-- THE SECOND FORM's CARD OF 'forkwrightkeep.BitsetWithin'. -/
def bitsetWithinUptoCard : Claim7 := { stood := { row := bitsetWithinUptoRow, standIns := [], harness := (true, "af49d4c6344cf227b206276540dee34762d615408a993b58b642e7c4c28101d0"), looks := false }, kinds := [], alts := [], laidByText := true, laidKinds := [.data], laidTests := true, laidLooks := .later }
def BitsetWithinUptoCardSaid : Prop := Claim7.holds Tryd.pinned (.plain (OpenSpec.upto bitsetWithinSpec)) bitsetWithinUptoCard
end Rows
end Go.Proofs.YtfpgdkbgmmpncaaDoor
