/-
  DERIVED. GIVEN WITH THE SEED: THE CARDS: each row of YtipihchlhkjdjaaDoorRows.lean that lists a variable, with what it lists TIED to the program's text (the seventh form; the later family's looks); each row that meets fmt, with fmt's text TOLD by the authors' own Lean function (tested against real Go, not proved from fmt's source: count such statements apart). THE CARD IS WHAT COUNTS. Prove the row's statement (the work); the ties are given (YtipihchlhkjdjaaDoorTie.lean); close each card by the builder's one call (the guide's Derived/Test/ToyasCard.lean, 'card_holds'). Laid BY PROGRAM, IN A SANDBOX (cutbox-door.mjs). By AI agents, Wed Nov 11 2026. No macro, syntax, notation, axiom, sorry.
-/
import Derived.Test.YtipihchlhkjdjaaDoorRows
import GoSem.ClaimSeven
namespace Go.Proofs.YtipihchlhkjdjaaDoor
namespace Rows

/-- THE TIED CARD OF 'forkwrightlaw.GreedyRounds'. -/
def greedyRoundsCard : Claim7 := { stood := { row := greedyRoundsRow, standIns := [], harness := (true, "a62b686b7227b29e0fb383fd3c31e5390b16586b3ac41b863101b639b15e2c8a"), looks := false }, kinds := [], alts := [], laidByText := true, laidKinds := [.data], laidTests := true, laidLooks := .later }
def GreedyRoundsCardSaid : Prop := Claim7.holds Tryd.pinned (.plain (OpenSpec.ofChange greedyRoundsSpec)) greedyRoundsCard

/-- THE TIED CARD OF 'forkwrightkeep.GreedyAll'. -/
def greedyAllCard : Claim7 := { stood := { row := greedyAllRow, standIns := [], harness := (true, "a62b686b7227b29e0fb383fd3c31e5390b16586b3ac41b863101b639b15e2c8a"), looks := false }, kinds := [], alts := [], laidByText := true, laidKinds := [.data], laidTests := true, laidLooks := .later }
def GreedyAllCardSaid : Prop := Claim7.holds Tryd.pinned (.plain (OpenSpec.ofChange greedyAllSpec)) greedyAllCard

/-- THE TIED CARD OF 'forkwrightkeep.GreedyBrent'. -/
def greedyBrentCard : Claim7 := { stood := { row := greedyBrentRow, standIns := [], harness := (true, "a62b686b7227b29e0fb383fd3c31e5390b16586b3ac41b863101b639b15e2c8a"), looks := false }, kinds := [], alts := [], laidByText := true, laidKinds := [.data], laidTests := true, laidLooks := .later }
def GreedyBrentCardSaid : Prop := Claim7.holds Tryd.pinned (.plain (OpenSpec.ofChange greedyBrentSpec)) greedyBrentCard

/-- THE TIED CARD OF 'forkwrightkeep.GreedyIdle'. -/
def greedyIdleCard : Claim7 := { stood := { row := greedyIdleRow, standIns := [], harness := (true, "a62b686b7227b29e0fb383fd3c31e5390b16586b3ac41b863101b639b15e2c8a"), looks := false }, kinds := [], alts := [], laidByText := true, laidKinds := [.data], laidTests := true, laidLooks := .later }
def GreedyIdleCardSaid : Prop := Claim7.holds Tryd.pinned (.plain (OpenSpec.ofChange greedyIdleSpec)) greedyIdleCard

/-- THE TIED CARD OF 'forkwrightkeep.GreedyAlone'. -/
def greedyAloneCard : Claim7 := { stood := { row := greedyAloneRow, standIns := [], harness := (true, "a62b686b7227b29e0fb383fd3c31e5390b16586b3ac41b863101b639b15e2c8a"), looks := false }, kinds := [], alts := [], laidByText := true, laidKinds := [.data], laidTests := true, laidLooks := .later }
def GreedyAloneCardSaid : Prop := Claim7.holds Tryd.pinned (.plain (OpenSpec.ofChange greedyAloneSpec)) greedyAloneCard

/-- THE TIED CARD OF 'forkwrightkeep.GreedyTerm'. -/
def greedyTermCard : Claim7 := { stood := { row := greedyTermRow, standIns := [], harness := (true, "a62b686b7227b29e0fb383fd3c31e5390b16586b3ac41b863101b639b15e2c8a"), looks := false }, kinds := [], alts := [], laidByText := true, laidKinds := [.data], laidTests := true, laidLooks := .later }
def GreedyTermCardSaid : Prop := Claim7.holds Tryd.pinned (.plain (OpenSpec.ofChange greedyTermSpec)) greedyTermCard

/-- THE SECOND FORM's CARD OF 'forkwrightlaw.GreedyRounds'. -/
def greedyRoundsUptoCard : Claim7 := { stood := { row := greedyRoundsUptoRow, standIns := [], harness := (true, "a62b686b7227b29e0fb383fd3c31e5390b16586b3ac41b863101b639b15e2c8a"), looks := false }, kinds := [], alts := [], laidByText := true, laidKinds := [.data], laidTests := true, laidLooks := .later }
def GreedyRoundsUptoCardSaid : Prop := Claim7.holds Tryd.pinned (.plain (OpenSpec.upto greedyRoundsSpec)) greedyRoundsUptoCard

/-- THE SECOND FORM's CARD OF 'forkwrightkeep.GreedyAll'. -/
def greedyAllUptoCard : Claim7 := { stood := { row := greedyAllUptoRow, standIns := [], harness := (true, "a62b686b7227b29e0fb383fd3c31e5390b16586b3ac41b863101b639b15e2c8a"), looks := false }, kinds := [], alts := [], laidByText := true, laidKinds := [.data], laidTests := true, laidLooks := .later }
def GreedyAllUptoCardSaid : Prop := Claim7.holds Tryd.pinned (.plain (OpenSpec.upto greedyAllSpec)) greedyAllUptoCard

/-- THE SECOND FORM's CARD OF 'forkwrightkeep.GreedyBrent'. -/
def greedyBrentUptoCard : Claim7 := { stood := { row := greedyBrentUptoRow, standIns := [], harness := (true, "a62b686b7227b29e0fb383fd3c31e5390b16586b3ac41b863101b639b15e2c8a"), looks := false }, kinds := [], alts := [], laidByText := true, laidKinds := [.data], laidTests := true, laidLooks := .later }
def GreedyBrentUptoCardSaid : Prop := Claim7.holds Tryd.pinned (.plain (OpenSpec.upto greedyBrentSpec)) greedyBrentUptoCard

/-- THE SECOND FORM's CARD OF 'forkwrightkeep.GreedyIdle'. -/
def greedyIdleUptoCard : Claim7 := { stood := { row := greedyIdleUptoRow, standIns := [], harness := (true, "a62b686b7227b29e0fb383fd3c31e5390b16586b3ac41b863101b639b15e2c8a"), looks := false }, kinds := [], alts := [], laidByText := true, laidKinds := [.data], laidTests := true, laidLooks := .later }
def GreedyIdleUptoCardSaid : Prop := Claim7.holds Tryd.pinned (.plain (OpenSpec.upto greedyIdleSpec)) greedyIdleUptoCard

/-- THE SECOND FORM's CARD OF 'forkwrightkeep.GreedyAlone'. -/
def greedyAloneUptoCard : Claim7 := { stood := { row := greedyAloneUptoRow, standIns := [], harness := (true, "a62b686b7227b29e0fb383fd3c31e5390b16586b3ac41b863101b639b15e2c8a"), looks := false }, kinds := [], alts := [], laidByText := true, laidKinds := [.data], laidTests := true, laidLooks := .later }
def GreedyAloneUptoCardSaid : Prop := Claim7.holds Tryd.pinned (.plain (OpenSpec.upto greedyAloneSpec)) greedyAloneUptoCard

/-- THE SECOND FORM's CARD OF 'forkwrightkeep.GreedyTerm'. -/
def greedyTermUptoCard : Claim7 := { stood := { row := greedyTermUptoRow, standIns := [], harness := (true, "a62b686b7227b29e0fb383fd3c31e5390b16586b3ac41b863101b639b15e2c8a"), looks := false }, kinds := [], alts := [], laidByText := true, laidKinds := [.data], laidTests := true, laidLooks := .later }
def GreedyTermUptoCardSaid : Prop := Claim7.holds Tryd.pinned (.plain (OpenSpec.upto greedyTermSpec)) greedyTermUptoCard
end Rows
end Go.Proofs.YtipihchlhkjdjaaDoor
