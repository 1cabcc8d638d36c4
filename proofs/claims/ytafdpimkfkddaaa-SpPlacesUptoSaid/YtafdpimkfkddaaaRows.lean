/-
  NARROWER THAN 'FOR EVERY INPUT', by the rows' own cells (each row's printed sentence says how): SpLeaves: loops · SpPlaces: loops · SpTwo: loops · SpOrder: loops · SpNoN: loops · SpJoins: loops.
  DERIVED. THE GIVEN ROWS OF THIS SEAT. 6 by the template 'for every input the law returns true; each argument reads behind the call as it read before'; 0 by the template 'total and deterministic' (their statements: YtafdpimkfkddaaaTotals.lean).
  GIVEN WITH THE SEED: the statements are not yours to turn. If you find one false, say at which input.
  Laid BY PROGRAM, IN A SANDBOX (cutbox-rows.mjs): the forced cells as the released guide's own fill.sh prints them over the translation 4d1a77a7410ab629… (all of the seat's roots in one cut). By AI agents, Wed Nov 11 2026. No macro, syntax, notation, axiom, sorry.
-/
import Derived.Test.YtafdpimkfkddaaaChecked
import GoSem.Claim
import GoSem.ClaimJoined
import GoSem.ClaimMapViews
import Derived.JoinedTies
import Derived.KernelRfl
namespace Go.Proofs.Ytafdpimkfkddaaa
/- THE CELL 'sum', in the pinned program and in every row, IS THE sha256 OF THE DUMP (.gsa) THAT YtafdpimkfkddaaaProg.lean LOADS. Nothing in Lean hashes anything: it is a label: what it is worth is what the hold of that sum in a sandbox is worth. -/
noncomputable def Try.pinned : Pinned := { name := "ytafdpimkfkddaaa", sum := "4d1a77a7410ab6291f7ecf09a1cbbb5b09bac2d3314ee41a44ba3274d6765b4b", checked := Try.checked }
namespace Rows
def none {H : Type} : Left H := { results := [], args := [] }

/-- 'forkwrightlaw.SpLeaves': WHATEVER THE INPUT: true; the input reads as it did. -/
def spLeavesSpec : ChangeSpec := { name := "spLeaves", fn := fun _ => fun
  | [d1, d2, d3] => { results := [.lit (.bool true)], args := [d1, d2, d3] }
  | _ => none }
def spLeavesRow : OpenClaim := { program := "ytafdpimkfkddaaa", sum := "4d1a77a7410ab6291f7ecf09a1cbbb5b09bac2d3314ee41a44ba3274d6765b4b", func := "forkwright/forkwrightlaw.SpLeaves", spec := "spLeaves", unfollowed := true, recurses := true, loops := true, apart := false }
def SpLeavesSaid : Prop := spLeavesRow.holds Try.pinned (OpenSpec.ofChange spLeavesSpec)

/-- ITS FALSE NEIGHBOUR: 'it returns false'. Refute it at one input. -/
def spLeavesWrong : ChangeSpec := { name := "spLeaves", fn := fun _ => fun
  | [d1, d2, d3] => { results := [.lit (.bool false)], args := [d1, d2, d3] }
  | _ => none }
def SpLeavesWrongFalsely : Prop := spLeavesRow.holds Try.pinned (OpenSpec.ofChange spLeavesWrong)

/-- 'forkwrightlaw.SpPlaces': WHATEVER THE INPUT: true; the input reads as it did. -/
def spPlacesSpec : ChangeSpec := { name := "spPlaces", fn := fun _ => fun
  | [d] => { results := [.lit (.bool true)], args := [d] }
  | _ => none }
def spPlacesRow : OpenClaim := { program := "ytafdpimkfkddaaa", sum := "4d1a77a7410ab6291f7ecf09a1cbbb5b09bac2d3314ee41a44ba3274d6765b4b", func := "forkwright/forkwrightlaw.SpPlaces", spec := "spPlaces", unfollowed := true, recurses := true, loops := true, apart := false }
def SpPlacesSaid : Prop := spPlacesRow.holds Try.pinned (OpenSpec.ofChange spPlacesSpec)

/-- ITS FALSE NEIGHBOUR: 'it returns false'. Refute it at one input. -/
def spPlacesWrong : ChangeSpec := { name := "spPlaces", fn := fun _ => fun
  | [d] => { results := [.lit (.bool false)], args := [d] }
  | _ => none }
def SpPlacesWrongFalsely : Prop := spPlacesRow.holds Try.pinned (OpenSpec.ofChange spPlacesWrong)

/-- 'forkwrightkeep.SpTwo': WHATEVER THE INPUT: true; the input reads as it did. -/
def spTwoSpec : ChangeSpec := { name := "spTwo", fn := fun _ => fun
  | [d1, d2, d3] => { results := [.lit (.bool true)], args := [d1, d2, d3] }
  | _ => none }
def spTwoRow : OpenClaim := { program := "ytafdpimkfkddaaa", sum := "4d1a77a7410ab6291f7ecf09a1cbbb5b09bac2d3314ee41a44ba3274d6765b4b", func := "forkwright/forkwrightkeep.SpTwo", spec := "spTwo", unfollowed := true, recurses := true, loops := true, apart := false }
def SpTwoSaid : Prop := spTwoRow.holds Try.pinned (OpenSpec.ofChange spTwoSpec)

/-- ITS FALSE NEIGHBOUR: 'it returns false'. Refute it at one input. -/
def spTwoWrong : ChangeSpec := { name := "spTwo", fn := fun _ => fun
  | [d1, d2, d3] => { results := [.lit (.bool false)], args := [d1, d2, d3] }
  | _ => none }
def SpTwoWrongFalsely : Prop := spTwoRow.holds Try.pinned (OpenSpec.ofChange spTwoWrong)

/-- 'forkwrightkeep.SpOrder': WHATEVER THE INPUT: true; the input reads as it did. -/
def spOrderSpec : ChangeSpec := { name := "spOrder", fn := fun _ => fun
  | [d1, d2, d3, d4] => { results := [.lit (.bool true)], args := [d1, d2, d3, d4] }
  | _ => none }
def spOrderRow : OpenClaim := { program := "ytafdpimkfkddaaa", sum := "4d1a77a7410ab6291f7ecf09a1cbbb5b09bac2d3314ee41a44ba3274d6765b4b", func := "forkwright/forkwrightkeep.SpOrder", spec := "spOrder", unfollowed := true, recurses := true, loops := true, apart := false }
def SpOrderSaid : Prop := spOrderRow.holds Try.pinned (OpenSpec.ofChange spOrderSpec)

/-- ITS FALSE NEIGHBOUR: 'it returns false'. Refute it at one input. -/
def spOrderWrong : ChangeSpec := { name := "spOrder", fn := fun _ => fun
  | [d1, d2, d3, d4] => { results := [.lit (.bool false)], args := [d1, d2, d3, d4] }
  | _ => none }
def SpOrderWrongFalsely : Prop := spOrderRow.holds Try.pinned (OpenSpec.ofChange spOrderWrong)

/-- 'forkwrightkeep.SpNoN': WHATEVER THE INPUT: true; the input reads as it did. -/
def spNoNSpec : ChangeSpec := { name := "spNoN", fn := fun _ => fun
  | [d1, d2, d3, d4, d5] => { results := [.lit (.bool true)], args := [d1, d2, d3, d4, d5] }
  | _ => none }
def spNoNRow : OpenClaim := { program := "ytafdpimkfkddaaa", sum := "4d1a77a7410ab6291f7ecf09a1cbbb5b09bac2d3314ee41a44ba3274d6765b4b", func := "forkwright/forkwrightkeep.SpNoN", spec := "spNoN", unfollowed := true, recurses := true, loops := true, apart := false }
def SpNoNSaid : Prop := spNoNRow.holds Try.pinned (OpenSpec.ofChange spNoNSpec)

/-- ITS FALSE NEIGHBOUR: 'it returns false'. Refute it at one input. -/
def spNoNWrong : ChangeSpec := { name := "spNoN", fn := fun _ => fun
  | [d1, d2, d3, d4, d5] => { results := [.lit (.bool false)], args := [d1, d2, d3, d4, d5] }
  | _ => none }
def SpNoNWrongFalsely : Prop := spNoNRow.holds Try.pinned (OpenSpec.ofChange spNoNWrong)

/-- 'forkwrightkeep.SpJoins': WHATEVER THE INPUT: true; the input reads as it did. -/
def spJoinsSpec : ChangeSpec := { name := "spJoins", fn := fun _ => fun
  | [d1, d2, d3, d4, d5, d6] => { results := [.lit (.bool true)], args := [d1, d2, d3, d4, d5, d6] }
  | _ => none }
def spJoinsRow : OpenClaim := { program := "ytafdpimkfkddaaa", sum := "4d1a77a7410ab6291f7ecf09a1cbbb5b09bac2d3314ee41a44ba3274d6765b4b", func := "forkwright/forkwrightkeep.SpJoins", spec := "spJoins", unfollowed := true, recurses := true, loops := true, apart := false }
def SpJoinsSaid : Prop := spJoinsRow.holds Try.pinned (OpenSpec.ofChange spJoinsSpec)

/-- ITS FALSE NEIGHBOUR: 'it returns false'. Refute it at one input. -/
def spJoinsWrong : ChangeSpec := { name := "spJoins", fn := fun _ => fun
  | [d1, d2, d3, d4, d5, d6] => { results := [.lit (.bool false)], args := [d1, d2, d3, d4, d5, d6] }
  | _ => none }
def SpJoinsWrongFalsely : Prop := spJoinsRow.holds Try.pinned (OpenSpec.ofChange spJoinsWrong)

/- THE SECOND FORM. 'bulk': how many values and letters a reading holds, each counted each time it is reached (what is shared counts as often as it is met; a slice's spare places count too). A statement '..UptoSaid' is the law's where the arguments, and the package variables that the reading takes, are together of bulk at most 1048576: NARROWER than '..Said'. Prove '..Said' where nothing that the law and all that it calls make is longer than what came in: it says more and counts as full. Else prove '..UptoSaid'. A law counts once. -/
mutual
def uptoBulk {H : Type} : DataW H → Nat
  | .lit (.string bytes) => bytes.length + 1
  | .lit _ => 1
  | .nil => 1
  | .ptr d => uptoBulk d + 1
  | .slice elems spare => uptoBulkAll elems + uptoBulkAll spare + 1
  | .agg parts => uptoBulkAll parts + 1
  | .iface _ d => uptoBulk d + 1
  | .map entries => uptoBulkEntries entries + 1
  | .held _ => 1
def uptoBulkAll {H : Type} : List (DataW H) → Nat
  | [] => 0
  | d :: r => uptoBulk d + uptoBulkAll r
def uptoBulkEntries {H : Type} : List (Lit × DataW H) → Nat
  | [] => 0
  | x :: r => uptoBulkEntry x + uptoBulkEntries r
def uptoBulkEntry {H : Type} : Lit × DataW H → Nat
  | (.string bytes, d) => bytes.length + uptoBulk d + 1
  | (_, d) => uptoBulk d + 1
 end
def uptoSmall : (H : Type) → List (DataW H) → Bool := fun _ ds => decide (uptoBulkAll ds ≤ 1048576)
def OpenSpec.upto (s : _root_.Go.ChangeSpec) : _root_.Go.OpenSpec := { _root_.Go.OpenSpec.ofChange s with cond := some uptoSmall }

/-- 'forkwrightlaw.SpLeaves', WHERE WHAT IT READS IS OF BULK AT MOST 1048576: true; the input reads as it did. -/
def spLeavesUptoRow : OpenClaim := { program := "ytafdpimkfkddaaa", sum := "4d1a77a7410ab6291f7ecf09a1cbbb5b09bac2d3314ee41a44ba3274d6765b4b", func := "forkwright/forkwrightlaw.SpLeaves", spec := "spLeaves", unfollowed := true, recurses := true, loops := true, apart := false, narrowed := true }
def SpLeavesUptoSaid : Prop := spLeavesUptoRow.holds Try.pinned (OpenSpec.upto spLeavesSpec)

/-- 'forkwrightlaw.SpPlaces', WHERE WHAT IT READS IS OF BULK AT MOST 1048576: true; the input reads as it did. -/
def spPlacesUptoRow : OpenClaim := { program := "ytafdpimkfkddaaa", sum := "4d1a77a7410ab6291f7ecf09a1cbbb5b09bac2d3314ee41a44ba3274d6765b4b", func := "forkwright/forkwrightlaw.SpPlaces", spec := "spPlaces", unfollowed := true, recurses := true, loops := true, apart := false, narrowed := true }
def SpPlacesUptoSaid : Prop := spPlacesUptoRow.holds Try.pinned (OpenSpec.upto spPlacesSpec)

/-- 'forkwrightkeep.SpTwo', WHERE WHAT IT READS IS OF BULK AT MOST 1048576: true; the input reads as it did. -/
def spTwoUptoRow : OpenClaim := { program := "ytafdpimkfkddaaa", sum := "4d1a77a7410ab6291f7ecf09a1cbbb5b09bac2d3314ee41a44ba3274d6765b4b", func := "forkwright/forkwrightkeep.SpTwo", spec := "spTwo", unfollowed := true, recurses := true, loops := true, apart := false, narrowed := true }
def SpTwoUptoSaid : Prop := spTwoUptoRow.holds Try.pinned (OpenSpec.upto spTwoSpec)

/-- 'forkwrightkeep.SpOrder', WHERE WHAT IT READS IS OF BULK AT MOST 1048576: true; the input reads as it did. -/
def spOrderUptoRow : OpenClaim := { program := "ytafdpimkfkddaaa", sum := "4d1a77a7410ab6291f7ecf09a1cbbb5b09bac2d3314ee41a44ba3274d6765b4b", func := "forkwright/forkwrightkeep.SpOrder", spec := "spOrder", unfollowed := true, recurses := true, loops := true, apart := false, narrowed := true }
def SpOrderUptoSaid : Prop := spOrderUptoRow.holds Try.pinned (OpenSpec.upto spOrderSpec)

/-- 'forkwrightkeep.SpNoN', WHERE WHAT IT READS IS OF BULK AT MOST 1048576: true; the input reads as it did. -/
def spNoNUptoRow : OpenClaim := { program := "ytafdpimkfkddaaa", sum := "4d1a77a7410ab6291f7ecf09a1cbbb5b09bac2d3314ee41a44ba3274d6765b4b", func := "forkwright/forkwrightkeep.SpNoN", spec := "spNoN", unfollowed := true, recurses := true, loops := true, apart := false, narrowed := true }
def SpNoNUptoSaid : Prop := spNoNUptoRow.holds Try.pinned (OpenSpec.upto spNoNSpec)

/-- 'forkwrightkeep.SpJoins', WHERE WHAT IT READS IS OF BULK AT MOST 1048576: true; the input reads as it did. -/
def spJoinsUptoRow : OpenClaim := { program := "ytafdpimkfkddaaa", sum := "4d1a77a7410ab6291f7ecf09a1cbbb5b09bac2d3314ee41a44ba3274d6765b4b", func := "forkwright/forkwrightkeep.SpJoins", spec := "spJoins", unfollowed := true, recurses := true, loops := true, apart := false, narrowed := true }
def SpJoinsUptoSaid : Prop := spJoinsUptoRow.holds Try.pinned (OpenSpec.upto spJoinsSpec)

end Rows
end Go.Proofs.Ytafdpimkfkddaaa
