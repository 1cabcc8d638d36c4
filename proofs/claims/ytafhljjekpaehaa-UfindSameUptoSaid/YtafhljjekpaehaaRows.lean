/-
  No cell of these rows narrows 'for every input' (looked for: loops, veiled, ifaces, maps, wideKeys, modest, calm, conditions, laid).
  DERIVED. THE GIVEN ROWS OF THIS SEAT. 4 by the template 'for every input the law returns true; each argument reads behind the call as it read before'; 0 by the template 'total and deterministic' (their statements: YtafhljjekpaehaaTotals.lean).
  GIVEN WITH THE SEED: the statements are not yours to turn. If you find one false, say at which input.
  Laid BY PROGRAM, IN A SANDBOX (cutbox-rows.mjs): the forced cells as the released guide's own fill.sh prints them over the translation 832f62d558cf73ab… (all of the seat's roots in one cut). By AI agents, Wed Nov 11 2026. No macro, syntax, notation, axiom, sorry.
-/
import Derived.Test.YtafhljjekpaehaaChecked
import GoSem.Claim
import GoSem.ClaimJoined
import GoSem.ClaimMapViews
import Derived.JoinedTies
import Derived.KernelRfl
namespace Go.Proofs.Ytafhljjekpaehaa
/- THE CELL 'sum', in the pinned program and in every row, IS THE sha256 OF THE DUMP (.gsa) THAT YtafhljjekpaehaaProg.lean LOADS. Nothing in Lean hashes anything: it is a label: what it is worth is what the hold of that sum in a sandbox is worth. -/
noncomputable def Try.pinned : Pinned := { name := "ytafhljjekpaehaa", sum := "832f62d558cf73ab4dc8db3bdf17f8d85d286c75760bc17d69ab79c9a2f85635", checked := Try.checked }
namespace Rows
def none {H : Type} : Left H := { results := [], args := [] }

/-- 'forkwrightlaw.UfindPlays': WHATEVER THE INPUT: true; the input reads as it did. -/
def ufindPlaysSpec : ChangeSpec := { name := "ufindPlays", fn := fun _ => fun
  | [d1, d2] => { results := [.lit (.bool true)], args := [d1, d2] }
  | _ => none }
def ufindPlaysRow : OpenClaim := { program := "ytafhljjekpaehaa", sum := "832f62d558cf73ab4dc8db3bdf17f8d85d286c75760bc17d69ab79c9a2f85635", func := "forkwright/forkwrightlaw.UfindPlays", spec := "ufindPlays", apart := false }
def UfindPlaysSaid : Prop := ufindPlaysRow.holds Try.pinned (OpenSpec.ofChange ufindPlaysSpec)

/-- ITS FALSE NEIGHBOUR: 'it returns false'. Refute it at one input. -/
def ufindPlaysWrong : ChangeSpec := { name := "ufindPlays", fn := fun _ => fun
  | [d1, d2] => { results := [.lit (.bool false)], args := [d1, d2] }
  | _ => none }
def UfindPlaysWrongFalsely : Prop := ufindPlaysRow.holds Try.pinned (OpenSpec.ofChange ufindPlaysWrong)

/-- 'forkwrightkeep.UfindSame': WHATEVER THE INPUT: true; the input reads as it did. -/
def ufindSameSpec : ChangeSpec := { name := "ufindSame", fn := fun _ => fun
  | [d1, d2, d3, d4, d5] => { results := [.lit (.bool true)], args := [d1, d2, d3, d4, d5] }
  | _ => none }
def ufindSameRow : OpenClaim := { program := "ytafhljjekpaehaa", sum := "832f62d558cf73ab4dc8db3bdf17f8d85d286c75760bc17d69ab79c9a2f85635", func := "forkwright/forkwrightkeep.UfindSame", spec := "ufindSame", unfollowed := true, recurses := true, apart := false }
def UfindSameSaid : Prop := ufindSameRow.holds Try.pinned (OpenSpec.ofChange ufindSameSpec)

/-- ITS FALSE NEIGHBOUR: 'it returns false'. Refute it at one input. -/
def ufindSameWrong : ChangeSpec := { name := "ufindSame", fn := fun _ => fun
  | [d1, d2, d3, d4, d5] => { results := [.lit (.bool false)], args := [d1, d2, d3, d4, d5] }
  | _ => none }
def UfindSameWrongFalsely : Prop := ufindSameRow.holds Try.pinned (OpenSpec.ofChange ufindSameWrong)

/-- 'forkwrightkeep.UfindOrder': WHATEVER THE INPUT: true; the input reads as it did. -/
def ufindOrderSpec : ChangeSpec := { name := "ufindOrder", fn := fun _ => fun
  | [d1, d2, d3, d4] => { results := [.lit (.bool true)], args := [d1, d2, d3, d4] }
  | _ => none }
def ufindOrderRow : OpenClaim := { program := "ytafhljjekpaehaa", sum := "832f62d558cf73ab4dc8db3bdf17f8d85d286c75760bc17d69ab79c9a2f85635", func := "forkwright/forkwrightkeep.UfindOrder", spec := "ufindOrder", apart := false }
def UfindOrderSaid : Prop := ufindOrderRow.holds Try.pinned (OpenSpec.ofChange ufindOrderSpec)

/-- ITS FALSE NEIGHBOUR: 'it returns false'. Refute it at one input. -/
def ufindOrderWrong : ChangeSpec := { name := "ufindOrder", fn := fun _ => fun
  | [d1, d2, d3, d4] => { results := [.lit (.bool false)], args := [d1, d2, d3, d4] }
  | _ => none }
def UfindOrderWrongFalsely : Prop := ufindOrderRow.holds Try.pinned (OpenSpec.ofChange ufindOrderWrong)

/-- 'forkwrightkeep.UfindCount': WHATEVER THE INPUT: true; the input reads as it did. -/
def ufindCountSpec : ChangeSpec := { name := "ufindCount", fn := fun _ => fun
  | [d1, d2] => { results := [.lit (.bool true)], args := [d1, d2] }
  | _ => none }
def ufindCountRow : OpenClaim := { program := "ytafhljjekpaehaa", sum := "832f62d558cf73ab4dc8db3bdf17f8d85d286c75760bc17d69ab79c9a2f85635", func := "forkwright/forkwrightkeep.UfindCount", spec := "ufindCount", apart := false }
def UfindCountSaid : Prop := ufindCountRow.holds Try.pinned (OpenSpec.ofChange ufindCountSpec)

/-- ITS FALSE NEIGHBOUR: 'it returns false'. Refute it at one input. -/
def ufindCountWrong : ChangeSpec := { name := "ufindCount", fn := fun _ => fun
  | [d1, d2] => { results := [.lit (.bool false)], args := [d1, d2] }
  | _ => none }
def UfindCountWrongFalsely : Prop := ufindCountRow.holds Try.pinned (OpenSpec.ofChange ufindCountWrong)

/- THE SECOND FORM. 'bulk': how many values and letters a reading holds, each counted each time it is reached (what is shared counts as often as it is met; a slice's spare places count too). A statement '..UptoSaid' is the law's where the arguments, and the package variables that the reading takes, are together of bulk at most 1048576: NARROWER than '..Said'. Prove '..Said' where nothing that the law and all that it calls make is longer than what came in: it says more and counts as full. Else prove '..UptoSaid'. A law counts once. -/
mutual
def uptoBulk {H : Type} : DataW H → Nat
  | .lit (.string bytes) => bytes.length + 1
  | .lit _ => 1
  | .nil => 1
  | .ptr d => uptoBulk d + 1
  | .slice elems spare => uptoBulkAll elems + uptoBulkAll spare + 1
  | .agg parts => uptoBulkAll parts + 1
  | .iface _ d => uptoBulk d + 1
  | .map entries => uptoBulkEntries entries + 1
  | .held _ => 1
def uptoBulkAll {H : Type} : List (DataW H) → Nat
  | [] => 0
  | d :: r => uptoBulk d + uptoBulkAll r
def uptoBulkEntries {H : Type} : List (Lit × DataW H) → Nat
  | [] => 0
  | x :: r => uptoBulkEntry x + uptoBulkEntries r
def uptoBulkEntry {H : Type} : Lit × DataW H → Nat
  | (.string bytes, d) => bytes.length + uptoBulk d + 1
  | (_, d) => uptoBulk d + 1
 end
def uptoSmall : (H : Type) → List (DataW H) → Bool := fun _ ds => decide (uptoBulkAll ds ≤ 1048576)
def OpenSpec.upto (s : _root_.Go.ChangeSpec) : _root_.Go.OpenSpec := { _root_.Go.OpenSpec.ofChange s with cond := some uptoSmall }

/-- 'forkwrightlaw.UfindPlays', WHERE WHAT IT READS IS OF BULK AT MOST 1048576: true; the input reads as it did. -/
def ufindPlaysUptoRow : OpenClaim := { program := "ytafhljjekpaehaa", sum := "832f62d558cf73ab4dc8db3bdf17f8d85d286c75760bc17d69ab79c9a2f85635", func := "forkwright/forkwrightlaw.UfindPlays", spec := "ufindPlays", apart := false, narrowed := true }
def UfindPlaysUptoSaid : Prop := ufindPlaysUptoRow.holds Try.pinned (OpenSpec.upto ufindPlaysSpec)

/-- 'forkwrightkeep.UfindSame', WHERE WHAT IT READS IS OF BULK AT MOST 1048576: true; the input reads as it did. -/
def ufindSameUptoRow : OpenClaim := { program := "ytafhljjekpaehaa", sum := "832f62d558cf73ab4dc8db3bdf17f8d85d286c75760bc17d69ab79c9a2f85635", func := "forkwright/forkwrightkeep.UfindSame", spec := "ufindSame", unfollowed := true, recurses := true, apart := false, narrowed := true }
def UfindSameUptoSaid : Prop := ufindSameUptoRow.holds Try.pinned (OpenSpec.upto ufindSameSpec)

/-- 'forkwrightkeep.UfindOrder', WHERE WHAT IT READS IS OF BULK AT MOST 1048576: true; the input reads as it did. -/
def ufindOrderUptoRow : OpenClaim := { program := "ytafhljjekpaehaa", sum := "832f62d558cf73ab4dc8db3bdf17f8d85d286c75760bc17d69ab79c9a2f85635", func := "forkwright/forkwrightkeep.UfindOrder", spec := "ufindOrder", apart := false, narrowed := true }
def UfindOrderUptoSaid : Prop := ufindOrderUptoRow.holds Try.pinned (OpenSpec.upto ufindOrderSpec)

/-- 'forkwrightkeep.UfindCount', WHERE WHAT IT READS IS OF BULK AT MOST 1048576: true; the input reads as it did. -/
def ufindCountUptoRow : OpenClaim := { program := "ytafhljjekpaehaa", sum := "832f62d558cf73ab4dc8db3bdf17f8d85d286c75760bc17d69ab79c9a2f85635", func := "forkwright/forkwrightkeep.UfindCount", spec := "ufindCount", apart := false, narrowed := true }
def UfindCountUptoSaid : Prop := ufindCountUptoRow.holds Try.pinned (OpenSpec.upto ufindCountSpec)

end Rows
end Go.Proofs.Ytafhljjekpaehaa
