/-
  bitset.And, Or and Less by their merge, for every two slices of words; slices.Equal at two slices with the same words; what stays when memory grows.
-/
import Derived.Test.YtfekcbkafiiieaaDoorBsC
namespace Go.Proofs.YtfekcbkafiiieaaDoor
open Go.RowKit
set_option maxRecDepth 100000

/-- what came before stays, and lies below the new size -/
theorem RdU.step {w w' : World} {A : Option Addr} {xs : List Nat} (h : RdU w w.heap.size A xs) (hb : Below w.heap.size w w') : RdU w' w'.heap.size A xs := (h.below hb).more hb.size
theorem below_drewN {B : Nat} {a w : World} (h : Below B a w) (n : Nat) : Below B a (w.drewN n) := ⟨h.os, h.tape, h.output, h.size, h.block⟩
theorem below_step {B : Nat} {W w w' : World} (hb : Below B W w) (hs : B ≤ w.heap.size) (h : Below w.heap.size w w') : Below B W w' := hb.trans (h.mono hs)

end Go.Proofs.YtfekcbkafiiieaaDoor
