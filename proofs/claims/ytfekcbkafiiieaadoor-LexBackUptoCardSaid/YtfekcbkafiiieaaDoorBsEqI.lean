/-
  slices.Equal over ints, for every two slices of ints.
-/
import Derived.Test.YtfekcbkafiiieaaDoorBsOps
namespace Go.Proofs.YtfekcbkafiiieaaDoor
open Go.RowKit
set_option maxRecDepth 100000

theorem ext_zd (xs ys : List Int) (hl : xs.length = ys.length) (h : ∀ k, k < xs.length → zd xs k = zd ys k) : xs = ys := by
  apply List.ext_getElem hl
  intro i h1 h2
  have := h i h1
  unfold zd at this
  simpa [List.getD, h1, h2] using this
theorem RdI.step {w w' : World} {A : Option Addr} {xs : List Int} (h : RdI w w.heap.size A xs) (hb : Below w.heap.size w w') : RdI w' w'.heap.size A xs := (h.below hb).more hb.size

end Go.Proofs.YtfekcbkafiiieaaDoor
