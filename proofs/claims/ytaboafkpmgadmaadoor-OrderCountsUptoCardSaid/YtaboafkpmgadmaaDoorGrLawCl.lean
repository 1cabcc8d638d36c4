/-
  The law GraphClosed: the closure of the closure is it; it holds the graph's edges; the core has the same closure, and the closure the same core.
-/
import Derived.Test.YtaboafkpmgadmaaDoorGrEq
namespace Go.Proofs.YtaboafkpmgadmaaDoor
open Go.RowKit Go.Shelf
set_option maxRecDepth 100000

theorem GB.step {T : TypeId} {W W' : World} {B : Nat} {x : Int} {v : Value} (h : GB T W B x v) (hb : Below W.heap.size W W') : GB T W' B x v := (hb.block B h.lt).trans h

end Go.Proofs.YtaboafkpmgadmaaDoor
