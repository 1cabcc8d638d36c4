/-
  Methods of readers that lie in the embedded sp.patient: how the interface finds them.
-/
import Derived.Test.YtidgibkiacbgfaaSpR
import Derived.RangeFuncBox
namespace Go.Proofs.Ytidgibkiacbgfaa
open Go.RowKit
set_option maxRecDepth 100000

theorem byteOf0 {C : Nat} {w : World} {T : TypeId} {cs : Array Value} {fr : Nat × Nat} (h : w.heap[C]? = some (.cells cs T fr)) (hc : Try.prog.cellsOf T ≠ 0) (hb : byteOfCell Try.prog Try.prog.depth T 0 = some 0) :
    (byteOf ⟨C, 0, none⟩).run Try.prog w = .ok 0 w := by
  have hs : w.shape? C = some (T, cs.size) := by simp [World.shape?, h]
  simp [byteOf, go_sem, hs, hc, hb, noView, viewAt]


end Go.Proofs.Ytidgibkiacbgfaa
