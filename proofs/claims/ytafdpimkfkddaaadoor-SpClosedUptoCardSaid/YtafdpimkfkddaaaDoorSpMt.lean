/-
  Methods of readers that lie in the embedded sp.patient: how the interface finds them.
-/
import Derived.Test.YtafdpimkfkddaaaDoorSpR
import Derived.RangeFuncBox
namespace Go.Proofs.YtafdpimkfkddaaaDoor
open Go.RowKit
set_option maxRecDepth 100000

theorem byteOf0 {C : Nat} {w : World} {T : TypeId} {cs : Array Value} {fr : Nat × Nat} (h : w.heap[C]? = some (.cells cs T fr)) (hc : Tryd.prog.cellsOf T ≠ 0) (hb : byteOfCell Tryd.prog Tryd.prog.depth T 0 = some 0) :
    (byteOf ⟨C, 0, none⟩).run Tryd.prog w = .ok 0 w := by
  have hs : w.shape? C = some (T, cs.size) := by simp [World.shape?, h]
  simp [byteOf, go_sem, hs, hc, hb, noView, viewAt]

theorem isAgg_patient (w : World) : (isAgg 48).run Tryd.prog w = .ok true w := by rfl
theorem sizeOf_patient (w : World) : (Go.sizeOf 48).run Tryd.prog w = .ok 0 w := by rfl
theorem under_patient (w : World) : (underlying 48).run Tryd.prog w = .ok (.struct #[]) w := by rfl

theorem meth_emb {C : Nat} {w : World} {T tp : TypeId} {F : FuncId} {nm : String} {sg : TypeId} {cs : Array Value} {fr : Nat × Nat} {fs : Array Field} {f : Field} (h : w.heap[C]? = some (.cells cs T fr)) (hc : Tryd.prog.cellsOf T ≠ 0)
    (hb : byteOfCell Tryd.prog Tryd.prog.depth T 0 = some 0)
    (hi : (Tryd.prog.info? tp).map (fun i => i.methods.find? (fun x => x.name == nm)) = some (some ⟨nm, sg, #[⟨T, 0, true⟩], some (F, false)⟩))
    (hu : Tryd.prog.underlying T = some (.struct fs)) (hf : fs[0]? = some f) (h1 : f.type = 48) (h2 : f.offset = 0) (h3 : f.byteOffset = 0) (k : Nat) :
    (method (k + 8) tp (.pointer (some ⟨C, 0, none⟩)) nm).run Tryd.prog w = .ok (F, .agg #[]) w := by
  obtain ⟨i, hi1, hi2⟩ := Option.map_eq_some_iff.1 hi
  have hb0 := byteOf0 h hc hb
  unfold method
  simp [typeInfo, go_sem, hi1, hi2, follow, fieldPlace, Place.get, asAddr, partAt, hb0, receiverAt, run_underlying hu, hf, h1, h2, h3, loadCellsFrom]
end Go.Proofs.YtafdpimkfkddaaaDoor
