/-
  The law GraphWrong: graph.Wrong and the reference's BWrong answer the same, for every graph.
-/
import Derived.Test.YtaboafkpmgadmaaDoorGrV
import Derived.Deep.RegionHeld3
import Derived.Deep.DrawnRows
namespace Go.Proofs.YtaboafkpmgadmaaDoor
open Go.RowKit Go.Shelf
set_option maxRecDepth 100000
attribute [local go_sem ↓] Go.wp_at_zero Go.wp_at_succ

/-- the graph's box, and all that lay when it was made, lie as they lay -/
abbrev HeldG (w1 : World) (B : Nat) (N : Int) (A : Option Addr) (l c : Nat) (w' : World) : Prop := w'.cell? ⟨B, 0, none⟩ = some (.int .i64 N) ∧ w'.cell? ⟨B, 1, none⟩ = some (.slice A l c) ∧ Below w1.heap.size w1 w'

theorem HeldG.drew {w1 W : World} {B : Nat} {N : Int} {A : Option Addr} {l c : Nat} (h : HeldG w1 B N A l c W) : HeldG w1 B N A l c W.drew := ⟨h.1, h.2.1, h.2.2.drew⟩
theorem HeldG.step {w1 W w2 : World} {B : Nat} {N : Int} {A : Option Addr} {l c : Nat} (h : HeldG w1 B N A l c W) (hs : B < w1.heap.size) (hb : Below W.heap.size W w2) : HeldG w1 B N A l c w2 := by
  have hlt : B < W.heap.size := Nat.lt_of_lt_of_le hs h.2.2.size
  exact ⟨(hb.cell (p := ⟨B, 0, none⟩) hlt).trans h.1, (hb.cell (p := ⟨B, 1, none⟩) hlt).trans h.2.1, h.2.2.trans (hb.mono h.2.2.size)⟩

end Go.Proofs.YtaboafkpmgadmaaDoor
