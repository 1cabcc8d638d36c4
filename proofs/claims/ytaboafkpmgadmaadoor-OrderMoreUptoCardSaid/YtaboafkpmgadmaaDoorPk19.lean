/-
  An edge that comes in as an argument: what its reading as data says. No condition.
-/
import Derived.Test.YtaboafkpmgadmaaDoorPk17
namespace Go.Proofs.YtaboafkpmgadmaaDoor
open Go.ChangeShapes Go.WideShapes Go.ChangeAt Go.RowKit Go.Deep Go.Joins

theorem open_edge {H : Type} {enc : TypeId × Value → H} {P : Program} {W : World} {r : Reach} {b0 : Nat} {te : TypeId} {g0 g1 : Field} {v : Value} {d : DataW H} {p : List MemPlace}
    (hte : P.underlying te = some (.struct #[g0, g1])) (hone : oneCellFields P #[g0, g1] = true) (hC : P.cellsOf te = 2) (i0 : P.underlying g0.type = some (.int .i64)) (i1 : P.underlying g1.type = some (.int .i64))
    (hv : Value.okWide P W r b0 te v) (h : DataW.Trod enc P W 0 (fun _ => true) true te v d p) :
    ∃ (x y : Int), v = .agg #[.int .i64 x, .int .i64 y] ∧ (-9223372036854775808 ≤ x ∧ x ≤ 9223372036854775807) ∧ (-9223372036854775808 ≤ y ∧ y ≤ 9223372036854775807) := by
  obtain ⟨v0, v1, y0, y1, n, rfl, rfl, rfl, h0, h1⟩ := open_agg2 hte hone hC hv h
  obtain ⟨x, e0, _, w0⟩ := DataW.trod_int i0 h0
  obtain ⟨y, e1, _, w1⟩ := DataW.trod_int i1 h1
  simp at e0 e1
  subst e0
  subst e1
  exact ⟨x, y, rfl, bounds_i64 w0, bounds_i64 w1⟩
end Go.Proofs.YtaboafkpmgadmaaDoor
