/-
  What the rows of lex list as laid, and what the library's number texts read of it.
-/
import Derived.Test.YtfekcbkafiiieaaDoorLxW
import Derived.Test.YtfekcbkafiiieaaDoorRows
import Derived.Lib.LaidTab
import Derived.Stop.LaidErr
import Derived.OpenShut
import Derived.Lib.TrailingZeros
namespace Go.Proofs.YtfekcbkafiiieaaDoor
open Go.RowKit Go.Shelf

theorem lxStar : "*" ++ "errors.errorString" = "*errors.errorString" := by decide
theorem lxRow (u : TypeId) (h : Tryd.prog.typeName? 3 u = some "*errors.errorString") : u = 89 :=
  typeName_ptr_named (nm := "errors.errorString") (by rw [lxStar]; kernel_rfl) (by kernel_rfl) (by decide) u (by rw [lxStar]; exact h)
theorem lxB32 : Tryd.prog.globalNamed "math/bits.deBruijn32tab" = some 4 := by kernel_rfl
theorem lxPowT : (Tryd.prog.globals[2]?).map (·.type) = some 84 := by kernel_rfl
theorem lxSynT : (Tryd.prog.globals[0]?).map (·.type) = some 45 := by kernel_rfl
theorem lxRngT : (Tryd.prog.globals[1]?).map (·.type) = some 45 := by kernel_rfl
theorem lxCells20 : Tryd.prog.cellsOf 84 = 20 := by kernel_rfl
theorem lxCellsU : Tryd.prog.cellsOf 65 = 1 := by kernel_rfl
theorem lxCellsE : Tryd.prog.cellsOf 91 = 1 := by kernel_rfl
theorem lxCellsS : Tryd.prog.cellsOf 9 = 1 := by kernel_rfl
/-- the list of the rows -/
abbrev lxLaid : List (String × DataW Unit) := [("math/bits.deBruijn32tab", Rows.laid_math_bits_deBruijn32tab), ("math/bits.deBruijn64tab", Rows.laid_math_bits_deBruijn64tab), ("internal/strconv.uint64pow10", Rows.laid_internal_strconv_uint64pow10), ("strconv.ErrRange", Rows.laid_strconv_ErrRange), ("strconv.ErrSyntax", Rows.laid_strconv_ErrSyntax)]
theorem lxw_of {W : World} (h : laidMetH Tryd.prog lxLaid W) : LxW W := by
  have h0 : laidMet Tryd.prog lxLaid W := h
  have h2 := h0.tail.tail
  have h3 := h2.tail
  have h4 := h3.tail
  have hp : Lib.TabIs Tryd.prog W "internal/strconv.uint64pow10" .u64 Lib.pow10Tab := Lib.tabIs_of_head gPow lxPowT Tryd.underlying84 Tryd.underlying65 lxCellsU lxCells20 h2
  obtain ⟨a1, s1, hv1, -, -, -⟩ := laid_sentinel h3 gRng lxRngT Tryd.underlying45 lxRow Tryd.underlying89 Tryd.underlying91 rfl rfl Tryd.underlying9 lxCellsE lxCellsS
  obtain ⟨a2, s2, hv2, -, -, -⟩ := laid_sentinel h4 gSyn lxSynT Tryd.underlying45 lxRow Tryd.underlying89 Tryd.underlying91 rfl rfl Tryd.underlying9 lxCellsE lxCellsS
  exact ⟨⟨_, _, hv2⟩, ⟨_, _, hv1⟩, hp⟩

/-- the settled world with two blocks more, the two errors; the tables as their initialisers lay them -/
noncomputable def lxWorld (os : Os) : World :=
  let w0 := World.holding Tryd.prog os ⟨#[.cells #[.string { data := #[105, 110, 118, 97, 108, 105, 100, 32, 115, 121, 110, 116, 97, 120] }] 91, .cells #[.string { data := #[118, 97, 108, 117, 101, 32, 111, 117, 116, 32, 111, 102, 32, 114, 97, 110, 103, 101] }] 91], #[], []⟩
  let low := (World.holding Tryd.prog default ⟨#[], #[], []⟩).heap.size
  { w0 with heap := ((((w0.heap.modify 0 fun
      | .cells _ t frozen => .cells #[.iface 89 (.pointer (some ⟨low, 0, none⟩))] t frozen
      | o => o).modify 1 fun
      | .cells _ t frozen => .cells #[.iface 89 (.pointer (some ⟨low + 1, 0, none⟩))] t frozen
      | o => o).modify 2 fun
      | .cells _ t frozen => .cells (Lib.pow10Tab.map fun (x : Int) => Value.int .u64 x).toArray t frozen
      | o => o).modify 4 fun
      | .cells _ t frozen => .cells (Lib.deBruijn32tab.map fun (x : Nat) => Value.int .u8 (x : Int)).toArray t frozen
      | o => o).modify 5 fun
      | .cells _ t frozen => .cells (Lib.deBruijn64tab.map fun (x : Nat) => Value.int .u8 (x : Int)).toArray t frozen
      | o => o }
end Go.Proofs.YtfekcbkafiiieaaDoor
