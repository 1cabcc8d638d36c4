/-
  Contract of sp.Leaves.
-/
import Derived.Test.YtidgibkiacbgfaaSpMt
import Derived.Deep.AppendLies
import Derived.Deep.RegionLaw
namespace Go.Proofs.Ytidgibkiacbgfaa
open Go.RowKit
set_option maxRecDepth 100000

/-- the cells of a list of accesses -/
def accs (xs : List Acc) : List Value := xs.flatMap fun a => [.int .i64 a.1, .bool a.2.1, .int .i64 a.2.2]
theorem accs_snoc (xs : List Acc) (a : Acc) : accs (xs ++ [a]) = accs xs ++ [.int .i64 a.1, .bool a.2.1, .int .i64 a.2.2] := by simp [accs]


theorem Try.infoAcc : (Try.prog.info? 23).map (fun i => (i.zero, i.size, i.bytes)) = some (some (.agg #[.int .i64 0, .bool false, .int .i64 0]), 3, 24) := by kernel_rfl


/-- one is appended to the row that lies in the box -/
theorem coll_step {C size k m : Nat} {T E : TypeId} {xs ys : List Value} {W w1 : World} {v v' : Value} {tmp : Obj} (hv : Boxed W C T v) (hTE : T ≠ E) (hrow : W.ownsRow (C + 1) E size v k xs)
    (hown' : w1.ownsRow (C + 1) E size v' m ys) (hgrow : (W.alloc tmp).drew.grownBy w1 v.ownBlock) :
    Boxed (w1.setCell ⟨C, 0, none⟩ v') C T v' ∧ (w1.setCell ⟨C, 0, none⟩ v').ownsRow (C + 1) E size v' m ys ∧ Below C W (w1.setCell ⟨C, 0, none⟩ v') := by
  have hv0 : Boxed (W.alloc tmp).drew C T v := hv.alloc tmp
  have hv1 : Boxed w1 C T v := hv0.kept hgrow (hv.not_row hTE hrow)
  refine ⟨hv1.set v', hown'.kept (grownBy_setCell' w1 C v') (.inr (hv1.not_row hTE hown').symm), ?_⟩
  have hlt := hv.lt
  exact ((((Below.refl C W).alloc (by omega) tmp).drew).grown hgrow (by simp; omega) fun j ej => by have := (hrow.lt j ej).1; omega).setCell (p := ⟨C, 0, none⟩) (Nat.le_refl _) v'

end Go.Proofs.Ytidgibkiacbgfaa
