/-
  Contract of sp.Leaves: the accesses of a term's leaves.
-/
import Derived.Test.YtidgibkiacbgfaaSpC
namespace Go.Proofs.Ytidgibkiacbgfaa
open Go.RowKit
set_option maxRecDepth 100000

/-- block C is a reader's box -/
def BoxT (C : Nat) (T : TypeId) (w : World) : Prop := ∃ cs, w.heap[C]? = some (.cells cs T (0, 0))

theorem Meth.direct {C : Nat} {T tp : TypeId} {nm : String} {F : FuncId} (h1 : ∀ k w, (nilAhead (k + 8) tp (.pointer (some ⟨C, 0, none⟩)) nm).run Try.prog w = .ok (some false) w)
    (h2 : ∀ k w, (method (k + 8) tp (.pointer (some ⟨C, 0, none⟩)) nm).run Try.prog w = .ok (F, .pointer (some ⟨C, 0, none⟩)) w) (h3 : ∀ args w, (callFunc F args).run Try.prog w = .ok (.enter F args) w) :
    Meth Try.prog (BoxT C T) tp (.pointer (some ⟨C, 0, none⟩)) nm F (.pointer (some ⟨C, 0, none⟩)) := ⟨h1, fun k w _ => h2 k w, h3⟩




theorem told_coll (T : Tm) : ∀ (s : List Acc) (n : Nat), T.told (fun (s : List Acc) _ a => (s ++ [a], true)) (fun s _ _ _ => s) (fun s _ _ _ => s) s n = (s ++ T.lv, n + T.sz, true) := by
  induction T with
  | nil => intro s n; simp [Tm.told, Tm.lv, Tm.sz]
  | one a => intro s n; simp [Tm.told, Tm.lv, Tm.sz]
  | seq l r il ir => intro s n; simp only [Tm.told, il, both2, ir, Tm.lv, Tm.sz, List.append_assoc, Nat.add_assoc]
  | par l r il ir => intro s n; simp only [Tm.told, il, both2, ir, Tm.lv, Tm.sz, List.append_assoc, Nat.add_assoc]

end Go.Proofs.Ytidgibkiacbgfaa
