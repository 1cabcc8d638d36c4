/-
  Contract of sp.Before: is leaf i ahead of leaf j?
-/
import Derived.Test.YtidgibkiacbgfaaSpL
namespace Go.Proofs.Ytidgibkiacbgfaa
open Go.RowKit



/-- what a series tells the asker -/
def askS (i j : Int) (p : Bool) (x m t : Nat) : Bool := p || (decide ((x : Int) ≤ i) && decide (i < (m : Int)) && decide ((m : Int) ≤ j) && decide (j < (t : Int)))



theorem told_ask (i j : Int) (T : Tm) : ∀ (s : Bool) (n : Nat), T.told (fun (s : Bool) _ _ => (s, true)) (askS i j) (fun s _ _ _ => s) s n = (s || T.ask n i j, n + T.sz, true) := by
  induction T with
  | nil => intro s n; simp [Tm.told, Tm.ask, Tm.sz]
  | one a => intro s n; simp [Tm.told, Tm.ask, Tm.sz]
  | seq l r il ir =>
    intro s n
    simp only [Tm.told, il, both2, ir, Tm.ask, Tm.sz, askS, Nat.add_assoc, Int.natCast_add, Bool.or_assoc, Int.add_assoc]
  | par l r il ir =>
    intro s n
    simp only [Tm.told, il, both2, ir, Tm.ask, Tm.sz, Nat.add_assoc, Int.natCast_add, Bool.or_assoc]

end Go.Proofs.Ytidgibkiacbgfaa
