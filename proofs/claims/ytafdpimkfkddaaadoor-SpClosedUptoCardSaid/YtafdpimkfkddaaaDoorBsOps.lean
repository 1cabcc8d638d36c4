/-
  bitset.And, Or and Less by their merge, for every two slices of words; slices.Equal at two slices with the same words; what stays when memory grows.
-/
import Derived.Test.YtafdpimkfkddaaaDoorBsC
namespace Go.Proofs.YtafdpimkfkddaaaDoor
open Go.RowKit
set_option maxRecDepth 100000

/-- what came before stays, and lies below the new size -/
theorem RdU.step {w w' : World} {A : Option Addr} {xs : List Nat} (h : RdU w w.heap.size A xs) (hb : Below w.heap.size w w') : RdU w' w'.heap.size A xs := (h.below hb).more hb.size
theorem below_drewN {B : Nat} {a w : World} (h : Below B a w) (n : Nat) : Below B a (w.drewN n) := ⟨h.os, h.tape, h.output, h.size, h.block⟩
theorem below_step {B : Nat} {W w w' : World} (hb : Below B W w) (hs : B ≤ w.heap.size) (h : Below w.heap.size w w') : Below B W w' := hb.trans (h.mono hs)



theorem oporN_any (A A' : Option Addr) (c c' : Nat) (xs ys : List Nat) (w : World) (hx : RdU w w.heap.size A xs) (hy : RdU w w.heap.size A' ys) (hxl : xs.length ≤ 35184372088832) (hyl : ys.length ≤ 35184372088832) :
    Calls Tryd.prog 34 #[.slice A xs.length c, .slice A' ys.length c'] w fun e w' => ∃ A1 c1, e = .returned (.slice A1 (mrg orN xs ys).length c1) ∧ RdU w' w'.heap.size A1 (mrg orN xs ys) ∧ Below w.heap.size w w' := by
  go_enter Tryd.func34, Tryd.ntmps34
  go_wp2_with fail
  refine (mergeorN_any A A' c c' xs ys _ hx hy hxl hyl).mono ?_
  rintro e w1 ⟨v, rfl, hown, hB⟩
  have hle := mrg_le orN xs ys
  obtain ⟨A1, c1, rfl, hr⟩ := own_rdU hown (fun k => by rw [mrg_wd rfl]; exact orN_lt _ _ (hx.lt k) (hy.lt k)) (by omega)
  clear hown
  go_wp2
  go_ret
  exact ⟨_, _, rfl, hr, hB⟩

end Go.Proofs.YtafdpimkfkddaaaDoor
