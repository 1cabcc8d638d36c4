/-
  slices.Equal over ints, for every two slices of ints.
-/
import Derived.Test.YtmnhdboakpaibaaBsOps
namespace Go.Proofs.Ytmnhdboakpaibaa
open Go.RowKit
set_option maxRecDepth 100000

theorem ext_zd (xs ys : List Int) (hl : xs.length = ys.length) (h : ∀ k, k < xs.length → zd xs k = zd ys k) : xs = ys := by
  apply List.ext_getElem hl
  intro i h1 h2
  have := h i h1
  unfold zd at this
  simpa [List.getD, h1, h2] using this
theorem RdI.step {w w' : World} {A : Option Addr} {xs : List Int} (h : RdI w w.heap.size A xs) (hb : Below w.heap.size w w') : RdI w' w'.heap.size A xs := (h.below hb).more hb.size

theorem equalU_b (A A' : Option Addr) (c c' : Nat) (xs ys : List Nat) (w : World) (hx : RdU w w.heap.size A xs) (hy : RdU w w.heap.size A' ys) :
    Calls Try.prog 9 #[.slice A xs.length c, .slice A' ys.length c'] w fun e w' => e = .returned (.bool (decide (xs = ys))) ∧ Below w.heap.size w w' :=
  (equalU_any A A' c c' xs ys w hx hy).mono fun _ _ ⟨he, n, hw⟩ => ⟨he, by rw [hw]; exact below_drewN (Below.refl _ _) n⟩
end Go.Proofs.Ytmnhdboakpaibaa
