/-
  Contracts of bitset.And, Or, Less over bitset.merge, for every two slices of words.
-/
import Derived.Test.YtfekcbkafiiieaaDoorBsA
namespace Go.Proofs.YtfekcbkafiiieaaDoor
open Go.RowKit
set_option maxRecDepth 100000

theorem Tryd.infoU64 : (Tryd.prog.info? 65).map (fun i => (i.zero, i.size, i.bytes)) = some (some (.int .u64 0), 1, 8) := by kernel_rfl

/-- what merge's second loop holds when k words are written -/
def MrgAt (w : World) (base : Nat) (h : Nat → Nat) (n k : Nat) (c : Nat) (g : Nat) : Prop :=
  ∃ L : List Value, w.ownsRow base 65 1 (.slice (some ⟨g, 0, none⟩) n c) n L ∧ (∀ j, j < k → L[j]? = some (.int .u64 (h j : Int))) ∧ L.length = n
theorem MrgAt.cell {w : World} {base n k c g : Nat} {h : Nat → Nat} (H : MrgAt w base h n k c g) (hk : k < n) : ∃ v, w.cell? ⟨g, k, none⟩ = some v := by
  obtain ⟨L, hown, _, hl⟩ := H
  rw [hown.cellAt k (by omega)]
  exact ⟨_, List.getElem?_eq_getElem (by omega)⟩
theorem MrgAt.frozen {w : World} {base n k c g : Nat} {h : Nat → Nat} (H : MrgAt w base h n k c g) : w.frozen? ⟨g, k, none⟩ = false := by
  obtain ⟨L, hown, _, hl⟩ := H
  exact hown.frozenAt k
theorem MrgAt.step {w : World} {base n k c g : Nat} {h : Nat → Nat} (H : MrgAt w base h n k c g) (hk : k < n) : MrgAt (w.setCell ⟨g, k, none⟩ (.int .u64 (h k : Int))) base h n (k + 1) c g := by
  obtain ⟨L, hown, hL, hl⟩ := H
  refine ⟨L.set k (.int .u64 (h k : Int)), (hown.stored k _).1, fun j hj => ?_, by simp [hl]⟩
  by_cases e : j = k
  · subst e; simp [hl, hk]
  · rw [List.getElem?_set_ne (by omega)]; exact hL j (by omega)
theorem MrgAt.base_le {w : World} {base n k c g : Nat} {h : Nat → Nat} (H : MrgAt w base h n k c g) : base ≤ g := by
  obtain ⟨L, hown, _⟩ := H
  exact own_base hown g rfl
theorem MrgAt.done {w : World} {base n c g : Nat} {h : Nat → Nat} (H : MrgAt w base h n n c g) : w.ownsRow base 65 1 (.slice (some ⟨g, 0, none⟩) n c) n (uVals ((List.range n).map h)) := by
  obtain ⟨L, hown, hL, hl⟩ := H
  have e : L = uVals ((List.range n).map h) := by
    apply List.ext_getElem?
    intro j
    by_cases hj : j < n
    · rw [hL j hj, uVals_at _ _ (by simpa using hj), wd_map, if_pos hj]
    · rw [List.getElem?_eq_none (by omega), List.getElem?_eq_none (by rw [uVals_len]; simp; omega)]
  rw [← e]; exact hown


end Go.Proofs.YtfekcbkafiiieaaDoor
