/-
  A word made to hold one bit more, in a row that the call owns. Plain lemmas.
-/
import Derived.Test.YtaboafkpmgadmaaDoorBsOps
import Derived.Test.YtaboafkpmgadmaaDoorBsB
namespace Go.Proofs.YtaboafkpmgadmaaDoor
open Go.RowKit

def lenOf : Value → Nat | .slice _ n _ => n | _ => 0
theorem u64_zero : Value.int .u64 0 = Value.int .u64 ((0 : Nat) : Int) := rfl
theorem put_val (p : Nat → Bool) (k : Nat) (hp : p k = true) : IntKind.u64.wrap ((wd (awl p k) (k / 64) : Int) + IntKind.u64.wrap (2 ^ (k % 64))) = ((wd (awl p k) (k / 64) + 2 ^ (k % 64) : Nat) : Int) := by
  have h := (awl_ok p (k + 1)).1 (k / 64)
  have hl : (awl p k).length ≤ k / 64 + 1 := by have := awl_len p k; omega
  rw [awl_yes p k hp, wd_put _ _ _ hl, if_pos rfl] at h
  have hr : 2 ^ (k % 64) ≤ 2 ^ 63 := Nat.pow_le_pow_right (by omega) (by omega)
  have hr2 : 0 < 2 ^ (k % 64) := Nat.pow_pos (by omega)
  have e : ((2 : Int) ^ (k % 64)) = ((2 ^ (k % 64) : Nat) : Int) := by simp
  rw [e, IntKind.wrap_u64, IntKind.wrap_u64]
  omega
theorem uVals_set (L : List Nat) (i x : Nat) : (uVals L).set i (.int .u64 (x : Int)) = uVals (L.set i x) := by
  unfold uVals; rw [List.map_set]
theorem rel_put {wr : World} {B E g c2 k t : Nat} {p : Nat → Bool} (hown2 : wr.ownsRow B E 1 (.slice (some ⟨g, 0, none⟩) ((awl p k).length + t) c2) ((awl p k).length + t) (uVals (awl p k ++ List.replicate t 0)))
    (hL : (awl p k).length + t = k / 64 + 1) (hp : p k = true) :
    (wr.setCell ⟨g, k / 64, none⟩ (.int .u64 (IntKind.u64.wrap ((wd (awl p k) (k / 64) : Int) + IntKind.u64.wrap (2 ^ (k % 64)))))).drew.ownsRow B E 1 (.slice (some ⟨g, 0, none⟩) ((awl p k).length + t) c2) (awl p (k + 1)).length (uVals (awl p (k + 1))) := by
  have hl : (awl p k).length ≤ k / 64 + 1 := by omega
  have e : awl p k ++ List.replicate t 0 = ext (awl p k) (k / 64) := by unfold ext; rw [show k / 64 + 1 - (awl p k).length = t by omega]
  have h := (hown2.stored (k / 64) (.int .u64 ((wd (awl p k) (k / 64) + 2 ^ (k % 64) : Nat) : Int))).1
  rw [put_val p k hp, awl_yes p k hp, put_len _ _ hl]
  rw [uVals_set, e, hL] at h
  rw [hL]
  exact h.drew
theorem app_zero (L : List Nat) (t : Nat) : (L ++ List.replicate t 0) ++ [0] = L ++ List.replicate (t + 1) 0 := by
  rw [List.append_assoc, List.replicate_succ']
end Go.Proofs.YtaboafkpmgadmaaDoor
