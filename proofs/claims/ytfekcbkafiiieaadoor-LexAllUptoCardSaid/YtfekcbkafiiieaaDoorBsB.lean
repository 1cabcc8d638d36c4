/-
  The reference's list of a set, for every slice of at most 2^20 words.
-/
import Derived.Test.YtfekcbkafiiieaaDoorBsOnes
import Derived.Maps.AppendAt
namespace Go.Proofs.YtfekcbkafiiieaaDoor
open Go.RowKit
set_option maxRecDepth 100000

theorem Tryd.infoInt : (Tryd.prog.info? 3).map (fun i => (i.zero, i.size, i.bytes)) = some (some (.int .i64 0), 1, 8) := by kernel_rfl
theorem Tryd.infoU64 : (Tryd.prog.info? 65).map (fun i => (i.zero, i.size, i.bytes)) = some (some (.int .u64 0), 1, 8) := by kernel_rfl

/-- the numbers below n that are in xs -/
def alist (xs : List Nat) (n : Nat) : List Int := ((List.range n).filter (bitB xs)).map fun (k : Nat) => (k : Int)
theorem alist_yes (xs : List Nat) (n : Nat) (h : bitB xs n = true) : alist xs (n + 1) = alist xs n ++ [(n : Int)] := by
  unfold alist; rw [List.range_succ, List.filter_append]; simp [h]
theorem alist_no (xs : List Nat) (n : Nat) (h : bitB xs n = false) : alist xs (n + 1) = alist xs n := by
  unfold alist; rw [List.range_succ, List.filter_append]; simp [h]
theorem alist_le (xs : List Nat) (n : Nat) : (alist xs n).length ≤ n := by
  unfold alist
  rw [List.length_map]
  exact Nat.le_trans (List.length_filter_le _ _) (by simp)

theorem cnt_snoc (n x : Nat) : cnt (n + 1) x = cnt n x + x / 2 ^ n % 2 := by
  induction n generalizing x with
  | zero => simp [cnt]
  | succ n ih =>
    have h := ih (x / 2)
    have e : x / 2 / 2 ^ n = x / 2 ^ (n + 1) := by rw [Nat.div_div_eq_div_mul, Nat.pow_succ, Nat.mul_comm]
    rw [e] at h
    show x % 2 + cnt (n + 1) (x / 2) = (x % 2 + cnt n (x / 2)) + _
    rw [h]
    omega
theorem alist_word (xs : List Nat) (k j : Nat) (hj : j ≤ 64) : (alist xs (64 * k + j)).length = (alist xs (64 * k)).length + cnt j (wd xs k) := by
  induction j with
  | zero => simp [cnt]
  | succ j ih =>
    have h := ih (by omega)
    have e1 : (64 * k + j) / 64 = k := by omega
    have e2 : (64 * k + j) % 64 = j := by omega
    have hb : bitB xs (64 * k + j) = decide (wd xs k / 2 ^ j % 2 = 1) := by unfold bitB; rw [e1, e2, bit_div]
    rw [cnt_snoc, ← Nat.add_assoc]
    by_cases hd : wd xs k / 2 ^ j % 2 = 1
    · rw [alist_yes xs _ (by rw [hb]; simpa using hd), List.length_append, h, hd]; simp; omega
    · rw [alist_no xs _ (by rw [hb]; simpa using hd), h]; omega
theorem alist_ones (xs : List Nat) (k : Nat) : (alist xs (64 * k)).length = ones xs k := by
  induction k with
  | zero => rfl
  | succ k ih => rw [show 64 * (k + 1) = 64 * k + 64 by omega, alist_word xs k 64 (by omega), ih]; rfl

end Go.Proofs.YtfekcbkafiiieaaDoor
