/-
  The reference's list of a set, for every slice of at most 2^20 words.
-/
import Derived.Test.YtaboafkpmgadmaaDoorBsOnes
import Derived.Maps.AppendAt
namespace Go.Proofs.YtaboafkpmgadmaaDoor
open Go.RowKit
set_option maxRecDepth 100000

theorem Tryd.infoInt : (Tryd.prog.info? 3).map (fun i => (i.zero, i.size, i.bytes)) = some (some (.int .i64 0), 1, 8) := by kernel_rfl
theorem Tryd.infoU64 : (Tryd.prog.info? 54).map (fun i => (i.zero, i.size, i.bytes)) = some (some (.int .u64 0), 1, 8) := by kernel_rfl

/-- the numbers below n that are in xs -/
def alist (xs : List Nat) (n : Nat) : List Int := ((List.range n).filter (bitB xs)).map fun (k : Nat) => (k : Int)
theorem alist_yes (xs : List Nat) (n : Nat) (h : bitB xs n = true) : alist xs (n + 1) = alist xs n ++ [(n : Int)] := by
  unfold alist; rw [List.range_succ, List.filter_append]; simp [h]
theorem alist_no (xs : List Nat) (n : Nat) (h : bitB xs n = false) : alist xs (n + 1) = alist xs n := by
  unfold alist; rw [List.range_succ, List.filter_append]; simp [h]
theorem alist_le (xs : List Nat) (n : Nat) : (alist xs n).length ≤ n := by
  unfold alist
  rw [List.length_map]
  exact Nat.le_trans (List.length_filter_le _ _) (by simp)

theorem cnt_snoc (n x : Nat) : cnt (n + 1) x = cnt n x + x / 2 ^ n % 2 := by
  induction n generalizing x with
  | zero => simp [cnt]
  | succ n ih =>
    have h := ih (x / 2)
    have e : x / 2 / 2 ^ n = x / 2 ^ (n + 1) := by rw [Nat.div_div_eq_div_mul, Nat.pow_succ, Nat.mul_comm]
    rw [e] at h
    show x % 2 + cnt (n + 1) (x / 2) = (x % 2 + cnt n (x / 2)) + _
    rw [h]
    omega
theorem alist_word (xs : List Nat) (k j : Nat) (hj : j ≤ 64) : (alist xs (64 * k + j)).length = (alist xs (64 * k)).length + cnt j (wd xs k) := by
  induction j with
  | zero => simp [cnt]
  | succ j ih =>
    have h := ih (by omega)
    have e1 : (64 * k + j) / 64 = k := by omega
    have e2 : (64 * k + j) % 64 = j := by omega
    have hb : bitB xs (64 * k + j) = decide (wd xs k / 2 ^ j % 2 = 1) := by unfold bitB; rw [e1, e2, bit_div]
    rw [cnt_snoc, ← Nat.add_assoc]
    by_cases hd : wd xs k / 2 ^ j % 2 = 1
    · rw [alist_yes xs _ (by rw [hb]; simpa using hd), List.length_append, h, hd]; simp; omega
    · rw [alist_no xs _ (by rw [hb]; simpa using hd), h]; omega
theorem alist_ones (xs : List Nat) (k : Nat) : (alist xs (64 * k)).length = ones xs k := by
  induction k with
  | zero => rfl
  | succ k ih => rw [show 64 * (k + 1) = 64 * k + 64 by omega, alist_word xs k 64 (by omega), ih]; rfl

theorem alist_any (A : Option Addr) (c : Nat) (xs : List Nat) (w : World) (hx : RdU w w.heap.size A xs) (hroom : xs.length ≤ 1048576) :
    Calls Tryd.prog 108 #[.slice A xs.length c] w fun e w' => ∃ v, e = .returned v ∧ w'.ownsRow w.heap.size 3 1 v (alist xs (64 * xs.length)).length (iVals (alist xs (64 * xs.length))) ∧ Below w.heap.size w w' := by
  obtain ⟨i0, hi, hz0, hz1, hz2⟩ := info_parts Tryd.infoInt
  go_enter Tryd.func108, Tryd.ntmps108
  go_wp2
  go_loopw [3, 8] (fun v i wr => ∃ k : Nat, k ≤ 64 * xs.length ∧ i = .int .i64 k ∧ wr.ownsRow w.heap.size 3 1 v (alist xs k).length (iVals (alist xs k)) ∧ Below w.heap.size w wr) (fun _ i _ => 64 * xs.length - (intOf i).toNat)
  case atStart => exact ⟨0, Nat.zero_le _, rfl, World.ownsRow_nil _ _ _ _, Below.refl _ _⟩
  case round =>
    obtain ⟨k, hk, rfl, hown, hB⟩ := hrel
    have hle := alist_le xs k
    by_cases hlt : k < 64 * xs.length
    · have hxr := hx.below hB
      have hsz := hB.size
      have hxr' : RdU wr wr.heap.size A xs := hxr.more hsz
      clear hxr
      by_cases hbit : bitB xs k = true
      · have hy := Lib.hid (alist_yes xs k hbit)
        have h3 : (alist xs k).length + 1 ≤ maxLen := by unfold maxLen; omega
        have h4 : ((alist xs k).length + 1) * 8 ≤ 140737488355328 := by omega
        have h5 : w.heap.size ≤ (wr.alloc (.cells #[.int .i64 (k : Int)] 3)).heap.size := by simp; omega
        go_wp2_with (first | (go_at_call 119; refine (abit_any _ _ _ _ _ hxr' (by omega)).mono ?_; rw [hbit]; rintro e w' ⟨rfl, rfl⟩) | (at_builtin; refine wpList_append_own _ rfl _ _ 25 rfl w.heap.size 3 i0 (.int .i64 0) 1 8 Tryd.underlying25 hi hz0 hz1 hz2 rfl (by decide) _ _ _ rfl (hown.alloc _) ⟨wr.heap.size, 0, none⟩ 1 1 [.int .i64 k] rfl rfl (cell_one_new _ _ _) (by simp [Value.oneCell']) h3 h4 h5 ?_; intro v' w1 hown' hgrow _))
        have hB1 := below_app hB hsz hown hgrow
        rw [iVals_snoc, ← hy.out] at hown'
        have he : (alist xs k).length + 1 = (alist xs (k + 1)).length := by rw [hy.out]; simp
        rw [he] at hown'
        clear he hgrow
        go_roundw
        case rel => exact ⟨k + 1, by omega, by go_num, hown', hB1⟩
        case measure => simp [intOf]; omega
      · have hbit' : bitB xs k = false := by simpa using hbit
        have hy := Lib.hid (alist_no xs k hbit')
        go_wp2_with (go_at_call 119; refine (abit_any _ _ _ _ _ hxr' (by omega)).mono ?_; rw [hbit']; rintro e w' ⟨rfl, rfl⟩)
        go_roundw
        case rel => exact ⟨k + 1, by omega, by go_num, by rw [hy.out]; exact hown, hB⟩
        case measure => simp [intOf]; omega
    · go_wp2
      go_ret
      have e : k = 64 * xs.length := by omega
      subst e
      exact ⟨_, rfl, hown, hB⟩
end Go.Proofs.YtaboafkpmgadmaaDoor
