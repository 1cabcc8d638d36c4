/-
  The two iterators of package bitset (allowed: the numbers of a list that are between 0 and 65535; elements: the numbers of a set), for every loop body; no condition but the set's size.
  Words bit by bit, from the lowest: plain arithmetic, no condition but a word's 64 bits.
  The iterator elements of package bitset: the numbers of a set from the lowest, for every loop body, for every set of at most 2^20 words, where the library's table holds its own numbers.
  bitset.List answers the set's numbers in increasing order, for every set of at most 2^20 words, where the library's table holds its own numbers.
-/
import Derived.RangeFuncBox
import Derived.RangeFuncBound
import Derived.RangeFuncCalls
import Derived.RangeFuncLeaves
import Derived.Shelf.Abstract
import Derived.Shelf.RegionOpen
import Derived.OwnWalkIn
import Derived.TacticsInMore
import Derived.LoopNIn
import Derived.LoopIn
import Derived.Test.YtipihchlhkjdjaaDoorPk03
import Derived.Lib.TrailingZeros
import Derived.Maps.AppendAt
import Derived.RangeFuncNested
namespace Go.Proofs.YtipihchlhkjdjaaDoor
open Go.RowKit Go.Shelf
set_option maxRecDepth 100000

attribute [local go_sem] Oper.semAt_some

/-- a number below G -/
abbrev Num (G : Nat) := { x : Nat // x < G }
/-- the numbers of a list that a set may have -/
def okN (z : Int) : Option Nat := if 0 ≤ z ∧ z ≤ 65535 then some z.toNat else none
def alw (zs : List Int) : List Nat := zs.filterMap okN
def vals {G : Nat} (l : List (Num G)) : List Nat := l.map Subtype.val
theorem vals_snoc {G : Nat} (l : List (Num G)) (x : Num G) : vals (l ++ [x]) = vals l ++ [x.1] := by simp [vals]
theorem vals_len {G : Nat} (l : List (Num G)) : (vals l).length = l.length := by simp [vals]
theorem take_snoc (zs : List Int) (k : Nat) (h : k < zs.length) : zs.take (k + 1) = zs.take k ++ [zd zs k] := by
  rw [List.take_succ_eq_append_getElem h]; unfold zd; simp [List.getD, h]
theorem alw_yes (zs : List Int) (k : Nat) (h : k < zs.length) (x : Nat) (hx : zd zs k = (x : Int)) (hl : x ≤ 65535) : alw (zs.take (k + 1)) = alw (zs.take k) ++ [x] := by
  have e : okN (x : Int) = some x := by
    unfold okN
    rw [if_pos ⟨by omega, by omega⟩]
    simp
  unfold alw
  rw [take_snoc zs k h, List.filterMap_append, hx]
  simp [e]
theorem alw_no (zs : List Int) (k : Nat) (h : k < zs.length) (hx : ¬ (0 ≤ zd zs k ∧ zd zs k ≤ 65535)) : alw (zs.take (k + 1)) = alw (zs.take k) := by
  unfold alw
  rw [take_snoc zs k h, List.filterMap_append]
  simp [okN, hx]
theorem alw_len (zs : List Int) (k : Nat) : (alw (zs.take k)).length ≤ k := by
  unfold alw
  have h1 := List.length_filterMap_le okN (zs.take k)
  have h2 := List.length_take_le k zs
  omega

set_option maxRecDepth 100000 in
set_option maxHeartbeats 2000000 in
theorem allowed1_in (F : Fence) (n : Nat) (h7 : F.fn 78) (hro : F.round = none) (hn : 1 ≤ n) (l Bs n₀ cap : Nat) (A : Option Addr) (zs : List Int) (G : Nat) (hG : ∀ k, k < zs.length → 0 ≤ zd zs k → zd zs k ≤ 65535 → zd zs k < (G : Int)) (J Jx : List (Num G) → World → Prop)
    (hY : ∀ pre x W, J pre W → pre.length < zs.length → YieldAt F (n - 1) Tryd.prog l #[.int .i64 (x.1 : Int)] W fun e W' =>
      (e = .returned (.bool true) ∧ J (pre ++ [x]) W' ∧ Below n₀ W W') ∨ (e = .returned (.bool false) ∧ Jx (pre ++ [x]) W'))
    (W : World) (hBs : W.cell? ⟨Bs, 0, none⟩ = some (.slice A zs.length cap)) (hx : RdI W n₀ A zs) (h0 : J [] W) :
    CallsIn F n Tryd.prog 78 #[.func (.yield l) #[] #[], .pointer (some ⟨Bs, 0, none⟩)] W fun e W' => (∃ v, e = .returned v) ∧
      ((∃ ys, vals ys = alw zs ∧ J ys W') ∨ (∃ pre, True ∧ Jx pre W')) := by
  have hroom := hx.room
  refine callsIn_of_wp Tryd.func78 rfl h7 ?_ hro
  simp only [Tryd.ntmps78, List.size_toArray, List.length_cons, List.length_nil, Nat.reduceAdd, Nat.reduceSub, Array.replicate_succ, Array.replicate_zero, List.push_toArray, List.append_toArray, List.nil_append, List.cons_append]
  gi_wp2
  gi_loopw [7] (fun i wr => ∃ k : Nat, k ≤ zs.length ∧ i = .int .i64 k ∧ (∃ ys, Hid (vals ys = alw (zs.take k)) ∧ J ys wr) ∧ Below n₀ W wr)
    (fun i _ => zs.length - (intOf i).toNat)
  case atStart => exact ⟨0, Nat.zero_le _, rfl, ⟨[], rfl, h0⟩, Below.refl _ _⟩
  case round =>
    obtain ⟨k, hk, rfl, ⟨ys, hys, hJs⟩, hnx⟩ := hrel
    by_cases hlt : k < zs.length
    · obtain ⟨b, off, rfl, hb, hc⟩ := hx.rd (by omega)
      have hci : wr.cell? ⟨b, off + k, none⟩ = some (.int .i64 (zd zs k)) := (hnx.cell (p := ⟨b, off + k, none⟩) hb).trans (hc k hlt)
      clear hc
      by_cases hz : 0 ≤ zd zs k ∧ zd zs k ≤ 65535
      · have hg := hG k hlt hz.1 hz.2
        obtain ⟨x, hxe, hx2⟩ : ∃ x : Num G, zd zs k = (x.1 : Int) ∧ x.1 ≤ 65535 := ⟨⟨(zd zs k).toNat, by omega⟩, by show _ = (((zd zs k).toNat : Nat) : Int); omega, by show (zd zs k).toNat ≤ 65535; omega⟩
        have hyes := Lib.hid (alw_yes zs k hlt x.1 hxe hx2)
        have hyl : ys.length ≤ k := by have h1 := vals_len ys; rw [hys.out] at h1; have := alw_len zs k; omega
        clear hg
        rw [hxe] at hci
        clear hz hxe
        obtain ⟨fn, tmps, assign, body, hy, hR⟩ := hY _ x wr hJs (by omega)
        gi_wp2
        refine hR.mono ?_
        rintro e W3 (⟨rfl, hJ3, hk3⟩ | ⟨rfl, hJx3⟩)
        · gi_wp2
          go_roundw
          case rel => exact ⟨k + 1, by omega, by simp, ⟨_, by rw [hyes.out, ← hys.out]; exact vals_snoc _ _, hJ3⟩, hnx.trans hk3⟩
          case measure => simp [intOf]; omega
        · gi_wp2
          refine bodyPost_ret (results_none rfl _ _ _) rfl ?_
          exact ⟨⟨_, rfl⟩, .inr ⟨_, trivial, hJx3⟩⟩
      · have hno := Lib.hid (alw_no zs k hlt hz)
        rcases (show zd zs k < 0 ∨ 65535 < zd zs k by omega) with h | h
        all_goals
          clear hz
          gi_wp2
          refine ⟨fun _ h => (by cases h), ?_⟩
          gi_wp2
          go_roundw
          case rel => exact ⟨k + 1, by omega, by simp, ⟨ys, by rw [hno.out]; exact hys, hJs⟩, hnx⟩
          case measure => simp [intOf]; omega
    · obtain rfl : k = zs.length := by omega
      gi_wp2
      go_end0
      exact ⟨⟨_, rfl⟩, .inl ⟨_, by have := hys.out; rwa [List.take_length] at this, hJs⟩⟩

set_option maxHeartbeats 1000000 in
theorem allowed_in (F : Fence) (n : Nat) (h5 : F.fn 65) (hro : F.round = none) (a : Option Addr) (len cap : Nat) (w : World) :
    CallsIn F n Tryd.prog 65 #[.slice a len cap] w fun e w' => e = .returned (.func (.func 78) #[] #[.pointer (some ⟨w.heap.size, 0, none⟩)]) ∧ w' = w.alloc (.cells #[.slice a len cap] 34) := by
  refine callsIn_of_wp Tryd.func65 rfl h5 ?_ hro
  simp only [Tryd.ntmps65, List.size_toArray, List.length_cons, List.length_nil, Nat.reduceAdd, Nat.reduceSub, Array.replicate_succ, Array.replicate_zero, List.push_toArray, List.append_toArray, List.nil_append, List.cons_append]
  gi_wp2
  go_ret
  exact ⟨rfl, rfl⟩

theorem allowed_stops (F : Fence) (n : Nat) (h7 : F.fn 78) (hro : F.round = none) (hn : 1 ≤ n) (Bs n₀ cap : Nat) (A : Option Addr) (zs : List Int) (G : Nat) (hG : ∀ k, k < zs.length → 0 ≤ zd zs k → zd zs k ≤ 65535 → zd zs k < (G : Int)) (w : World) (hBs : Bs < w.heap.size) (hn₀ : n₀ ≤ w.heap.size)
    (hc : w.cell? ⟨Bs, 0, none⟩ = some (.slice A zs.length cap)) (hx : RdI w n₀ A zs) :
    SeqStopsK F n Tryd.prog 78 #[.pointer (some ⟨Bs, 0, none⟩)] (fun x : Num G => #[Value.int .i64 (x.1 : Int)]) (Below n₀) (fun ys => vals ys = alw zs) (fun _ => True) zs.length w := fun l J Jx W hW _ _ hY h0 =>
  allowed1_in F n h7 hro hn l Bs n₀ cap A zs G hG J Jx hY W ((hW.cell (p := ⟨Bs, 0, none⟩) hBs).trans hc) (hx.below (hW.mono hn₀)) h0

end Go.Proofs.YtipihchlhkjdjaaDoor

namespace Go.Proofs.YtipihchlhkjdjaaDoor
open Go.RowKit

/-- x without its lowest j bits -/
def hiB (j x : Nat) : Nat := 2 ^ j * (x / 2 ^ j)
theorem hiB_zero (x : Nat) : hiB 0 x = x := by simp [hiB]
theorem hiB_le (j x : Nat) : hiB j x ≤ x := Nat.mul_div_le x (2 ^ j)
theorem testBit_hiB (j x i : Nat) : (hiB j x).testBit i = (decide (j ≤ i) && x.testBit i) := by
  unfold hiB
  rw [Nat.mul_comm, Nat.testBit_mul_two_pow, Nat.testBit_div_two_pow]
  by_cases h : j ≤ i
  · simp [h, show i - j + j = i by omega]
  · simp [h]
theorem two_pow_bit (t m i : Nat) : (2 ^ t * (2 * m + 1)).testBit i = (decide (t ≤ i) && (2 * m + 1).testBit (i - t)) := by
  rw [Nat.mul_comm, Nat.testBit_mul_two_pow]
theorem two_pow_pred_bit (t m i : Nat) : (2 ^ t * (2 * m + 1) - 1).testBit i = if i < t then (2 ^ t - 1).testBit i else (2 * m).testBit (i - t) := by
  have h : 0 < 2 ^ t := Nat.two_pow_pos t
  have e : 2 ^ t * (2 * m + 1) - 1 = 2 ^ t * (2 * m) + (2 ^ t - 1) := by rw [Nat.mul_add]; omega
  rw [e, Nat.testBit_two_pow_mul_add _ (by omega)]
theorem hi_step (j x : Nat) (hx : x < 18446744073709551616) (h0 : hiB j x ≠ 0) :
    j ≤ Lib.ctz 64 (hiB j x) ∧ Lib.ctz 64 (hiB j x) < 64 ∧ x.testBit (Lib.ctz 64 (hiB j x)) = true ∧ (∀ i, j ≤ i → i < Lib.ctz 64 (hiB j x) → x.testBit i = false) ∧
    hiB j x &&& (hiB j x - 1) = hiB (Lib.ctz 64 (hiB j x) + 1) x := by
  have hlt := Nat.lt_of_le_of_lt (hiB_le j x) hx
  obtain ⟨m, hm, ht⟩ := Lib.ctzFrom_spec 64 (hiB j x) (by omega) (by omega)
  have e : Lib.ctz 64 (hiB j x) = Lib.ctzFrom 64 (hiB j x) := by simp [Lib.ctz, h0]
  rw [e]
  generalize Lib.ctzFrom 64 (hiB j x) = t at hm ht
  have hb : ∀ i, (decide (j ≤ i) && x.testBit i) = (decide (t ≤ i) && (2 * m + 1).testBit (i - t)) := fun i => by rw [← testBit_hiB, hm, two_pow_bit]
  have h1 := hb t
  simp only [Nat.le_refl, decide_true, Nat.sub_self, Bool.true_and, Nat.testBit_zero] at h1
  have hodd : decide ((2 * m + 1) % 2 = 1) = true := by simp
  rw [hodd] at h1
  simp only [Bool.and_eq_true, decide_eq_true_eq] at h1
  refine ⟨h1.1, ht, h1.2, fun i hj hi => ?_, ?_⟩
  · have h2 := hb i
    simp only [hj, decide_true, Bool.true_and] at h2
    rw [h2]
    simp; omega
  · apply Nat.eq_of_testBit_eq
    intro i
    rw [Nat.testBit_and, testBit_hiB (t + 1), testBit_hiB, hm, two_pow_pred_bit, hb i]
    by_cases hi : i < t
    · rw [show decide (t ≤ i) = false by simp; omega, show decide (t + 1 ≤ i) = false by simp; omega]; simp
    · rw [if_neg hi]
      by_cases he : i = t
      · subst he; rw [show decide (i + 1 ≤ i) = false by simp]; simp
      · obtain ⟨d, rfl⟩ : ∃ d, i = t + (d + 1) := ⟨i - t - 1, by omega⟩
        have h3 := hb (t + (d + 1))
        rw [show decide (j ≤ t + (d + 1)) = true by simp; omega, show decide (t ≤ t + (d + 1)) = true by simp, Bool.true_and, Bool.true_and] at h3
        rw [show decide (t ≤ t + (d + 1)) = true by simp, show decide (t + 1 ≤ t + (d + 1)) = true by simp, Bool.true_and, Bool.true_and, h3, show t + (d + 1) - t = d + 1 by omega, Nat.testBit_succ, Nat.testBit_succ,
          show (2 * m + 1) / 2 = m by omega, show 2 * m / 2 = m by omega, Bool.and_self]
theorem hi_done (j x : Nat) (h0 : hiB j x = 0) (i : Nat) (hj : j ≤ i) : x.testBit i = false := by
  have h := testBit_hiB j x i
  rw [h0] at h
  simpa [hj] using h.symm

/-- the numbers below n that are in xs -/
def nums (xs : List Nat) (n : Nat) : List Nat := (List.range n).filter (bitB xs)
theorem nums_yes (xs : List Nat) (n : Nat) (h : bitB xs n = true) : nums xs (n + 1) = nums xs n ++ [n] := by
  unfold nums; rw [List.range_succ, List.filter_append]; simp [h]
theorem nums_no (xs : List Nat) (n : Nat) (h : bitB xs n = false) : nums xs (n + 1) = nums xs n := by
  unfold nums; rw [List.range_succ, List.filter_append]; simp [h]
theorem nums_skip (xs : List Nat) (a d : Nat) (h : ∀ i, a ≤ i → i < a + d → bitB xs i = false) : nums xs (a + d) = nums xs a := by
  induction d with
  | zero => rfl
  | succ d ih => rw [← Nat.add_assoc, nums_no xs _ (h _ (by omega) (by omega)), ih fun i h1 h2 => h i h1 (by omega)]
theorem nums_len (xs : List Nat) (n : Nat) : (nums xs n).length ≤ n := by
  unfold nums; exact Nat.le_trans (List.length_filter_le _ _) (by simp)
theorem bitB_word (xs : List Nat) (k i : Nat) (hi : i < 64) : bitB xs (64 * k + i) = (wd xs k).testBit i := by
  unfold bitB; rw [show (64 * k + i) / 64 = k by omega, show (64 * k + i) % 64 = i by omega]
theorem nums_next (xs : List Nat) (k j t : Nat) (hjt : j ≤ t) (ht : t < 64) (h1 : (wd xs k).testBit t = true) (h2 : ∀ i, j ≤ i → i < t → (wd xs k).testBit i = false) :
    nums xs (64 * k + t) = nums xs (64 * k + j) ∧ nums xs (64 * k + (t + 1)) = nums xs (64 * k + j) ++ [64 * k + t] := by
  have e : nums xs (64 * k + t) = nums xs (64 * k + j) := by
    obtain ⟨d, rfl⟩ : ∃ d, t = j + d := ⟨t - j, by omega⟩
    rw [← Nat.add_assoc]
    refine nums_skip xs (64 * k + j) d fun i hi1 hi2 => ?_
    obtain ⟨c, rfl⟩ : ∃ c, i = 64 * k + c := ⟨i - 64 * k, by omega⟩
    rw [bitB_word xs k c (by omega)]
    exact h2 c (by omega) (by omega)
  refine ⟨e, ?_⟩
  rw [← Nat.add_assoc, nums_yes xs _ (by rw [bitB_word xs k t ht]; exact h1), e]
theorem nums_end (xs : List Nat) (k j : Nat) (hj : j ≤ 64) (h : ∀ i, j ≤ i → (wd xs k).testBit i = false) : nums xs (64 * (k + 1)) = nums xs (64 * k + j) := by
  rw [show 64 * (k + 1) = 64 * k + j + (64 - j) by omega]
  refine nums_skip xs (64 * k + j) (64 - j) fun i hi1 hi2 => ?_
  obtain ⟨c, rfl⟩ : ∃ c, i = 64 * k + c := ⟨i - 64 * k, by omega⟩
  rw [bitB_word xs k c (by omega)]
  exact h c (by omega)
end Go.Proofs.YtipihchlhkjdjaaDoor

namespace Go.Proofs.YtipihchlhkjdjaaDoor
open Go.RowKit Go.Shelf
set_option maxRecDepth 100000

attribute [local go_sem] Oper.semAt_some

theorem and_pred (x : Nat) (hx : x < 18446744073709551616) (h0 : x ≠ 0) : bits .and .u64 (x : Int) ((x : Int) - 1) = ((x &&& (x - 1) : Nat) : Int) := by
  have e : (x : Int) - 1 = ((x - 1 : Nat) : Int) := by omega
  rw [e]
  exact u64_and_nat x (x - 1) hx (by omega)

set_option maxRecDepth 100000 in
set_option maxHeartbeats 2000000 in
theorem elements1_in (n : Nat) (hn : 1 ≤ n) (l Bs n₀ cap : Nat) (A : Option Addr) (xs : List Nat) (hroom : xs.length ≤ 1048576) (J Jx : List (Num (64 * xs.length)) → World → Prop)
    (hY : ∀ pre x W, J pre W → pre.length < 64 * xs.length → YieldAt Fence.wide (n - 1) Tryd.prog l #[.int .i64 (x.1 : Int)] W fun e W' =>
      (e = .returned (.bool true) ∧ J (pre ++ [x]) W' ∧ Below n₀ W W') ∨ (e = .returned (.bool false) ∧ Jx (pre ++ [x]) W'))
    (W : World) (hBs : W.cell? ⟨Bs, 0, none⟩ = some (.slice A xs.length cap)) (hx : RdU W n₀ A xs) (hT : Tab W) (hTn : 0 < n₀) (h0 : J [] W) :
    CallsIn Fence.wide n Tryd.prog 76 #[.func (.yield l) #[] #[], .pointer (some ⟨Bs, 0, none⟩)] W fun e W' => (∃ v, e = .returned v) ∧
      ((∃ ys, vals ys = nums xs (64 * xs.length) ∧ J ys W') ∨ (∃ pre, True ∧ Jx pre W')) := by
  refine callsIn_of_wp Tryd.func76 rfl trivial ?_ rfl
  simp only [Tryd.ntmps76, List.size_toArray, List.length_cons, List.length_nil, Nat.reduceAdd, Nat.reduceSub, Array.replicate_succ, Array.replicate_zero, List.push_toArray, List.append_toArray, List.nil_append, List.cons_append]
  gi_wp2
  gi_loopw [7] (fun i wr => ∃ k : Nat, k ≤ xs.length ∧ i = .int .i64 k ∧ (∃ ys, Hid (vals ys = nums xs (64 * k)) ∧ J ys wr) ∧ Below n₀ W wr)
    (fun i _ => xs.length - (intOf i).toNat)
  case atStart => exact ⟨0, Nat.zero_le _, rfl, ⟨[], Lib.hid rfl, h0⟩, Below.refl _ _⟩
  case round =>
    obtain ⟨k, hk, rfl, ⟨ys, hys, hJs⟩, hnx⟩ := hrel
    by_cases hlt : k < xs.length
    · obtain ⟨b, off, rfl, hb, hc⟩ := hx.rd (by omega)
      have hci : wr.cell? ⟨b, off + k, none⟩ = some (.int .u64 (wd xs k : Int)) := (hnx.cell (p := ⟨b, off + k, none⟩) hb).trans (hc k hlt)
      have hwl := hx.lt k
      clear hc
      gi_wp2
      clear hci
      obtain ⟨wo, rfl⟩ : ∃ wo : World, wo = wr := ⟨_, rfl⟩
      gi_loopw [4] (fun v wr2 => ∃ j x : Nat, j ≤ 64 ∧ v = .int .u64 (x : Int) ∧ Hid (x = hiB j (wd xs k)) ∧ (∃ ys, Hid (vals ys = nums xs (64 * k + j)) ∧ J ys wr2) ∧ Below n₀ W wr2) (fun v _ => (intOf v).toNat)
      case atStart => exact ⟨0, wd xs k, by omega, rfl, Lib.hid (hiB_zero _).symm, ⟨ys, hys, hJs⟩, hnx⟩
      case round =>
        obtain ⟨j, x, hj, rfl, hxe, ⟨ys2, hys2, hJ2⟩, hB2⟩ := hrel
        clear hys hJs hnx
        have hxl : x < 18446744073709551616 := by rw [hxe.out]; exact Nat.lt_of_le_of_lt (hiB_le _ _) hwl
        by_cases hx0 : x = 0
        · subst hx0
          have hne := Lib.hid (nums_end xs k j hj (hi_done j (wd xs k) hxe.out.symm))
          gi_wp2
          go_roundw
          case rel => exact ⟨k + 1, by omega, by simp, ⟨ys2, by rw [hne.out]; exact hys2, hJ2⟩, hB2⟩
          case measure => simp [intOf]; omega
        · have hs := hi_step j (wd xs k) hwl (by rw [← hxe.out]; exact hx0)
          rw [← hxe.out] at hs
          obtain ⟨t, ht⟩ : ∃ t, t = Lib.ctz 64 x := ⟨_, rfl⟩
          rw [← ht] at hs
          obtain ⟨h1, h2, h3, h4, h5⟩ := hs
          have Ht := Lib.hid ht
          clear ht
          obtain ⟨hn1, hn2⟩ := nums_next xs k j t h1 h2 h3 h4
          have hyl : ys2.length < 64 * xs.length := by have q1 := vals_len ys2; rw [hys2.out, ← hn1] at q1; have := nums_len xs (64 * k + t); omega
          obtain ⟨xv, hxv⟩ : ∃ xv : Num (64 * xs.length), (k : Int) * 64 + (t : Int) = (xv.1 : Int) ∧ xv.1 = 64 * k + t := ⟨⟨64 * k + t, by omega⟩, by show _ = ((64 * k + t : Nat) : Int); omega, rfl⟩
          obtain ⟨hxv1, hxv2⟩ := hxv
          have hvs : Hid (vals (ys2 ++ [xv]) = nums xs (64 * k + (t + 1))) := Lib.hid (by rw [vals_snoc, hys2.out, hn2, hxv2])
          have hpl : Hid (x &&& (x - 1) = hiB (t + 1) (wd xs k)) := Lib.hid h5
          have hpd := and_pred x hxl hx0
          have hT2 : Tab wr := hT.below hTn hB2
          have hle : x &&& (x - 1) < x := Nat.lt_of_le_of_lt Nat.and_le_right (by omega)
          obtain ⟨x2, hx2⟩ : ∃ x2, x2 = x &&& (x - 1) := ⟨_, rfl⟩
          rw [← hx2] at hpl hpd hle
          clear hx2 h3 h4 h5 hn1 hn2
          have Hxv2 := Lib.hid hxv2
          clear hxv2
          obtain ⟨fn, tmps, assign, body, hy, hR⟩ := hY _ xv wr hJ2 hyl
          gi_wp2_with (refine ⟨trivial, ?_⟩; refine (callsIn_wide.2 (tz_any x _ hxl hx0 hT2)).mono ?_; rw [← Ht.out]; rintro e w' ⟨rfl, rfl⟩)
          refine hR.mono ?_
          rintro e W3 (⟨rfl, hJ3, hk3⟩ | ⟨rfl, hJx3⟩)
          · gi_wp2
            go_roundw
            case rel => exact ⟨t + 1, x2, by omega, rfl, hpl, ⟨_, hvs, hJ3⟩, hB2.trans hk3⟩
            case measure => simp [intOf]; omega
          · gi_wp2
            refine bodyPost_ret (results_none rfl _ _ _) rfl ?_
            exact ⟨⟨_, rfl⟩, .inr ⟨_, trivial, hJx3⟩⟩
    · obtain rfl : k = xs.length := by omega
      gi_wp2
      go_end0
      exact ⟨⟨_, rfl⟩, .inl ⟨_, hys.out, hJs⟩⟩

set_option maxHeartbeats 1000000 in
theorem elements_in (n : Nat) (a : Option Addr) (len cap : Nat) (w : World) :
    CallsIn Fence.wide n Tryd.prog 64 #[.slice a len cap] w fun e w' => e = .returned (.func (.func 76) #[] #[.pointer (some ⟨w.heap.size, 0, none⟩)]) ∧ w' = w.alloc (.cells #[.slice a len cap] 102) := by
  refine callsIn_of_wp Tryd.func64 rfl trivial ?_ rfl
  simp only [Tryd.ntmps64, List.size_toArray, List.length_cons, List.length_nil, Nat.reduceAdd, Nat.reduceSub, Array.replicate_succ, Array.replicate_zero, List.push_toArray, List.append_toArray, List.nil_append, List.cons_append]
  gi_wp2
  go_ret
  exact ⟨rfl, rfl⟩

theorem elements_stops (n : Nat) (hn : 1 ≤ n) (Bs n₀ cap : Nat) (A : Option Addr) (xs : List Nat) (hroom : xs.length ≤ 1048576) (w : World) (hBs : Bs < w.heap.size) (hn₀ : n₀ ≤ w.heap.size)
    (hc : w.cell? ⟨Bs, 0, none⟩ = some (.slice A xs.length cap)) (hx : RdU w n₀ A xs) (hT : Tab w) (hTn : 0 < n₀) :
    SeqStopsK Fence.wide n Tryd.prog 76 #[.pointer (some ⟨Bs, 0, none⟩)] (fun x : Num (64 * xs.length) => #[Value.int .i64 (x.1 : Int)]) (Below n₀) (fun ys => vals ys = nums xs (64 * xs.length)) (fun _ => True) (64 * xs.length) w := fun l J Jx W hW _ _ hY h0 =>
  elements1_in n hn l Bs n₀ cap A xs hroom J Jx hY W ((hW.cell (p := ⟨Bs, 0, none⟩) hBs).trans hc) (hx.below (hW.mono hn₀)) (hT.below hTn (hW.mono hn₀)) hTn h0
end Go.Proofs.YtipihchlhkjdjaaDoor

namespace Go.Proofs.YtipihchlhkjdjaaDoor
open Go.RowKit Go.Shelf
set_option maxRecDepth 100000

attribute [local go_sem] Oper.semAt_some

def toI (l : List Nat) : List Int := l.map fun (k : Nat) => (k : Int)
theorem toI_len (l : List Nat) : (toI l).length = l.length := by simp [toI]
theorem toI_snoc (l : List Nat) (x : Nat) : toI (l ++ [x]) = toI l ++ [(x : Int)] := by simp [toI]
theorem toI_nums (xs : List Nat) (n : Nat) : toI (nums xs n) = alist xs n := rfl

set_option maxRecDepth 100000 in
set_option maxHeartbeats 2000000 in
theorem list_in (n : Nat) (hn : 3 ≤ n) (A : Option Addr) (c : Nat) (xs : List Nat) (w : World) (hx : RdU w w.heap.size A xs) (hroom : xs.length ≤ 1048576) (hT : Tab w) :
    CallsIn Fence.wide n Tryd.prog 52 #[.slice A xs.length c] w fun e w' => ∃ v, e = .returned v ∧ w'.ownsRow w.heap.size 3 1 v (alist xs (64 * xs.length)).length (iVals (alist xs (64 * xs.length))) ∧ Below w.heap.size w w' := by
  have h1 : 1 ≤ n := by omega
  obtain ⟨i0, hi, hz0, hz1, hz2⟩ := info_parts Tryd.infoInt
  refine callsIn_of_wp_marks Tryd.func52 rfl trivial ?_ rfl
  simp only [Tryd.ntmps52, List.size_toArray, List.length_cons, List.length_nil, Nat.reduceAdd, Nat.reduceSub, Array.replicate_succ, Array.replicate_zero, List.push_toArray, List.append_toArray, List.nil_append, List.cons_append]
  have hsz := alist_ones xs xs.length
  have hle := alist_le xs (64 * xs.length)
  obtain ⟨m, hm⟩ : ∃ m, m = ones xs xs.length := ⟨_, rfl⟩
  rw [hsz, ← hm] at hle
  have HM := Lib.hid hm
  clear hm hsz
  obtain ⟨wm, hmk, hrow0, hgr0⟩ := run_make_own (P := Tryd.prog) w w.heap.size 34 3 i0 (.int .i64 0) 1 Tryd.underlying34 hi hz0 hz1 .i64 .i64 m (by rw [hz2]; omega) (by unfold maxLen; omega) (Nat.le_refl _)
  gi_wp2_with (first | (refine ⟨trivial, ?_⟩; refine (callsIn_wide.2 (size_any A c xs _ hx (by omega))).mono ?_; rw [← HM.out]; rintro e w' ⟨rfl, rfl⟩) | (refine ⟨trivial, ?_⟩; refine (elements_in (n - 1) _ _ _ _).mono ?_; rintro e w' ⟨rfl, rfl⟩))
  have hws := hgr0.size
  have hTn := hT.pos
  have hB : Below w.heap.size w wm := (Below.refl _ w).grown hgr0 (Nat.le_refl _) (fun k e => by cases e)
  have bL := Boxed.new wm 34 (.slice (some ⟨w.heap.size, 0, none⟩) 0 m)
  have bN := Boxed.new (wm.alloc (.cells #[.slice (some ⟨w.heap.size, 0, none⟩) 0 m] 34)) 102 (.slice A xs.length c)
  rw [World.size_alloc] at bN
  have hB0 : Below w.heap.size w ((wm.alloc (.cells #[.slice (some ⟨w.heap.size, 0, none⟩) 0 m] 34)).alloc (.cells #[.slice A xs.length c] 102)) := (hB.alloc hws _).alloc (by simp; omega) _
  refine wpIn_rangeFunc_ownG rfl h1 (gf := 76) (lb := #[.pointer (some ⟨wm.heap.size + 1, 0, none⟩)]) rfl trivial (enters_of Tryd.func76 (by kernel_rfl) rfl)
    (elements_stops (n - 1) (by omega) (wm.heap.size + 1) w.heap.size c A xs hroom _ (by simp) (by simp; omega) bN.cell (hx.below hB0) (hT.step hB0) hTn) belowK_t (belowK_b (by simp; omega)) (Below.refl _ _) (fun _ => rfl)
    (fun pre W => (∃ v, Boxed W wm.heap.size 34 v ∧ W.ownsRow w.heap.size 3 1 v (toI (vals pre)).length (iVals (toI (vals pre))) ∧ True) ∧ Below w.heap.size w W)
    (fun _ _ _ => False)
    (OwnFrom.and (Own.from (holdsRow_own w.heap.size wm.heap.size 34 3 1 (fun pre => (toI (vals pre)).length) (fun pre => iVals (toI (vals pre))) (fun _ _ => True)) _) (ownFrom_below (Nat.le_refl _) (by simp; omega)))
    (fun _ _ _ _ _ hs _ _ => hs)
    ⟨⟨_, bL.alloc _, (hrow0.alloc _).alloc _, trivial⟩, hB0⟩
    (fun x => { tmps := #[.slice A xs.length c, undef, .slice none 0 0, .pointer (some ⟨wm.heap.size, 0, none⟩), .int .i64 (x.1 : Int), .slice A xs.length c, .int .i64 m, .slice (some ⟨w.heap.size, 0, none⟩) 0 m, .slice A xs.length c, .func (.func 76) #[] #[.pointer (some ⟨wm.heap.size + 1, 0, none⟩)], .int .i64 (x.1 : Int), undef, undef, undef, undef, undef], defers := [] }) ?assign ?body ?done ?stop
  case assign =>
    intro l x W K hK
    gi_wp2
    exact hK
  case body =>
    rintro l pre x W ⟨⟨v, hv, hrow, _⟩, hBW⟩ hlt
    have hc := hv.cell
    have hpl : (toI (vals pre)).length = pre.length := by rw [toI_len, vals_len]
    have hp1 : (toI (vals pre)).length + 1 ≤ maxLen := by unfold maxLen; omega
    have hp2 : ((toI (vals pre)).length + 1) * 8 ≤ 140737488355328 := by omega
    have hp3 : w.heap.size ≤ (W.alloc (.cells #[.int .i64 (x.1 : Int)] 3)).heap.size := by have := hBW.size; simp; omega
    clear bL bN hB0 hmk hrow0 hgr0 hx hpl
    gi_wp2_with (gi_at_builtin; refine wpListIn_append_own _ rfl _ _ 34 rfl w.heap.size 3 i0 (.int .i64 0) 1 8 Tryd.underlying34 hi hz0 hz1 hz2 rfl (by decide) _ _ _ rfl (hrow.alloc _) ⟨W.heap.size, 0, none⟩ 1 1 [.int .i64 (x.1 : Int)] rfl rfl (cell_one_new _ _ _) (by simp [Value.oneCell']) hp1 hp2 hp3 ?_; intro v' w1 hown' hgrow _; obtain ⟨g', cap', rfl⟩ := ownsRow_succ hown'; obtain ⟨hv1, hv2, hr2, hk2, hb2⟩ := hv.appended (by decide) hrow hBW.size hws hown' hgrow; have hc1 := hv1.cell; have hf1 := hv1.frozen)
    rw [iVals_snoc, ← toI_snoc, ← vals_snoc] at hr2
    have he : (toI (vals pre)).length + 1 = (toI (vals (pre ++ [x]))).length := by rw [vals_snoc, toI_snoc]; simp
    exact ⟨hk2.from _, hb2, ⟨_, hv2, by rw [← he]; exact hr2, trivial⟩, hBW.trans hb2⟩
  case done =>
    rintro D ys W hD hys ⟨⟨v, hv, hrow, _⟩, hBW⟩ hK
    have hc := hv.cell
    clear bL bN hB0 hmk hrow0 hgr0 hx
    rw [hys, toI_nums] at hrow
    gi_wp2
    refine ⟨by simp, .inl ⟨_, _, rfl, run_takeDeferred hK, ?_⟩⟩
    exact ⟨_, results_tmp rfl _ _ _, v, rfl, ownsRow_putObj hrow _ hK rfl, hBW.trans (belowK_b (w := w) (Nat.le_refl _) W D _ _ (by simp at hD; omega) hK rfl rfl)⟩
  case stop =>
    rintro D c pre W _ _ h _
    exact h.elim
end Go.Proofs.YtipihchlhkjdjaaDoor
