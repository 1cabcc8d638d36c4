/-
  math/bits.OnesCount64 answers the number of ones, for every word.
  The reference's list of a set, for every slice of at most 2^20 words.
  The two iterators of package bitset (allowed: the numbers of a list that are between 0 and 65535; elements: the numbers of a set), for every loop body; no condition but the set's size.
  Words bit by bit, from the lowest: plain arithmetic, no condition but a word's 64 bits.
-/
import Derived.Test.YtafdpimkfkddaaaDoorBsA
import Derived.Test.YtafdpimkfkddaaaDoorPk01
import Derived.Maps.AppendAt
import Derived.RangeFuncBox
import Derived.RangeFuncBound
import Derived.RangeFuncCalls
import Derived.RangeFuncLeaves
import Derived.Shelf.Abstract
import Derived.Shelf.RegionOpen
import Derived.OwnWalkIn
import Derived.TacticsInMore
import Derived.LoopNIn
import Derived.LoopIn
import Derived.Test.YtafdpimkfkddaaaDoorBsTz
import Derived.Lib.TrailingZeros
namespace Go.Proofs.YtafdpimkfkddaaaDoor
open Go.RowKit
set_option maxRecDepth 100000

theorem ofInt_i64 (a : Nat) (ha : a < 9223372036854775808) : (BitVec.ofInt 64 (a : Int)).toNat = a := by
  rw [BitVec.ofInt_natCast, BitVec.toNat_ofNat]; exact Nat.mod_eq_of_lt (by omega)
theorem i64_and_nat (a b : Nat) (ha : a < 9223372036854775808) (hb : b < 9223372036854775808) : bits .and .i64 (a : Int) (b : Int) = ((a &&& b : Nat) : Int) := by
  have hx : a &&& b < 2 ^ 63 := Nat.and_lt_two_pow _ (by omega)
  show IntKind.i64.wrap ((BitVec.ofInt 64 (a : Int) &&& BitVec.ofInt 64 (b : Int)).toNat : Int) = _
  rw [BitVec.toNat_and, ofInt_i64 a ha, ofInt_i64 b hb, IntKind.wrap_i64]
  omega

theorem ones_any (x : Nat) (w : World) (hx : x < 18446744073709551616) :
    Calls Tryd.prog 54 #[.int .u64 (x : Int)] w fun e w' => e = .returned (.int .i64 (cnt 64 x : Int)) ∧ w = w' := by
  obtain ⟨hp, l6, l5, l4, lA, lB, lC, lD, l3⟩ := pop_all x hx
  have e12 : bits .and .i64 (s6 x : Int) 127 = (cnt 64 x : Int) := by
    rw [← hp]
    have h := i64_and_nat (s6 x) 127 (by omega) (by omega)
    rw [Nat.and_two_pow_sub_one_eq_mod (s6 x) 7] at h
    exact h
  clear hp
  have e1 : bits .and .u64 ((x : Int) / 2) 6148914691236517205 = (sA x : Int) := u64_and_nat (x / 2) 6148914691236517205 (by omega) (by omega)
  have e2 : bits .and .u64 (x : Int) 6148914691236517205 = (sB x : Int) := u64_and_nat x 6148914691236517205 (by omega) (by omega)
  have e3 : IntKind.u64.wrap ((sA x : Int) + (sB x : Int)) = (s1 x : Int) := by unfold s1; rw [IntKind.wrap_u64]; omega
  have l1 : s1 x < 18446744073709551616 := by unfold s1; omega
  have e4 : bits .and .u64 ((s1 x : Int) / 4) 3689348814741910323 = (sC x : Int) := u64_and_nat (s1 x / 4) 3689348814741910323 (by omega) (by omega)
  have e5 : bits .and .u64 (s1 x : Int) 3689348814741910323 = (sD x : Int) := u64_and_nat (s1 x) 3689348814741910323 (by omega) (by omega)
  have e6 : IntKind.u64.wrap ((sC x : Int) + (sD x : Int)) = (s2 x : Int) := by unfold s2; rw [IntKind.wrap_u64]; omega
  have l2 : s2 x ≤ 7378697629483820646 := by unfold s2; omega
  have e7 : IntKind.u64.wrap ((s2 x : Int) / 16 + (s2 x : Int)) = (sT x : Int) := by unfold sT; rw [IntKind.wrap_u64]; omega
  have lT : sT x < 18446744073709551616 := by unfold sT; omega
  have e8 : bits .and .u64 (sT x : Int) 1085102592571150095 = (s3 x : Int) := u64_and_nat (sT x) 1085102592571150095 (by omega) (by omega)
  have e9 : IntKind.u64.wrap ((s3 x : Int) + (s3 x : Int) / 256) = (s4 x : Int) := by unfold s4; rw [IntKind.wrap_u64]; omega
  have e10 : IntKind.u64.wrap ((s4 x : Int) + (s4 x : Int) / 65536) = (s5 x : Int) := by have : s5 x = s4 x + s4 x / 65536 := rfl; rw [IntKind.wrap_u64]; omega
  have e11 : IntKind.u64.wrap ((s5 x : Int) + (s5 x : Int) / 4294967296) = (s6 x : Int) := by have : s6 x = s5 x + s5 x / 4294967296 := rfl; rw [IntKind.wrap_u64]; omega
  clear lA lB lC lD l3
  go_enter Tryd.func54, Tryd.ntmps54
  go_wp2
  go_ret
  exact ⟨rfl, rfl⟩

/-- the ones of the first k words -/
def ones (xs : List Nat) : Nat → Nat
  | 0 => 0
  | k + 1 => ones xs k + cnt 64 (wd xs k)
theorem ones_le (xs : List Nat) (k : Nat) : ones xs k ≤ 64 * k := by
  induction k with
  | zero => simp [ones]
  | succ k ih => have := cnt_le 64 (wd xs k); simp only [ones]; omega
theorem ones_succ (xs : List Nat) (k : Nat) : ones xs (k + 1) = ones xs k + cnt 64 (wd xs k) := rfl

theorem size_any (A : Option Addr) (c : Nat) (xs : List Nat) (w : World) (hx : RdU w w.heap.size A xs) (hroom : xs.length ≤ 36028797018963968) :
    Calls Tryd.prog 51 #[.slice A xs.length c] w fun e w' => e = .returned (.int .i64 (ones xs xs.length : Int)) ∧ w = w' := by
  go_enter Tryd.func51, Tryd.ntmps51
  go_wp2
  go_loop [3, 8] (fun n i => ∃ k : Nat, k ≤ xs.length ∧ i = .int .i64 k ∧ n = .int .i64 (ones xs k : Int)) (fun _ i => xs.length - (intOf i).toNat)
  case atStart => exact ⟨0, Nat.zero_le _, rfl, rfl⟩
  case round =>
    obtain ⟨k, hk, rfl, rfl⟩ := hrel
    have hl := ones_le xs k
    by_cases hlt : k < xs.length
    · obtain ⟨b, off, rfl, _, hc⟩ := hx.rd (by omega)
      have hci := hc k hlt
      have h64 := cnt_le 64 (wd xs k)
      clear hc
      go_wp2_with (go_at_call 54; refine (ones_any _ _ (hx.lt k)).mono ?_; rintro e w' ⟨rfl, rfl⟩)
      go_round
      case rel => exact ⟨k + 1, by omega, by go_num, by rw [ones_succ]; go_num⟩
      case measure => simp [intOf]; omega
    · go_wp2
      go_ret
      exact ⟨by have e : k = xs.length := by omega
                rw [e]; rfl, rfl⟩
end Go.Proofs.YtafdpimkfkddaaaDoor

namespace Go.Proofs.YtafdpimkfkddaaaDoor
open Go.RowKit
set_option maxRecDepth 100000

theorem Tryd.infoInt : (Tryd.prog.info? 3).map (fun i => (i.zero, i.size, i.bytes)) = some (some (.int .i64 0), 1, 8) := by kernel_rfl
/-- the numbers below n that are in xs -/
def alist (xs : List Nat) (n : Nat) : List Int := ((List.range n).filter (bitB xs)).map fun (k : Nat) => (k : Int)
theorem alist_yes (xs : List Nat) (n : Nat) (h : bitB xs n = true) : alist xs (n + 1) = alist xs n ++ [(n : Int)] := by
  unfold alist; rw [List.range_succ, List.filter_append]; simp [h]
theorem alist_no (xs : List Nat) (n : Nat) (h : bitB xs n = false) : alist xs (n + 1) = alist xs n := by
  unfold alist; rw [List.range_succ, List.filter_append]; simp [h]
theorem alist_le (xs : List Nat) (n : Nat) : (alist xs n).length ≤ n := by
  unfold alist
  rw [List.length_map]
  exact Nat.le_trans (List.length_filter_le _ _) (by simp)

theorem cnt_snoc (n x : Nat) : cnt (n + 1) x = cnt n x + x / 2 ^ n % 2 := by
  induction n generalizing x with
  | zero => simp [cnt]
  | succ n ih =>
    have h := ih (x / 2)
    have e : x / 2 / 2 ^ n = x / 2 ^ (n + 1) := by rw [Nat.div_div_eq_div_mul, Nat.pow_succ, Nat.mul_comm]
    rw [e] at h
    show x % 2 + cnt (n + 1) (x / 2) = (x % 2 + cnt n (x / 2)) + _
    rw [h]
    omega
theorem alist_word (xs : List Nat) (k j : Nat) (hj : j ≤ 64) : (alist xs (64 * k + j)).length = (alist xs (64 * k)).length + cnt j (wd xs k) := by
  induction j with
  | zero => simp [cnt]
  | succ j ih =>
    have h := ih (by omega)
    have e1 : (64 * k + j) / 64 = k := by omega
    have e2 : (64 * k + j) % 64 = j := by omega
    have hb : bitB xs (64 * k + j) = decide (wd xs k / 2 ^ j % 2 = 1) := by unfold bitB; rw [e1, e2, bit_div]
    rw [cnt_snoc, ← Nat.add_assoc]
    by_cases hd : wd xs k / 2 ^ j % 2 = 1
    · rw [alist_yes xs _ (by rw [hb]; simpa using hd), List.length_append, h, hd]; simp; omega
    · rw [alist_no xs _ (by rw [hb]; simpa using hd), h]; omega
theorem alist_ones (xs : List Nat) (k : Nat) : (alist xs (64 * k)).length = ones xs k := by
  induction k with
  | zero => rfl
  | succ k ih => rw [show 64 * (k + 1) = 64 * k + 64 by omega, alist_word xs k 64 (by omega), ih]; rfl

end Go.Proofs.YtafdpimkfkddaaaDoor

namespace Go.Proofs.YtafdpimkfkddaaaDoor
open Go.RowKit Go.Shelf
set_option maxRecDepth 100000

attribute [local go_sem] Oper.semAt_some

/-- a number below G -/
abbrev Num (G : Nat) := { x : Nat // x < G }
/-- the numbers of a list that a set may have -/
def okN (z : Int) : Option Nat := if 0 ≤ z ∧ z ≤ 65535 then some z.toNat else none
def alw (zs : List Int) : List Nat := zs.filterMap okN
def vals {G : Nat} (l : List (Num G)) : List Nat := l.map Subtype.val
theorem vals_snoc {G : Nat} (l : List (Num G)) (x : Num G) : vals (l ++ [x]) = vals l ++ [x.1] := by simp [vals]
theorem vals_len {G : Nat} (l : List (Num G)) : (vals l).length = l.length := by simp [vals]
theorem take_snoc (zs : List Int) (k : Nat) (h : k < zs.length) : zs.take (k + 1) = zs.take k ++ [zd zs k] := by
  rw [List.take_succ_eq_append_getElem h]; unfold zd; simp [List.getD, h]
theorem alw_yes (zs : List Int) (k : Nat) (h : k < zs.length) (x : Nat) (hx : zd zs k = (x : Int)) (hl : x ≤ 65535) : alw (zs.take (k + 1)) = alw (zs.take k) ++ [x] := by
  have e : okN (x : Int) = some x := by
    unfold okN
    rw [if_pos ⟨by omega, by omega⟩]
    simp
  unfold alw
  rw [take_snoc zs k h, List.filterMap_append, hx]
  simp [e]
theorem alw_no (zs : List Int) (k : Nat) (h : k < zs.length) (hx : ¬ (0 ≤ zd zs k ∧ zd zs k ≤ 65535)) : alw (zs.take (k + 1)) = alw (zs.take k) := by
  unfold alw
  rw [take_snoc zs k h, List.filterMap_append]
  simp [okN, hx]
theorem alw_len (zs : List Int) (k : Nat) : (alw (zs.take k)).length ≤ k := by
  unfold alw
  have h1 := List.length_filterMap_le okN (zs.take k)
  have h2 := List.length_take_le k zs
  omega

set_option maxRecDepth 100000 in
set_option maxHeartbeats 2000000 in
theorem allowed1_in (F : Fence) (n : Nat) (h7 : F.fn 53) (hro : F.round = none) (hn : 1 ≤ n) (l Bs n₀ cap : Nat) (A : Option Addr) (zs : List Int) (G : Nat) (hG : ∀ k, k < zs.length → 0 ≤ zd zs k → zd zs k ≤ 65535 → zd zs k < (G : Int)) (J Jx : List (Num G) → World → Prop)
    (hY : ∀ pre x W, J pre W → pre.length < zs.length → YieldAt F (n - 1) Tryd.prog l #[.int .i64 (x.1 : Int)] W fun e W' =>
      (e = .returned (.bool true) ∧ J (pre ++ [x]) W' ∧ Below n₀ W W') ∨ (e = .returned (.bool false) ∧ Jx (pre ++ [x]) W'))
    (W : World) (hBs : W.cell? ⟨Bs, 0, none⟩ = some (.slice A zs.length cap)) (hx : RdI W n₀ A zs) (h0 : J [] W) :
    CallsIn F n Tryd.prog 53 #[.func (.yield l) #[] #[], .pointer (some ⟨Bs, 0, none⟩)] W fun e W' => (∃ v, e = .returned v) ∧
      ((∃ ys, vals ys = alw zs ∧ J ys W') ∨ (∃ pre, True ∧ Jx pre W')) := by
  have hroom := hx.room
  refine callsIn_of_wp Tryd.func53 rfl h7 ?_ hro
  simp only [Tryd.ntmps53, List.size_toArray, List.length_cons, List.length_nil, Nat.reduceAdd, Nat.reduceSub, Array.replicate_succ, Array.replicate_zero, List.push_toArray, List.append_toArray, List.nil_append, List.cons_append]
  gi_wp2
  gi_loopw [7] (fun i wr => ∃ k : Nat, k ≤ zs.length ∧ i = .int .i64 k ∧ (∃ ys, Hid (vals ys = alw (zs.take k)) ∧ J ys wr) ∧ Below n₀ W wr)
    (fun i _ => zs.length - (intOf i).toNat)
  case atStart => exact ⟨0, Nat.zero_le _, rfl, ⟨[], rfl, h0⟩, Below.refl _ _⟩
  case round =>
    obtain ⟨k, hk, rfl, ⟨ys, hys, hJs⟩, hnx⟩ := hrel
    by_cases hlt : k < zs.length
    · obtain ⟨b, off, rfl, hb, hc⟩ := hx.rd (by omega)
      have hci : wr.cell? ⟨b, off + k, none⟩ = some (.int .i64 (zd zs k)) := (hnx.cell (p := ⟨b, off + k, none⟩) hb).trans (hc k hlt)
      clear hc
      by_cases hz : 0 ≤ zd zs k ∧ zd zs k ≤ 65535
      · have hg := hG k hlt hz.1 hz.2
        obtain ⟨x, hxe, hx2⟩ : ∃ x : Num G, zd zs k = (x.1 : Int) ∧ x.1 ≤ 65535 := ⟨⟨(zd zs k).toNat, by omega⟩, by show _ = (((zd zs k).toNat : Nat) : Int); omega, by show (zd zs k).toNat ≤ 65535; omega⟩
        have hyes := Lib.hid (alw_yes zs k hlt x.1 hxe hx2)
        have hyl : ys.length ≤ k := by have h1 := vals_len ys; rw [hys.out] at h1; have := alw_len zs k; omega
        clear hg
        rw [hxe] at hci
        clear hz hxe
        obtain ⟨fn, tmps, assign, body, hy, hR⟩ := hY _ x wr hJs (by omega)
        gi_wp2
        refine hR.mono ?_
        rintro e W3 (⟨rfl, hJ3, hk3⟩ | ⟨rfl, hJx3⟩)
        · gi_wp2
          go_roundw
          case rel => exact ⟨k + 1, by omega, by simp, ⟨_, by rw [hyes.out, ← hys.out]; exact vals_snoc _ _, hJ3⟩, hnx.trans hk3⟩
          case measure => simp [intOf]; omega
        · gi_wp2
          refine bodyPost_ret (results_none rfl _ _ _) rfl ?_
          exact ⟨⟨_, rfl⟩, .inr ⟨_, trivial, hJx3⟩⟩
      · have hno := Lib.hid (alw_no zs k hlt hz)
        rcases (show zd zs k < 0 ∨ 65535 < zd zs k by omega) with h | h
        all_goals
          clear hz
          gi_wp2
          refine ⟨fun _ h => (by cases h), ?_⟩
          gi_wp2
          go_roundw
          case rel => exact ⟨k + 1, by omega, by simp, ⟨ys, by rw [hno.out]; exact hys, hJs⟩, hnx⟩
          case measure => simp [intOf]; omega
    · obtain rfl : k = zs.length := by omega
      gi_wp2
      go_end0
      exact ⟨⟨_, rfl⟩, .inl ⟨_, by have := hys.out; rwa [List.take_length] at this, hJs⟩⟩

set_option maxHeartbeats 1000000 in
theorem allowed_in (F : Fence) (n : Nat) (h5 : F.fn 50) (hro : F.round = none) (a : Option Addr) (len cap : Nat) (w : World) :
    CallsIn F n Tryd.prog 50 #[.slice a len cap] w fun e w' => e = .returned (.func (.func 53) #[] #[.pointer (some ⟨w.heap.size, 0, none⟩)]) ∧ w' = w.alloc (.cells #[.slice a len cap] 84) := by
  refine callsIn_of_wp Tryd.func50 rfl h5 ?_ hro
  simp only [Tryd.ntmps50, List.size_toArray, List.length_cons, List.length_nil, Nat.reduceAdd, Nat.reduceSub, Array.replicate_succ, Array.replicate_zero, List.push_toArray, List.append_toArray, List.nil_append, List.cons_append]
  gi_wp2
  go_ret
  exact ⟨rfl, rfl⟩

theorem allowed_stops (F : Fence) (n : Nat) (h7 : F.fn 53) (hro : F.round = none) (hn : 1 ≤ n) (Bs n₀ cap : Nat) (A : Option Addr) (zs : List Int) (G : Nat) (hG : ∀ k, k < zs.length → 0 ≤ zd zs k → zd zs k ≤ 65535 → zd zs k < (G : Int)) (w : World) (hBs : Bs < w.heap.size) (hn₀ : n₀ ≤ w.heap.size)
    (hc : w.cell? ⟨Bs, 0, none⟩ = some (.slice A zs.length cap)) (hx : RdI w n₀ A zs) :
    SeqStopsK F n Tryd.prog 53 #[.pointer (some ⟨Bs, 0, none⟩)] (fun x : Num G => #[Value.int .i64 (x.1 : Int)]) (Below n₀) (fun ys => vals ys = alw zs) (fun _ => True) zs.length w := fun l J Jx W hW _ _ hY h0 =>
  allowed1_in F n h7 hro hn l Bs n₀ cap A zs G hG J Jx hY W ((hW.cell (p := ⟨Bs, 0, none⟩) hBs).trans hc) (hx.below (hW.mono hn₀)) h0

end Go.Proofs.YtafdpimkfkddaaaDoor

namespace Go.Proofs.YtafdpimkfkddaaaDoor
open Go.RowKit

/-- x without its lowest j bits -/
def hiB (j x : Nat) : Nat := 2 ^ j * (x / 2 ^ j)
theorem hiB_zero (x : Nat) : hiB 0 x = x := by simp [hiB]
theorem hiB_le (j x : Nat) : hiB j x ≤ x := Nat.mul_div_le x (2 ^ j)
theorem testBit_hiB (j x i : Nat) : (hiB j x).testBit i = (decide (j ≤ i) && x.testBit i) := by
  unfold hiB
  rw [Nat.mul_comm, Nat.testBit_mul_two_pow, Nat.testBit_div_two_pow]
  by_cases h : j ≤ i
  · simp [h, show i - j + j = i by omega]
  · simp [h]
theorem two_pow_bit (t m i : Nat) : (2 ^ t * (2 * m + 1)).testBit i = (decide (t ≤ i) && (2 * m + 1).testBit (i - t)) := by
  rw [Nat.mul_comm, Nat.testBit_mul_two_pow]
theorem two_pow_pred_bit (t m i : Nat) : (2 ^ t * (2 * m + 1) - 1).testBit i = if i < t then (2 ^ t - 1).testBit i else (2 * m).testBit (i - t) := by
  have h : 0 < 2 ^ t := Nat.two_pow_pos t
  have e : 2 ^ t * (2 * m + 1) - 1 = 2 ^ t * (2 * m) + (2 ^ t - 1) := by rw [Nat.mul_add]; omega
  rw [e, Nat.testBit_two_pow_mul_add _ (by omega)]
theorem hi_step (j x : Nat) (hx : x < 18446744073709551616) (h0 : hiB j x ≠ 0) :
    j ≤ Lib.ctz 64 (hiB j x) ∧ Lib.ctz 64 (hiB j x) < 64 ∧ x.testBit (Lib.ctz 64 (hiB j x)) = true ∧ (∀ i, j ≤ i → i < Lib.ctz 64 (hiB j x) → x.testBit i = false) ∧
    hiB j x &&& (hiB j x - 1) = hiB (Lib.ctz 64 (hiB j x) + 1) x := by
  have hlt := Nat.lt_of_le_of_lt (hiB_le j x) hx
  obtain ⟨m, hm, ht⟩ := Lib.ctzFrom_spec 64 (hiB j x) (by omega) (by omega)
  have e : Lib.ctz 64 (hiB j x) = Lib.ctzFrom 64 (hiB j x) := by simp [Lib.ctz, h0]
  rw [e]
  generalize Lib.ctzFrom 64 (hiB j x) = t at hm ht
  have hb : ∀ i, (decide (j ≤ i) && x.testBit i) = (decide (t ≤ i) && (2 * m + 1).testBit (i - t)) := fun i => by rw [← testBit_hiB, hm, two_pow_bit]
  have h1 := hb t
  simp only [Nat.le_refl, decide_true, Nat.sub_self, Bool.true_and, Nat.testBit_zero] at h1
  have hodd : decide ((2 * m + 1) % 2 = 1) = true := by simp
  rw [hodd] at h1
  simp only [Bool.and_eq_true, decide_eq_true_eq] at h1
  refine ⟨h1.1, ht, h1.2, fun i hj hi => ?_, ?_⟩
  · have h2 := hb i
    simp only [hj, decide_true, Bool.true_and] at h2
    rw [h2]
    simp; omega
  · apply Nat.eq_of_testBit_eq
    intro i
    rw [Nat.testBit_and, testBit_hiB (t + 1), testBit_hiB, hm, two_pow_pred_bit, hb i]
    by_cases hi : i < t
    · rw [show decide (t ≤ i) = false by simp; omega, show decide (t + 1 ≤ i) = false by simp; omega]; simp
    · rw [if_neg hi]
      by_cases he : i = t
      · subst he; rw [show decide (i + 1 ≤ i) = false by simp]; simp
      · obtain ⟨d, rfl⟩ : ∃ d, i = t + (d + 1) := ⟨i - t - 1, by omega⟩
        have h3 := hb (t + (d + 1))
        rw [show decide (j ≤ t + (d + 1)) = true by simp; omega, show decide (t ≤ t + (d + 1)) = true by simp, Bool.true_and, Bool.true_and] at h3
        rw [show decide (t ≤ t + (d + 1)) = true by simp, show decide (t + 1 ≤ t + (d + 1)) = true by simp, Bool.true_and, Bool.true_and, h3, show t + (d + 1) - t = d + 1 by omega, Nat.testBit_succ, Nat.testBit_succ,
          show (2 * m + 1) / 2 = m by omega, show 2 * m / 2 = m by omega, Bool.and_self]
theorem hi_done (j x : Nat) (h0 : hiB j x = 0) (i : Nat) (hj : j ≤ i) : x.testBit i = false := by
  have h := testBit_hiB j x i
  rw [h0] at h
  simpa [hj] using h.symm

/-- the numbers below n that are in xs -/
def nums (xs : List Nat) (n : Nat) : List Nat := (List.range n).filter (bitB xs)
theorem nums_yes (xs : List Nat) (n : Nat) (h : bitB xs n = true) : nums xs (n + 1) = nums xs n ++ [n] := by
  unfold nums; rw [List.range_succ, List.filter_append]; simp [h]
theorem nums_no (xs : List Nat) (n : Nat) (h : bitB xs n = false) : nums xs (n + 1) = nums xs n := by
  unfold nums; rw [List.range_succ, List.filter_append]; simp [h]
theorem nums_skip (xs : List Nat) (a d : Nat) (h : ∀ i, a ≤ i → i < a + d → bitB xs i = false) : nums xs (a + d) = nums xs a := by
  induction d with
  | zero => rfl
  | succ d ih => rw [← Nat.add_assoc, nums_no xs _ (h _ (by omega) (by omega)), ih fun i h1 h2 => h i h1 (by omega)]
theorem nums_len (xs : List Nat) (n : Nat) : (nums xs n).length ≤ n := by
  unfold nums; exact Nat.le_trans (List.length_filter_le _ _) (by simp)
theorem bitB_word (xs : List Nat) (k i : Nat) (hi : i < 64) : bitB xs (64 * k + i) = (wd xs k).testBit i := by
  unfold bitB; rw [show (64 * k + i) / 64 = k by omega, show (64 * k + i) % 64 = i by omega]
theorem nums_next (xs : List Nat) (k j t : Nat) (hjt : j ≤ t) (ht : t < 64) (h1 : (wd xs k).testBit t = true) (h2 : ∀ i, j ≤ i → i < t → (wd xs k).testBit i = false) :
    nums xs (64 * k + t) = nums xs (64 * k + j) ∧ nums xs (64 * k + (t + 1)) = nums xs (64 * k + j) ++ [64 * k + t] := by
  have e : nums xs (64 * k + t) = nums xs (64 * k + j) := by
    obtain ⟨d, rfl⟩ : ∃ d, t = j + d := ⟨t - j, by omega⟩
    rw [← Nat.add_assoc]
    refine nums_skip xs (64 * k + j) d fun i hi1 hi2 => ?_
    obtain ⟨c, rfl⟩ : ∃ c, i = 64 * k + c := ⟨i - 64 * k, by omega⟩
    rw [bitB_word xs k c (by omega)]
    exact h2 c (by omega) (by omega)
  refine ⟨e, ?_⟩
  rw [← Nat.add_assoc, nums_yes xs _ (by rw [bitB_word xs k t ht]; exact h1), e]
theorem nums_end (xs : List Nat) (k j : Nat) (hj : j ≤ 64) (h : ∀ i, j ≤ i → (wd xs k).testBit i = false) : nums xs (64 * (k + 1)) = nums xs (64 * k + j) := by
  rw [show 64 * (k + 1) = 64 * k + j + (64 - j) by omega]
  refine nums_skip xs (64 * k + j) (64 - j) fun i hi1 hi2 => ?_
  obtain ⟨c, rfl⟩ : ∃ c, i = 64 * k + c := ⟨i - 64 * k, by omega⟩
  rw [bitB_word xs k c (by omega)]
  exact h c (by omega)
end Go.Proofs.YtafdpimkfkddaaaDoor
