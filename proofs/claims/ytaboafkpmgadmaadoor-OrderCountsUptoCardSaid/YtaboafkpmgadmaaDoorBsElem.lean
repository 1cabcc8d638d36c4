/-
  The iterator elements of package bitset: the numbers of a set from the lowest, for every loop body, for every set of at most 2^20 words, where the library's table holds its own numbers.
-/
import Derived.Test.YtaboafkpmgadmaaDoorBsIter
import Derived.Test.YtaboafkpmgadmaaDoorBsBits
namespace Go.Proofs.YtaboafkpmgadmaaDoor
open Go.RowKit Go.Shelf
set_option maxRecDepth 100000

attribute [local go_sem] Oper.semAt_some

theorem and_pred (x : Nat) (hx : x < 18446744073709551616) (h0 : x ≠ 0) : bits .and .u64 (x : Int) ((x : Int) - 1) = ((x &&& (x - 1) : Nat) : Int) := by
  have e : (x : Int) - 1 = ((x - 1 : Nat) : Int) := by omega
  rw [e]
  exact u64_and_nat x (x - 1) hx (by omega)

set_option maxRecDepth 100000 in
set_option maxHeartbeats 2000000 in
theorem elements1_in (n : Nat) (hn : 1 ≤ n) (l Bs n₀ cap : Nat) (A : Option Addr) (xs : List Nat) (hroom : xs.length ≤ 1048576) (J Jx : List (Num (64 * xs.length)) → World → Prop)
    (hY : ∀ pre x W, J pre W → pre.length < 64 * xs.length → YieldAt Fence.wide (n - 1) Tryd.prog l #[.int .i64 (x.1 : Int)] W fun e W' =>
      (e = .returned (.bool true) ∧ J (pre ++ [x]) W' ∧ Below n₀ W W') ∨ (e = .returned (.bool false) ∧ Jx (pre ++ [x]) W'))
    (W : World) (hBs : W.cell? ⟨Bs, 0, none⟩ = some (.slice A xs.length cap)) (hx : RdU W n₀ A xs) (hT : Tab W) (hTn : 0 < n₀) (h0 : J [] W) :
    CallsIn Fence.wide n Tryd.prog 101 #[.func (.yield l) #[] #[], .pointer (some ⟨Bs, 0, none⟩)] W fun e W' => (∃ v, e = .returned v) ∧
      ((∃ ys, vals ys = nums xs (64 * xs.length) ∧ J ys W') ∨ (∃ pre, True ∧ Jx pre W')) := by
  refine callsIn_of_wp Tryd.func101 rfl trivial ?_ rfl
  simp only [Tryd.ntmps101, List.size_toArray, List.length_cons, List.length_nil, Nat.reduceAdd, Nat.reduceSub, Array.replicate_succ, Array.replicate_zero, List.push_toArray, List.append_toArray, List.nil_append, List.cons_append]
  gi_wp2
  gi_loopw [7] (fun i wr => ∃ k : Nat, k ≤ xs.length ∧ i = .int .i64 k ∧ (∃ ys, Hid (vals ys = nums xs (64 * k)) ∧ J ys wr) ∧ Below n₀ W wr)
    (fun i _ => xs.length - (intOf i).toNat)
  case atStart => exact ⟨0, Nat.zero_le _, rfl, ⟨[], Lib.hid rfl, h0⟩, Below.refl _ _⟩
  case round =>
    obtain ⟨k, hk, rfl, ⟨ys, hys, hJs⟩, hnx⟩ := hrel
    by_cases hlt : k < xs.length
    · obtain ⟨b, off, rfl, hb, hc⟩ := hx.rd (by omega)
      have hci : wr.cell? ⟨b, off + k, none⟩ = some (.int .u64 (wd xs k : Int)) := (hnx.cell (p := ⟨b, off + k, none⟩) hb).trans (hc k hlt)
      have hwl := hx.lt k
      clear hc
      gi_wp2
      clear hci
      obtain ⟨wo, rfl⟩ : ∃ wo : World, wo = wr := ⟨_, rfl⟩
      gi_loopw [4] (fun v wr2 => ∃ j x : Nat, j ≤ 64 ∧ v = .int .u64 (x : Int) ∧ Hid (x = hiB j (wd xs k)) ∧ (∃ ys, Hid (vals ys = nums xs (64 * k + j)) ∧ J ys wr2) ∧ Below n₀ W wr2) (fun v _ => (intOf v).toNat)
      case atStart => exact ⟨0, wd xs k, by omega, rfl, Lib.hid (hiB_zero _).symm, ⟨ys, hys, hJs⟩, hnx⟩
      case round =>
        obtain ⟨j, x, hj, rfl, hxe, ⟨ys2, hys2, hJ2⟩, hB2⟩ := hrel
        clear hys hJs hnx
        have hxl : x < 18446744073709551616 := by rw [hxe.out]; exact Nat.lt_of_le_of_lt (hiB_le _ _) hwl
        by_cases hx0 : x = 0
        · subst hx0
          have hne := Lib.hid (nums_end xs k j hj (hi_done j (wd xs k) hxe.out.symm))
          gi_wp2
          go_roundw
          case rel => exact ⟨k + 1, by omega, by simp, ⟨ys2, by rw [hne.out]; exact hys2, hJ2⟩, hB2⟩
          case measure => simp [intOf]; omega
        · have hs := hi_step j (wd xs k) hwl (by rw [← hxe.out]; exact hx0)
          rw [← hxe.out] at hs
          obtain ⟨t, ht⟩ : ∃ t, t = Lib.ctz 64 x := ⟨_, rfl⟩
          rw [← ht] at hs
          obtain ⟨h1, h2, h3, h4, h5⟩ := hs
          have Ht := Lib.hid ht
          clear ht
          obtain ⟨hn1, hn2⟩ := nums_next xs k j t h1 h2 h3 h4
          have hyl : ys2.length < 64 * xs.length := by have q1 := vals_len ys2; rw [hys2.out, ← hn1] at q1; have := nums_len xs (64 * k + t); omega
          obtain ⟨xv, hxv⟩ : ∃ xv : Num (64 * xs.length), (k : Int) * 64 + (t : Int) = (xv.1 : Int) ∧ xv.1 = 64 * k + t := ⟨⟨64 * k + t, by omega⟩, by show _ = ((64 * k + t : Nat) : Int); omega, rfl⟩
          obtain ⟨hxv1, hxv2⟩ := hxv
          have hvs : Hid (vals (ys2 ++ [xv]) = nums xs (64 * k + (t + 1))) := Lib.hid (by rw [vals_snoc, hys2.out, hn2, hxv2])
          have hpl : Hid (x &&& (x - 1) = hiB (t + 1) (wd xs k)) := Lib.hid h5
          have hpd := and_pred x hxl hx0
          have hT2 : Tab wr := hT.below hTn hB2
          have hle : x &&& (x - 1) < x := Nat.lt_of_le_of_lt Nat.and_le_right (by omega)
          obtain ⟨x2, hx2⟩ : ∃ x2, x2 = x &&& (x - 1) := ⟨_, rfl⟩
          rw [← hx2] at hpl hpd hle
          clear hx2 h3 h4 h5 hn1 hn2
          have Hxv2 := Lib.hid hxv2
          clear hxv2
          obtain ⟨fn, tmps, assign, body, hy, hR⟩ := hY _ xv wr hJ2 hyl
          gi_wp2_with (refine ⟨trivial, ?_⟩; refine (callsIn_wide.2 (tz_any x _ hxl hx0 hT2)).mono ?_; rw [← Ht.out]; rintro e w' ⟨rfl, rfl⟩)
          refine hR.mono ?_
          rintro e W3 (⟨rfl, hJ3, hk3⟩ | ⟨rfl, hJx3⟩)
          · gi_wp2
            go_roundw
            case rel => exact ⟨t + 1, x2, by omega, rfl, hpl, ⟨_, hvs, hJ3⟩, hB2.trans hk3⟩
            case measure => simp [intOf]; omega
          · gi_wp2
            refine bodyPost_ret (results_none rfl _ _ _) rfl ?_
            exact ⟨⟨_, rfl⟩, .inr ⟨_, trivial, hJx3⟩⟩
    · obtain rfl : k = xs.length := by omega
      gi_wp2
      go_end0
      exact ⟨⟨_, rfl⟩, .inl ⟨_, hys.out, hJs⟩⟩

set_option maxHeartbeats 1000000 in
theorem elements_in (n : Nat) (a : Option Addr) (len cap : Nat) (w : World) :
    CallsIn Fence.wide n Tryd.prog 64 #[.slice a len cap] w fun e w' => e = .returned (.func (.func 101) #[] #[.pointer (some ⟨w.heap.size, 0, none⟩)]) ∧ w' = w.alloc (.cells #[.slice a len cap] 49) := by
  refine callsIn_of_wp Tryd.func64 rfl trivial ?_ rfl
  simp only [Tryd.ntmps64, List.size_toArray, List.length_cons, List.length_nil, Nat.reduceAdd, Nat.reduceSub, Array.replicate_succ, Array.replicate_zero, List.push_toArray, List.append_toArray, List.nil_append, List.cons_append]
  gi_wp2
  go_ret
  exact ⟨rfl, rfl⟩

theorem elements_stops (n : Nat) (hn : 1 ≤ n) (Bs n₀ cap : Nat) (A : Option Addr) (xs : List Nat) (hroom : xs.length ≤ 1048576) (w : World) (hBs : Bs < w.heap.size) (hn₀ : n₀ ≤ w.heap.size)
    (hc : w.cell? ⟨Bs, 0, none⟩ = some (.slice A xs.length cap)) (hx : RdU w n₀ A xs) (hT : Tab w) (hTn : 0 < n₀) :
    SeqStopsK Fence.wide n Tryd.prog 101 #[.pointer (some ⟨Bs, 0, none⟩)] (fun x : Num (64 * xs.length) => #[Value.int .i64 (x.1 : Int)]) (Below n₀) (fun ys => vals ys = nums xs (64 * xs.length)) (fun _ => True) (64 * xs.length) w := fun l J Jx W hW _ _ hY h0 =>
  elements1_in n hn l Bs n₀ cap A xs hroom J Jx hY W ((hW.cell (p := ⟨Bs, 0, none⟩) hBs).trans hc) (hx.below (hW.mono hn₀)) (hT.below hTn (hW.mono hn₀)) hTn h0
end Go.Proofs.YtaboafkpmgadmaaDoor
