/-
  The two iterators of package bitset (allowed: the numbers of a list that are between 0 and 65535; elements: the numbers of a set), for every loop body; no condition but the set's size.
-/
import Derived.RangeFuncBox
import Derived.RangeFuncBound
import Derived.RangeFuncCalls
import Derived.RangeFuncLeaves
import Derived.Shelf.Abstract
import Derived.Shelf.RegionOpen
import Derived.OwnWalkIn
import Derived.TacticsInMore
import Derived.LoopNIn
import Derived.LoopIn
import Derived.Test.YtaboafkpmgadmaaDoorBsTz
import Derived.Test.YtaboafkpmgadmaaDoorBsB
namespace Go.Proofs.YtaboafkpmgadmaaDoor
open Go.RowKit Go.Shelf
set_option maxRecDepth 100000

attribute [local go_sem] Oper.semAt_some

/-- a number below G -/
abbrev Num (G : Nat) := { x : Nat // x < G }
/-- the numbers of a list that a set may have -/
def okN (z : Int) : Option Nat := if 0 ≤ z ∧ z ≤ 65535 then some z.toNat else none
def alw (zs : List Int) : List Nat := zs.filterMap okN
def vals {G : Nat} (l : List (Num G)) : List Nat := l.map Subtype.val
theorem vals_snoc {G : Nat} (l : List (Num G)) (x : Num G) : vals (l ++ [x]) = vals l ++ [x.1] := by simp [vals]
theorem vals_len {G : Nat} (l : List (Num G)) : (vals l).length = l.length := by simp [vals]
theorem take_snoc (zs : List Int) (k : Nat) (h : k < zs.length) : zs.take (k + 1) = zs.take k ++ [zd zs k] := by
  rw [List.take_succ_eq_append_getElem h]; unfold zd; simp [List.getD, h]
theorem alw_yes (zs : List Int) (k : Nat) (h : k < zs.length) (x : Nat) (hx : zd zs k = (x : Int)) (hl : x ≤ 65535) : alw (zs.take (k + 1)) = alw (zs.take k) ++ [x] := by
  have e : okN (x : Int) = some x := by
    unfold okN
    rw [if_pos ⟨by omega, by omega⟩]
    simp
  unfold alw
  rw [take_snoc zs k h, List.filterMap_append, hx]
  simp [e]
theorem alw_no (zs : List Int) (k : Nat) (h : k < zs.length) (hx : ¬ (0 ≤ zd zs k ∧ zd zs k ≤ 65535)) : alw (zs.take (k + 1)) = alw (zs.take k) := by
  unfold alw
  rw [take_snoc zs k h, List.filterMap_append]
  simp [okN, hx]
theorem alw_len (zs : List Int) (k : Nat) : (alw (zs.take k)).length ≤ k := by
  unfold alw
  have h1 := List.length_filterMap_le okN (zs.take k)
  have h2 := List.length_take_le k zs
  omega

set_option maxRecDepth 100000 in
set_option maxHeartbeats 2000000 in
theorem allowed1_in (F : Fence) (n : Nat) (h7 : F.fn 118) (hro : F.round = none) (hn : 1 ≤ n) (l Bs n₀ cap : Nat) (A : Option Addr) (zs : List Int) (G : Nat) (hG : ∀ k, k < zs.length → 0 ≤ zd zs k → zd zs k ≤ 65535 → zd zs k < (G : Int)) (J Jx : List (Num G) → World → Prop)
    (hY : ∀ pre x W, J pre W → pre.length < zs.length → YieldAt F (n - 1) Tryd.prog l #[.int .i64 (x.1 : Int)] W fun e W' =>
      (e = .returned (.bool true) ∧ J (pre ++ [x]) W' ∧ Below n₀ W W') ∨ (e = .returned (.bool false) ∧ Jx (pre ++ [x]) W'))
    (W : World) (hBs : W.cell? ⟨Bs, 0, none⟩ = some (.slice A zs.length cap)) (hx : RdI W n₀ A zs) (h0 : J [] W) :
    CallsIn F n Tryd.prog 118 #[.func (.yield l) #[] #[], .pointer (some ⟨Bs, 0, none⟩)] W fun e W' => (∃ v, e = .returned v) ∧
      ((∃ ys, vals ys = alw zs ∧ J ys W') ∨ (∃ pre, True ∧ Jx pre W')) := by
  have hroom := hx.room
  refine callsIn_of_wp Tryd.func118 rfl h7 ?_ hro
  simp only [Tryd.ntmps118, List.size_toArray, List.length_cons, List.length_nil, Nat.reduceAdd, Nat.reduceSub, Array.replicate_succ, Array.replicate_zero, List.push_toArray, List.append_toArray, List.nil_append, List.cons_append]
  gi_wp2
  gi_loopw [7] (fun i wr => ∃ k : Nat, k ≤ zs.length ∧ i = .int .i64 k ∧ (∃ ys, Hid (vals ys = alw (zs.take k)) ∧ J ys wr) ∧ Below n₀ W wr)
    (fun i _ => zs.length - (intOf i).toNat)
  case atStart => exact ⟨0, Nat.zero_le _, rfl, ⟨[], rfl, h0⟩, Below.refl _ _⟩
  case round =>
    obtain ⟨k, hk, rfl, ⟨ys, hys, hJs⟩, hnx⟩ := hrel
    by_cases hlt : k < zs.length
    · obtain ⟨b, off, rfl, hb, hc⟩ := hx.rd (by omega)
      have hci : wr.cell? ⟨b, off + k, none⟩ = some (.int .i64 (zd zs k)) := (hnx.cell (p := ⟨b, off + k, none⟩) hb).trans (hc k hlt)
      clear hc
      by_cases hz : 0 ≤ zd zs k ∧ zd zs k ≤ 65535
      · have hg := hG k hlt hz.1 hz.2
        obtain ⟨x, hxe, hx2⟩ : ∃ x : Num G, zd zs k = (x.1 : Int) ∧ x.1 ≤ 65535 := ⟨⟨(zd zs k).toNat, by omega⟩, by show _ = (((zd zs k).toNat : Nat) : Int); omega, by show (zd zs k).toNat ≤ 65535; omega⟩
        have hyes := Lib.hid (alw_yes zs k hlt x.1 hxe hx2)
        have hyl : ys.length ≤ k := by have h1 := vals_len ys; rw [hys.out] at h1; have := alw_len zs k; omega
        clear hg
        rw [hxe] at hci
        clear hz hxe
        obtain ⟨fn, tmps, assign, body, hy, hR⟩ := hY _ x wr hJs (by omega)
        gi_wp2
        refine hR.mono ?_
        rintro e W3 (⟨rfl, hJ3, hk3⟩ | ⟨rfl, hJx3⟩)
        · gi_wp2
          go_roundw
          case rel => exact ⟨k + 1, by omega, by simp, ⟨_, by rw [hyes.out, ← hys.out]; exact vals_snoc _ _, hJ3⟩, hnx.trans hk3⟩
          case measure => simp [intOf]; omega
        · gi_wp2
          refine bodyPost_ret (results_none rfl _ _ _) rfl ?_
          exact ⟨⟨_, rfl⟩, .inr ⟨_, trivial, hJx3⟩⟩
      · have hno := Lib.hid (alw_no zs k hlt hz)
        rcases (show zd zs k < 0 ∨ 65535 < zd zs k by omega) with h | h
        all_goals
          clear hz
          gi_wp2
          refine ⟨fun _ h => (by cases h), ?_⟩
          gi_wp2
          go_roundw
          case rel => exact ⟨k + 1, by omega, by simp, ⟨ys, by rw [hno.out]; exact hys, hJs⟩, hnx⟩
          case measure => simp [intOf]; omega
    · obtain rfl : k = zs.length := by omega
      gi_wp2
      go_end0
      exact ⟨⟨_, rfl⟩, .inl ⟨_, by have := hys.out; rwa [List.take_length] at this, hJs⟩⟩

set_option maxHeartbeats 1000000 in
theorem allowed_in (F : Fence) (n : Nat) (h5 : F.fn 105) (hro : F.round = none) (a : Option Addr) (len cap : Nat) (w : World) :
    CallsIn F n Tryd.prog 105 #[.slice a len cap] w fun e w' => e = .returned (.func (.func 118) #[] #[.pointer (some ⟨w.heap.size, 0, none⟩)]) ∧ w' = w.alloc (.cells #[.slice a len cap] 25) := by
  refine callsIn_of_wp Tryd.func105 rfl h5 ?_ hro
  simp only [Tryd.ntmps105, List.size_toArray, List.length_cons, List.length_nil, Nat.reduceAdd, Nat.reduceSub, Array.replicate_succ, Array.replicate_zero, List.push_toArray, List.append_toArray, List.nil_append, List.cons_append]
  gi_wp2
  go_ret
  exact ⟨rfl, rfl⟩

theorem allowed_stops (F : Fence) (n : Nat) (h7 : F.fn 118) (hro : F.round = none) (hn : 1 ≤ n) (Bs n₀ cap : Nat) (A : Option Addr) (zs : List Int) (G : Nat) (hG : ∀ k, k < zs.length → 0 ≤ zd zs k → zd zs k ≤ 65535 → zd zs k < (G : Int)) (w : World) (hBs : Bs < w.heap.size) (hn₀ : n₀ ≤ w.heap.size)
    (hc : w.cell? ⟨Bs, 0, none⟩ = some (.slice A zs.length cap)) (hx : RdI w n₀ A zs) :
    SeqStopsK F n Tryd.prog 118 #[.pointer (some ⟨Bs, 0, none⟩)] (fun x : Num G => #[Value.int .i64 (x.1 : Int)]) (Below n₀) (fun ys => vals ys = alw zs) (fun _ => True) zs.length w := fun l J Jx W hW _ _ hY h0 =>
  allowed1_in F n h7 hro hn l Bs n₀ cap A zs G hG J Jx hY W ((hW.cell (p := ⟨Bs, 0, none⟩) hBs).trans hc) (hx.below (hW.mono hn₀)) h0

end Go.Proofs.YtaboafkpmgadmaaDoor
