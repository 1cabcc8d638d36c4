/-
  The iterator elements of package bitset: the numbers of a set from the lowest, for every loop body, for every set of at most 2^20 words, where the library's table holds its own numbers.
  bitset.List answers the set's numbers in increasing order, for every set of at most 2^20 words, where the library's table holds its own numbers.
  bitset.Of answers the set of the list's numbers between 0 and 65535, for every list of ints.
  alive1 answers true, where the library's table holds its own numbers.
-/
import Derived.Test.YtafdpimkfkddaaaDoorPk02
import Derived.Maps.AppendAt
import Derived.RangeFuncNested
import Derived.Test.YtafdpimkfkddaaaDoorPk00
namespace Go.Proofs.YtafdpimkfkddaaaDoor
open Go.RowKit Go.Shelf
set_option maxRecDepth 100000

attribute [local go_sem] Oper.semAt_some

theorem and_pred (x : Nat) (hx : x < 18446744073709551616) (h0 : x ≠ 0) : bits .and .u64 (x : Int) ((x : Int) - 1) = ((x &&& (x - 1) : Nat) : Int) := by
  have e : (x : Int) - 1 = ((x - 1 : Nat) : Int) := by omega
  rw [e]
  exact u64_and_nat x (x - 1) hx (by omega)

set_option maxRecDepth 100000 in
set_option maxHeartbeats 2000000 in
theorem elements1_in (n : Nat) (hn : 1 ≤ n) (l Bs n₀ cap : Nat) (A : Option Addr) (xs : List Nat) (hroom : xs.length ≤ 1048576) (J Jx : List (Num (64 * xs.length)) → World → Prop)
    (hY : ∀ pre x W, J pre W → pre.length < 64 * xs.length → YieldAt Fence.wide (n - 1) Tryd.prog l #[.int .i64 (x.1 : Int)] W fun e W' =>
      (e = .returned (.bool true) ∧ J (pre ++ [x]) W' ∧ Below n₀ W W') ∨ (e = .returned (.bool false) ∧ Jx (pre ++ [x]) W'))
    (W : World) (hBs : W.cell? ⟨Bs, 0, none⟩ = some (.slice A xs.length cap)) (hx : RdU W n₀ A xs) (hT : Tab W) (hTn : 0 < n₀) (h0 : J [] W) :
    CallsIn Fence.wide n Tryd.prog 55 #[.func (.yield l) #[] #[], .pointer (some ⟨Bs, 0, none⟩)] W fun e W' => (∃ v, e = .returned v) ∧
      ((∃ ys, vals ys = nums xs (64 * xs.length) ∧ J ys W') ∨ (∃ pre, True ∧ Jx pre W')) := by
  refine callsIn_of_wp Tryd.func55 rfl trivial ?_ rfl
  simp only [Tryd.ntmps55, List.size_toArray, List.length_cons, List.length_nil, Nat.reduceAdd, Nat.reduceSub, Array.replicate_succ, Array.replicate_zero, List.push_toArray, List.append_toArray, List.nil_append, List.cons_append]
  gi_wp2
  gi_loopw [7] (fun i wr => ∃ k : Nat, k ≤ xs.length ∧ i = .int .i64 k ∧ (∃ ys, Hid (vals ys = nums xs (64 * k)) ∧ J ys wr) ∧ Below n₀ W wr)
    (fun i _ => xs.length - (intOf i).toNat)
  case atStart => exact ⟨0, Nat.zero_le _, rfl, ⟨[], Lib.hid rfl, h0⟩, Below.refl _ _⟩
  case round =>
    obtain ⟨k, hk, rfl, ⟨ys, hys, hJs⟩, hnx⟩ := hrel
    by_cases hlt : k < xs.length
    · obtain ⟨b, off, rfl, hb, hc⟩ := hx.rd (by omega)
      have hci : wr.cell? ⟨b, off + k, none⟩ = some (.int .u64 (wd xs k : Int)) := (hnx.cell (p := ⟨b, off + k, none⟩) hb).trans (hc k hlt)
      have hwl := hx.lt k
      clear hc
      gi_wp2
      clear hci
      obtain ⟨wo, rfl⟩ : ∃ wo : World, wo = wr := ⟨_, rfl⟩
      gi_loopw [4] (fun v wr2 => ∃ j x : Nat, j ≤ 64 ∧ v = .int .u64 (x : Int) ∧ Hid (x = hiB j (wd xs k)) ∧ (∃ ys, Hid (vals ys = nums xs (64 * k + j)) ∧ J ys wr2) ∧ Below n₀ W wr2) (fun v _ => (intOf v).toNat)
      case atStart => exact ⟨0, wd xs k, by omega, rfl, Lib.hid (hiB_zero _).symm, ⟨ys, hys, hJs⟩, hnx⟩
      case round =>
        obtain ⟨j, x, hj, rfl, hxe, ⟨ys2, hys2, hJ2⟩, hB2⟩ := hrel
        clear hys hJs hnx
        have hxl : x < 18446744073709551616 := by rw [hxe.out]; exact Nat.lt_of_le_of_lt (hiB_le _ _) hwl
        by_cases hx0 : x = 0
        · subst hx0
          have hne := Lib.hid (nums_end xs k j hj (hi_done j (wd xs k) hxe.out.symm))
          gi_wp2
          go_roundw
          case rel => exact ⟨k + 1, by omega, by simp, ⟨ys2, by rw [hne.out]; exact hys2, hJ2⟩, hB2⟩
          case measure => simp [intOf]; omega
        · have hs := hi_step j (wd xs k) hwl (by rw [← hxe.out]; exact hx0)
          rw [← hxe.out] at hs
          obtain ⟨t, ht⟩ : ∃ t, t = Lib.ctz 64 x := ⟨_, rfl⟩
          rw [← ht] at hs
          obtain ⟨h1, h2, h3, h4, h5⟩ := hs
          have Ht := Lib.hid ht
          clear ht
          obtain ⟨hn1, hn2⟩ := nums_next xs k j t h1 h2 h3 h4
          have hyl : ys2.length < 64 * xs.length := by have q1 := vals_len ys2; rw [hys2.out, ← hn1] at q1; have := nums_len xs (64 * k + t); omega
          obtain ⟨xv, hxv⟩ : ∃ xv : Num (64 * xs.length), (k : Int) * 64 + (t : Int) = (xv.1 : Int) ∧ xv.1 = 64 * k + t := ⟨⟨64 * k + t, by omega⟩, by show _ = ((64 * k + t : Nat) : Int); omega, rfl⟩
          obtain ⟨hxv1, hxv2⟩ := hxv
          have hvs : Hid (vals (ys2 ++ [xv]) = nums xs (64 * k + (t + 1))) := Lib.hid (by rw [vals_snoc, hys2.out, hn2, hxv2])
          have hpl : Hid (x &&& (x - 1) = hiB (t + 1) (wd xs k)) := Lib.hid h5
          have hpd := and_pred x hxl hx0
          have hT2 : Tab wr := hT.below hTn hB2
          have hle : x &&& (x - 1) < x := Nat.lt_of_le_of_lt Nat.and_le_right (by omega)
          obtain ⟨x2, hx2⟩ : ∃ x2, x2 = x &&& (x - 1) := ⟨_, rfl⟩
          rw [← hx2] at hpl hpd hle
          clear hx2 h3 h4 h5 hn1 hn2
          have Hxv2 := Lib.hid hxv2
          clear hxv2
          obtain ⟨fn, tmps, assign, body, hy, hR⟩ := hY _ xv wr hJ2 hyl
          gi_wp2_with (refine ⟨trivial, ?_⟩; refine (callsIn_wide.2 (tz_any x _ hxl hx0 hT2)).mono ?_; rw [← Ht.out]; rintro e w' ⟨rfl, rfl⟩)
          refine hR.mono ?_
          rintro e W3 (⟨rfl, hJ3, hk3⟩ | ⟨rfl, hJx3⟩)
          · gi_wp2
            go_roundw
            case rel => exact ⟨t + 1, x2, by omega, rfl, hpl, ⟨_, hvs, hJ3⟩, hB2.trans hk3⟩
            case measure => simp [intOf]; omega
          · gi_wp2
            refine bodyPost_ret (results_none rfl _ _ _) rfl ?_
            exact ⟨⟨_, rfl⟩, .inr ⟨_, trivial, hJx3⟩⟩
    · obtain rfl : k = xs.length := by omega
      gi_wp2
      go_end0
      exact ⟨⟨_, rfl⟩, .inl ⟨_, hys.out, hJs⟩⟩

set_option maxHeartbeats 1000000 in
theorem elements_in (n : Nat) (a : Option Addr) (len cap : Nat) (w : World) :
    CallsIn Fence.wide n Tryd.prog 52 #[.slice a len cap] w fun e w' => e = .returned (.func (.func 55) #[] #[.pointer (some ⟨w.heap.size, 0, none⟩)]) ∧ w' = w.alloc (.cells #[.slice a len cap] 77) := by
  refine callsIn_of_wp Tryd.func52 rfl trivial ?_ rfl
  simp only [Tryd.ntmps52, List.size_toArray, List.length_cons, List.length_nil, Nat.reduceAdd, Nat.reduceSub, Array.replicate_succ, Array.replicate_zero, List.push_toArray, List.append_toArray, List.nil_append, List.cons_append]
  gi_wp2
  go_ret
  exact ⟨rfl, rfl⟩

theorem elements_stops (n : Nat) (hn : 1 ≤ n) (Bs n₀ cap : Nat) (A : Option Addr) (xs : List Nat) (hroom : xs.length ≤ 1048576) (w : World) (hBs : Bs < w.heap.size) (hn₀ : n₀ ≤ w.heap.size)
    (hc : w.cell? ⟨Bs, 0, none⟩ = some (.slice A xs.length cap)) (hx : RdU w n₀ A xs) (hT : Tab w) (hTn : 0 < n₀) :
    SeqStopsK Fence.wide n Tryd.prog 55 #[.pointer (some ⟨Bs, 0, none⟩)] (fun x : Num (64 * xs.length) => #[Value.int .i64 (x.1 : Int)]) (Below n₀) (fun ys => vals ys = nums xs (64 * xs.length)) (fun _ => True) (64 * xs.length) w := fun l J Jx W hW _ _ hY h0 =>
  elements1_in n hn l Bs n₀ cap A xs hroom J Jx hY W ((hW.cell (p := ⟨Bs, 0, none⟩) hBs).trans hc) (hx.below (hW.mono hn₀)) (hT.below hTn (hW.mono hn₀)) hTn h0
end Go.Proofs.YtafdpimkfkddaaaDoor

namespace Go.Proofs.YtafdpimkfkddaaaDoor
open Go.RowKit Go.Shelf
set_option maxRecDepth 100000

attribute [local go_sem] Oper.semAt_some

def toI (l : List Nat) : List Int := l.map fun (k : Nat) => (k : Int)
theorem toI_len (l : List Nat) : (toI l).length = l.length := by simp [toI]
theorem toI_snoc (l : List Nat) (x : Nat) : toI (l ++ [x]) = toI l ++ [(x : Int)] := by simp [toI]
theorem toI_nums (xs : List Nat) (n : Nat) : toI (nums xs n) = alist xs n := rfl

set_option maxRecDepth 100000 in
set_option maxHeartbeats 2000000 in
theorem list_in (n : Nat) (hn : 3 ≤ n) (A : Option Addr) (c : Nat) (xs : List Nat) (w : World) (hx : RdU w w.heap.size A xs) (hroom : xs.length ≤ 1048576) (hT : Tab w) :
    CallsIn Fence.wide n Tryd.prog 44 #[.slice A xs.length c] w fun e w' => ∃ v, e = .returned v ∧ w'.ownsRow w.heap.size 3 1 v (alist xs (64 * xs.length)).length (iVals (alist xs (64 * xs.length))) ∧ Below w.heap.size w w' := by
  have h1 : 1 ≤ n := by omega
  obtain ⟨i0, hi, hz0, hz1, hz2⟩ := info_parts Tryd.infoInt
  refine callsIn_of_wp_marks Tryd.func44 rfl trivial ?_ rfl
  simp only [Tryd.ntmps44, List.size_toArray, List.length_cons, List.length_nil, Nat.reduceAdd, Nat.reduceSub, Array.replicate_succ, Array.replicate_zero, List.push_toArray, List.append_toArray, List.nil_append, List.cons_append]
  have hsz := alist_ones xs xs.length
  have hle := alist_le xs (64 * xs.length)
  obtain ⟨m, hm⟩ : ∃ m, m = ones xs xs.length := ⟨_, rfl⟩
  rw [hsz, ← hm] at hle
  have HM := Lib.hid hm
  clear hm hsz
  obtain ⟨wm, hmk, hrow0, hgr0⟩ := run_make_own (P := Tryd.prog) w w.heap.size 84 3 i0 (.int .i64 0) 1 Tryd.underlying84 hi hz0 hz1 .i64 .i64 m (by rw [hz2]; omega) (by unfold maxLen; omega) (Nat.le_refl _)
  gi_wp2_with (first | (refine ⟨trivial, ?_⟩; refine (callsIn_wide.2 (size_any A c xs _ hx (by omega))).mono ?_; rw [← HM.out]; rintro e w' ⟨rfl, rfl⟩) | (refine ⟨trivial, ?_⟩; refine (elements_in (n - 1) _ _ _ _).mono ?_; rintro e w' ⟨rfl, rfl⟩))
  have hws := hgr0.size
  have hTn := hT.pos
  have hB : Below w.heap.size w wm := (Below.refl _ w).grown hgr0 (Nat.le_refl _) (fun k e => by cases e)
  have bL := Boxed.new wm 84 (.slice (some ⟨w.heap.size, 0, none⟩) 0 m)
  have bN := Boxed.new (wm.alloc (.cells #[.slice (some ⟨w.heap.size, 0, none⟩) 0 m] 84)) 77 (.slice A xs.length c)
  rw [World.size_alloc] at bN
  have hB0 : Below w.heap.size w ((wm.alloc (.cells #[.slice (some ⟨w.heap.size, 0, none⟩) 0 m] 84)).alloc (.cells #[.slice A xs.length c] 77)) := (hB.alloc hws _).alloc (by simp; omega) _
  refine wpIn_rangeFunc_ownG rfl h1 (gf := 55) (lb := #[.pointer (some ⟨wm.heap.size + 1, 0, none⟩)]) rfl trivial (enters_of Tryd.func55 (by kernel_rfl) rfl)
    (elements_stops (n - 1) (by omega) (wm.heap.size + 1) w.heap.size c A xs hroom _ (by simp) (by simp; omega) bN.cell (hx.below hB0) (hT.step hB0) hTn) belowK_t (belowK_b (by simp; omega)) (Below.refl _ _) (fun _ => rfl)
    (fun pre W => (∃ v, Boxed W wm.heap.size 84 v ∧ W.ownsRow w.heap.size 3 1 v (toI (vals pre)).length (iVals (toI (vals pre))) ∧ True) ∧ Below w.heap.size w W)
    (fun _ _ _ => False)
    (OwnFrom.and (Own.from (holdsRow_own w.heap.size wm.heap.size 84 3 1 (fun pre => (toI (vals pre)).length) (fun pre => iVals (toI (vals pre))) (fun _ _ => True)) _) (ownFrom_below (Nat.le_refl _) (by simp; omega)))
    (fun _ _ _ _ _ hs _ _ => hs)
    ⟨⟨_, bL.alloc _, (hrow0.alloc _).alloc _, trivial⟩, hB0⟩
    (fun x => { tmps := #[.slice A xs.length c, undef, .slice none 0 0, .pointer (some ⟨wm.heap.size, 0, none⟩), .int .i64 (x.1 : Int), .slice A xs.length c, .int .i64 m, .slice (some ⟨w.heap.size, 0, none⟩) 0 m, .slice A xs.length c, .func (.func 55) #[] #[.pointer (some ⟨wm.heap.size + 1, 0, none⟩)], .int .i64 (x.1 : Int), undef, undef, undef, undef, undef], defers := [] }) ?assign ?body ?done ?stop
  case assign =>
    intro l x W K hK
    gi_wp2
    exact hK
  case body =>
    rintro l pre x W ⟨⟨v, hv, hrow, _⟩, hBW⟩ hlt
    have hc := hv.cell
    have hpl : (toI (vals pre)).length = pre.length := by rw [toI_len, vals_len]
    have hp1 : (toI (vals pre)).length + 1 ≤ maxLen := by unfold maxLen; omega
    have hp2 : ((toI (vals pre)).length + 1) * 8 ≤ 140737488355328 := by omega
    have hp3 : w.heap.size ≤ (W.alloc (.cells #[.int .i64 (x.1 : Int)] 3)).heap.size := by have := hBW.size; simp; omega
    clear bL bN hB0 hmk hrow0 hgr0 hx hpl
    gi_wp2_with (gi_at_builtin; refine wpListIn_append_own _ rfl _ _ 84 rfl w.heap.size 3 i0 (.int .i64 0) 1 8 Tryd.underlying84 hi hz0 hz1 hz2 rfl (by decide) _ _ _ rfl (hrow.alloc _) ⟨W.heap.size, 0, none⟩ 1 1 [.int .i64 (x.1 : Int)] rfl rfl (cell_one_new _ _ _) (by simp [Value.oneCell']) hp1 hp2 hp3 ?_; intro v' w1 hown' hgrow _; obtain ⟨g', cap', rfl⟩ := ownsRow_succ hown'; obtain ⟨hv1, hv2, hr2, hk2, hb2⟩ := hv.appended (by decide) hrow hBW.size hws hown' hgrow; have hc1 := hv1.cell; have hf1 := hv1.frozen)
    rw [iVals_snoc, ← toI_snoc, ← vals_snoc] at hr2
    have he : (toI (vals pre)).length + 1 = (toI (vals (pre ++ [x]))).length := by rw [vals_snoc, toI_snoc]; simp
    exact ⟨hk2.from _, hb2, ⟨_, hv2, by rw [← he]; exact hr2, trivial⟩, hBW.trans hb2⟩
  case done =>
    rintro D ys W hD hys ⟨⟨v, hv, hrow, _⟩, hBW⟩ hK
    have hc := hv.cell
    clear bL bN hB0 hmk hrow0 hgr0 hx
    rw [hys, toI_nums] at hrow
    gi_wp2
    refine ⟨by simp, .inl ⟨_, _, rfl, run_takeDeferred hK, ?_⟩⟩
    exact ⟨_, results_tmp rfl _ _ _, v, rfl, ownsRow_putObj hrow _ hK rfl, hBW.trans (belowK_b (w := w) (Nat.le_refl _) W D _ _ (by simp at hD; omega) hK rfl rfl)⟩
  case stop =>
    rintro D c pre W _ _ h _
    exact h.elim
end Go.Proofs.YtafdpimkfkddaaaDoor

namespace Go.Proofs.YtafdpimkfkddaaaDoor
open Go.RowKit Go.Shelf
set_option maxRecDepth 100000

attribute [local go_sem] Oper.semAt_some

/-- one more than the greatest, 0 of none -/
def gN (l : List Nat) : Nat := l.foldl (fun g x => max g (x + 1)) 0
theorem gN_le (l : List Nat) (h : ∀ x ∈ l, x < 65536) : gN l ≤ 65536 := by
  have : ∀ (l : List Nat) (g : Nat), g ≤ 65536 → (∀ x ∈ l, x < 65536) → l.foldl (fun g x => max g (x + 1)) g ≤ 65536 := by
    intro l
    induction l with
    | nil => intro g hg _; exact hg
    | cons a l ih => intro g hg ha; exact ih _ (by show max g (a + 1) ≤ 65536; have := ha a (by simp); omega) fun x hx => ha x (by simp [hx])
  exact this l 0 (by omega) h
theorem gN_snoc (l : List Nat) (x : Nat) : gN (l ++ [x]) = max (gN l) (x + 1) := by simp [gN]

theorem alw_lt (zs : List Int) : ∀ x ∈ alw zs, x < 65536 := fun x hx => by
  unfold alw at hx
  obtain ⟨z, _, hz⟩ := List.mem_filterMap.1 hx
  unfold okN at hz
  split at hz
  · injection hz with hz; omega
  · cases hz
theorem gN_ge (l : List Nat) : ∀ x ∈ l, x < gN l := by
  have : ∀ (l : List Nat) (g : Nat), g ≤ l.foldl (fun g x => max g (x + 1)) g ∧ ∀ x ∈ l, x < l.foldl (fun g x => max g (x + 1)) g := by
    intro l
    induction l with
    | nil => intro g; exact ⟨Nat.le_refl _, fun x hx => by cases hx⟩
    | cons a l ih =>
      intro g
      have h := ih (max g (a + 1))
      refine ⟨Nat.le_trans (by omega) h.1, fun x hx => ?_⟩
      rcases List.mem_cons.1 hx with rfl | hx
      · exact Nat.lt_of_lt_of_le (by omega) h.1
      · exact h.2 x hx
  exact (this l 0).2
theorem alw_mem (zs : List Int) (k : Nat) (hk : k < zs.length) (h1 : 0 ≤ zd zs k) (h2 : zd zs k ≤ 65535) : (zd zs k).toNat ∈ alw zs := by
  unfold alw
  refine List.mem_filterMap.2 ⟨zd zs k, ?_, by unfold okN; rw [if_pos ⟨h1, h2⟩]⟩
  unfold zd
  simp [List.getD, hk]
theorem gN_zd (zs : List Int) (k : Nat) (hk : k < zs.length) (h1 : 0 ≤ zd zs k) (h2 : zd zs k ≤ 65535) : zd zs k < (gN (alw zs) : Int) := by
  have := gN_ge (alw zs) _ (alw_mem zs k hk h1 h2)
  omega
def pw (x : Nat) : Nat := 2 ^ (x % 64)
/-- word k when the numbers of l are in -/
def setB (l : List Nat) (k : Nat) : Nat := l.foldl (fun a x => if k = x / 64 then orN a (pw x) else a) 0
theorem setB_snoc (l : List Nat) (x k : Nat) : setB (l ++ [x]) k = if k = x / 64 then orN (setB l k) (pw x) else setB l k := by simp [setB]
theorem pw_lt (x : Nat) : pw x < 18446744073709551616 := by
  have h : 2 ^ (x % 64) ≤ 2 ^ 63 := Nat.pow_le_pow_right (by omega) (by omega)
  unfold pw; omega
theorem setB_lt (l : List Nat) (k : Nat) : setB l k < 18446744073709551616 := by
  have : ∀ (l : List Nat) (a : Nat), a < 18446744073709551616 → l.foldl (fun a x => if k = x / 64 then orN a (pw x) else a) a < 18446744073709551616 := by
    intro l
    induction l with
    | nil => intro a ha; exact ha
    | cons b l ih =>
      intro a ha
      refine ih _ ?_
      show (if k = b / 64 then orN a (pw b) else a) < _
      split
      · exact orN_lt _ _ ha (pw_lt b)
      · exact ha
  exact this l 0 (by omega)
theorem ixs (x m : Nat) (h : x / 64 < m) (hx : x < 1048576) : (x : Int) / 64 < (m : Int) ∧ 0 ≤ (x : Int) / 64 ∧ (x : Int).tdiv 64 = (x : Int) / 64 ∧ IntKind.i64.wrap ((x : Int) / 64) = (x : Int) / 64 ∧ wrap64 ((x : Int) / 64) = (x : Int) / 64 ∧ (x : Int).tmod 64 = (x : Int) % 64 ∧
    ((x : Int) / 64).toNat = x / 64 ∧ ((x : Int) % 64).toNat = x % 64 ∧ 0 ≤ (x : Int) % 64 ∧ decide ((x : Int) % 64 < 0) = false :=
  ⟨by omega, by omega, by rw [Int.tdiv_eq_ediv_of_nonneg (by omega)], by rw [IntKind.wrap_i64]; omega, by unfold wrap64; omega, by rw [Int.tmod_eq_emod_of_nonneg (by omega)], by omega, by omega, by omega, by simp; omega⟩
/-- the whole set of m words -/
def ofL (l : List Nat) (m : Nat) : List Nat := (List.range m).map (setB l)
theorem ofL_len (l : List Nat) (m : Nat) : (ofL l m).length = m := by simp [ofL]
theorem ofL_nil (m : Nat) : uVals (ofL [] m) = (madeCells #[.int .u64 0] m).toList := by
  apply List.ext_getElem?
  intro i
  by_cases hi : i < m
  · rw [uVals_at _ _ (by rw [ofL_len]; exact hi)]
    unfold ofL
    rw [wd_map, if_pos hi]
    simp [setB, madeCells, hi, Nat.mod_one]
  · rw [List.getElem?_eq_none (by rw [uVals_len, ofL_len]; omega), List.getElem?_eq_none (by simp [madeCells]; omega)]
theorem ofL_snoc (l : List Nat) (x m : Nat) : (uVals (ofL l m)).set (x / 64) (.int .u64 (orN (setB l (x / 64)) (pw x) : Int)) = uVals (ofL (l ++ [x]) m) := by
  rw [show (uVals (ofL l m)).set (x / 64) (.int .u64 (orN (setB l (x / 64)) (pw x) : Int)) = uVals ((ofL l m).set (x / 64) (orN (setB l (x / 64)) (pw x))) by unfold uVals; rw [List.map_set]]
  congr 1
  apply List.ext_getElem (by simp [ofL])
  intro i h1 h2
  have hi : i < m := by simpa [ofL] using h2
  by_cases e : i = x / 64
  · subst e; simp [ofL, setB_snoc]
  · simp [ofL, setB_snoc, e, List.getElem_set_ne (Ne.symm e)]
theorem or_pw (a x : Nat) (ha : a < 18446744073709551616) : bits .or .u64 (a : Int) (IntKind.u64.wrap (2 ^ (x % 64))) = (orN a (pw x) : Int) := by
  have e : IntKind.u64.wrap ((2 : Int) ^ (x % 64)) = (pw x : Int) := by
    have h := pw_lt x
    have e : ((2 : Int) ^ (x % 64)) = ((pw x : Nat) : Int) := by simp [pw]
    rw [e, IntKind.wrap_u64]; omega
  rw [e]
  exact u64_or_nat a (pw x) ha (pw_lt x)

theorem of_step {w X X' : World} {Bb b D m : Nat} {o : Obj} (pre : List Nat) (y : Nat) (hb : w.heap.size ≤ b) (hne : Bb ≠ b) (hDb : D ≠ b) (hV : Boxed X Bb 77 (.slice (some ⟨b, 0, none⟩) m m))
    (hrow : X.ownsRow w.heap.size 34 1 (.slice (some ⟨b, 0, none⟩) m m) m (uVals (ofL pre m))) (hB : Below w.heap.size w X) (hD : X.heap[D]? = some o)
    (hX : X' = (X.setCell ⟨b, y / 64, none⟩ (.int .u64 (orN (setB pre (y / 64)) (pw y) : Int))).drew) :
    KeepsOthers X X' ∧ Below w.heap.size X X' ∧ (∃ v, Boxed X' Bb 77 v ∧ X'.ownsRow w.heap.size 34 1 v m (uVals (ofL (pre ++ [y]) m)) ∧ v = .slice (some ⟨b, 0, none⟩) m m) ∧ Below w.heap.size w X' ∧ X'.heap[D]? = some o := by
  subst hX
  have hr := (hrow.stored (y / 64) (.int .u64 (orN (setB pre (y / 64)) (pw y) : Int))).1
  rw [ofL_snoc] at hr
  refine ⟨(KeepsOthers.setCell _ _ _).trans (KeepsOthers.drew _), ((Below.refl _ X).setCell (p := ⟨b, y / 64, none⟩) hb _).drew, ⟨_, ?_, hr.drew, rfl⟩, (hB.setCell (p := ⟨b, y / 64, none⟩) hb _).drew, ?_⟩
  · show (X.setCell _ _).heap[Bb]? = _
    rw [Below.heap_setCell _ _ _ _ hne]
    exact hV
  · show (X.setCell _ _).heap[D]? = _
    rw [Below.heap_setCell _ _ _ _ hDb]
    exact hD
/-- the answer of bitset.Of -/
def ofS (zs : List Int) : List Nat := ofL (alw zs) ((gN (alw zs) + 63) / 64)

set_option maxRecDepth 100000 in
set_option maxHeartbeats 2000000 in
theorem of_in (F : Fence) (n : Nat) (h9 : F.fn 40) (h21 : F.fn 50) (h33 : F.fn 53) (hro : F.round = none) (hn : 3 ≤ n) (A : Option Addr) (c : Nat) (zs : List Int) (w : World) (hx : RdI w w.heap.size A zs) :
    CallsIn F n Tryd.prog 40 #[.slice A zs.length c] w fun e w' => ∃ v, e = .returned v ∧ w'.ownsRow w.heap.size 34 1 v (ofS zs).length (uVals (ofS zs)) ∧ Below w.heap.size w w' := by
  have h1 : 1 ≤ n := by omega
  have hroom := hx.room
  obtain ⟨i0, hi, hz0, hz1, hz2⟩ := info_parts Tryd.infoU64
  refine callsIn_of_wp_marks Tryd.func40 rfl h9 ?_ hro
  simp only [Tryd.ntmps40, List.size_toArray, List.length_cons, List.length_nil, Nat.reduceAdd, Nat.reduceSub, Array.replicate_succ, Array.replicate_zero, List.push_toArray, List.append_toArray, List.nil_append, List.cons_append]
  gi_wp2_with (gi_at_call 50; refine (allowed_in F (n - 1) h21 hro _ _ _ _).mono ?_; rintro e w' ⟨rfl, rfl⟩)
  have bG := Boxed.new w 3 (.int .i64 (-1))
  have bL := Boxed.new (w.alloc (.cells #[.int .i64 (-1)] 3)) 84 (.slice A zs.length c)
  rw [World.size_alloc] at bL
  have hB0 : Below w.heap.size w ((w.alloc (.cells #[.int .i64 (-1)] 3)).alloc (.cells #[.slice A zs.length c] 84)) := ((Below.refl _ w).alloc (Nat.le_refl _) _).alloc (by simp) _
  refine wpIn_rangeFunc_ownF hro h1 (gf := 53) (lb := #[.pointer (some ⟨w.heap.size + 1, 0, none⟩)]) rfl h33 (enters_of Tryd.func53 (by kernel_rfl) rfl)
    (allowed_stops F (n - 1) h33 hro (by omega) (w.heap.size + 1) w.heap.size c A zs 65536 (fun k _ _ h => by omega) _ (by simp) (by simp; omega) bL.cell (hx.below hB0)) belowK_t (belowK_b (by simp; omega)) (Below.refl _ _) (fun _ => rfl)
    (fun pre W => Boxed W w.heap.size 3 (.int .i64 ((gN (vals pre) : Int) - 1)) ∧ Below w.heap.size w W)
    (fun _ _ _ => False)
    (OwnFrom.and (Own.from (boxed_own _ _ _) _) (ownFrom_below (Nat.le_refl _) (by simp; omega)))
    (fun _ _ _ _ _ hs _ _ => hs)
    ⟨bG.alloc _, hB0⟩
    (fun x => { tmps := #[.slice A zs.length c, undef, .slice none 0 0, .pointer (some ⟨w.heap.size, 0, none⟩), .int .i64 (x.1 : Int), undef, undef, .slice A zs.length c, .func (.func 53) #[] #[.pointer (some ⟨w.heap.size + 1, 0, none⟩)], .int .i64 (x.1 : Int), undef, undef, undef, undef, undef, undef, undef, undef, undef, undef, undef, undef, undef, undef, undef, undef, undef, undef, undef, undef, undef], defers := [] }) ?assign1 ?body1 ?done1 ?stop1
  case assign1 =>
    intro l x W K hK
    gi_wp2
    exact hK
  case body1 =>
    rintro l pre x W ⟨hG, hB⟩ _
    have hc := hG.cell
    have hf := hG.frozen
    have hxl := x.2
    gi_wp2
    all_goals
      have e : (gN (vals (pre ++ [x])) : Int) - 1 = max ((gN (vals pre) : Int) - 1) (x.1 : Int) := by rw [vals_snoc, gN_snoc]; omega
      refine ⟨KeepsOthers.setCell _ _ _, (Below.refl _ W).setCell (p := ⟨w.heap.size, 0, none⟩) (Nat.le_refl _) _, ?_, hB.setCell (p := ⟨w.heap.size, 0, none⟩) (Nat.le_refl _) _⟩
      show Boxed _ _ _ (.int .i64 ((gN (vals (pre ++ [x])) : Int) - 1))
      rw [e]
      first
        | (rw [Int.max_eq_right (by omega)]; exact hG.set _)
        | (rw [Int.max_eq_left (by omega)]; exact hG.set _)
  case done1 =>
    rintro D ys W hD hys ⟨hG, hB⟩ hK
    have hc := hG.cell
    have hgl := gN_le (vals ys) (fun x hx => by unfold vals at hx; obtain ⟨y, _, rfl⟩ := List.mem_map.1 hx; exact y.2)
    rw [hys] at hc hgl
    obtain ⟨g, hg⟩ : ∃ g, g = gN (alw zs) := ⟨_, rfl⟩
    rw [← hg] at hc hgl
    have HGN := Lib.hid hg
    have HDge := Lib.hid hD
    clear hg hys hG
    obtain ⟨m, hm⟩ : ∃ m, m = (g + 63) / 64 := ⟨_, rfl⟩
    have hml : m ≤ 1024 := by omega
    have hgl2 : g ≤ 65536 := hgl
    have em : ((g : Int) - 1 + 64) / 64 = (m : Int) := by omega
    have HM := Lib.hid hm
    clear hm
    have hmk : ∀ u : World, (Instr.makeSlice 77 (.int .i64 (m : Int)) (.int .i64 (m : Int))).run Tryd.prog u = .ok (.slice (some ⟨u.heap.size, 0, none⟩) m m) (u.alloc (.cells (madeCells #[.int .u64 0] m) 34)) := fun u => by
      have h := run_make (P := Tryd.prog) u 77 34 i0 (.int .u64 0) Tryd.underlying77 hi hz0 .i64 .i64 (m : Int) (m : Int) (by omega) (Int.le_refl _) (by rw [hz2]; omega) (by omega)
      simpa [hz1, Value.cells] using h
    have hBs := hB.size
    gi_wp2_with (gi_at_call 50; refine (allowed_in F (n - 1) h21 hro _ _ _ _).mono ?_; rintro e w' ⟨rfl, rfl⟩)
    have hrow0 : (W.alloc (.cells (madeCells #[.int .u64 0] m) 34)).ownsRow w.heap.size 34 1 (.slice (some ⟨W.heap.size, 0, none⟩) m m) m (uVals (ofL [] m)) := by
      obtain ⟨w', hrun, r1, _⟩ := run_make_full (P := Tryd.prog) W w.heap.size 77 34 i0 (.int .u64 0) 1 Tryd.underlying77 hi hz0 hz1 .i64 .i64 m (by rw [hz2]; omega) (by unfold maxLen; omega) hBs
      rw [hmk W] at hrun
      injection hrun with _ hw
      rw [hw, ofL_nil]
      simpa [Value.cells] using r1
    have bV := Boxed.new (W.alloc (.cells (madeCells #[.int .u64 0] m) 34)) 77 (.slice (some ⟨W.heap.size, 0, none⟩) m m)
    have bN := Boxed.new ((W.alloc (.cells (madeCells #[.int .u64 0] m) 34)).alloc (.cells #[.slice (some ⟨W.heap.size, 0, none⟩) m m] 77)) 84 (.slice A zs.length c)
    simp only [World.size_alloc] at bV bN
    have hB2 : Below w.heap.size w (((W.alloc (.cells (madeCells #[.int .u64 0] m) 34)).alloc (.cells #[.slice (some ⟨W.heap.size, 0, none⟩) m m] 77)).alloc (.cells #[.slice A zs.length c] 84)) :=
      ((hB.alloc hBs _).alloc (by simp; omega) _).alloc (by simp; omega) _
    have hDlt : D < W.heap.size := (Array.getElem?_eq_some_iff.1 hK).1
    have hgz : ∀ k, k < zs.length → 0 ≤ zd zs k → zd zs k ≤ 65535 → zd zs k < (g : Int) := fun k hk h1 h2 => by rw [HGN.out]; exact gN_zd zs k hk h1 h2
    refine wpIn_rangeFunc_ownF hro h1 (gf := 53) (lb := #[.pointer (some ⟨W.heap.size + 1 + 1, 0, none⟩)]) rfl h33 (enters_of Tryd.func53 (by kernel_rfl) rfl)
      (allowed_stops F (n - 1) h33 hro (by omega) (W.heap.size + 1 + 1) w.heap.size c A zs g hgz _ (by simp) (by simp; omega) bN.cell (hx.below hB2)) belowK_t (belowK_b (by simp; omega)) (Below.refl _ _) (fun _ => rfl)
      (fun pre X => (∃ v, Boxed X (W.heap.size + 1) 77 v ∧ X.ownsRow w.heap.size 34 1 v m (uVals (ofL (vals pre) m)) ∧ v = .slice (some ⟨W.heap.size, 0, none⟩) m m) ∧ (Below w.heap.size w X ∧ X.heap[D]? = some (.deferred (some []))))
      (fun _ _ _ => False)
      (OwnFrom.and (Own.from (holdsRow_own w.heap.size (W.heap.size + 1) 77 34 1 (fun _ => m) (fun pre => uVals (ofL (vals pre) m)) (fun _ v => v = .slice (some ⟨W.heap.size, 0, none⟩) m m)) _) (OwnFrom.and (ownFrom_below (Nat.le_refl _) (by simp; omega)) (fun s X Y row hs hg hr => (hg.block D (Array.getElem?_eq_some_iff.1 hs).1 (fun e => by have := (hr D e.symm).1; simp at this; omega)).trans hs)))
      (fun _ _ _ _ _ hs _ _ => hs)
      ⟨⟨_, bV.alloc _, (hrow0.alloc _).alloc _, rfl⟩, hB2, (Below.heap_alloc _ _ _ (by simp; omega)).trans ((Below.heap_alloc _ _ _ (by simp; omega)).trans ((Below.heap_alloc _ _ _ hDlt).trans hK))⟩
      (fun x => { tmps := #[.slice A zs.length c, undef, .slice none 0 0, .pointer (some ⟨w.heap.size, 0, none⟩), undef, .pointer (some ⟨W.heap.size + 1, 0, none⟩), .int .i64 (x.1 : Int), .slice A zs.length c, .func (.func 53) #[] #[.pointer (some ⟨w.heap.size + 1, 0, none⟩)], undef, undef, undef, undef, .int .i64 ((g : Int) - 1), .int .i64 ((g : Int) - 1 + 64), .int .i64 (m : Int), .slice (some ⟨W.heap.size, 0, none⟩) m m, .slice A zs.length c, .func (.func 53) #[] #[.pointer (some ⟨W.heap.size + 1 + 1, 0, none⟩)], .int .i64 (x.1 : Int), undef, undef, undef, undef, undef, undef, undef, undef, undef, undef, undef], defers := [] }) ?assign2 ?body2 ?done2 ?stop2
    case assign2 =>
      intro l x W K hK
      gi_wp2
      exact hK
    case body2 =>
      rintro l pre x X ⟨⟨v, hV, hrow, rfl⟩, hBX, hD2⟩ _
      have hc2 := hV.cell
      have hxm : x.1 / 64 < m := by have := x.2; have := HM.out; omega
      have hcell : X.cell? ⟨W.heap.size, x.1 / 64, none⟩ = some (.int .u64 (setB (vals pre) (x.1 / 64) : Int)) := by
        rw [hrow.cellAt (x.1 / 64) (by omega), uVals_at _ _ (by rw [ofL_len]; exact hxm)]
        unfold ofL
        rw [wd_map, if_pos hxm]
      have hfz : X.frozen? ⟨W.heap.size, x.1 / 64, none⟩ = false := hrow.frozenAt _
      have hxl := x.2
      have hor := or_pw (setB (vals pre) (x.1 / 64)) x.1 (setB_lt _ _)
      have hlt16 : x.1 < 65536 := by omega
      have hmo : Tryd.prog.follows .mixedOrders = true := by kernel_rfl
      have HF := Lib.hid (of_step (vals pre) x.1 hBs (by omega) (by omega) hV hrow hBX hD2 rfl)
      rw [← vals_snoc] at HF
      clear hV hrow hBX hD2 bG bL hB0 bV bN hB2 hrow0 hmk hgz hc em hK hD hB hx hgl hgl2 hxl hroom hi hz0 hz1 hz2 hBs hDlt
      have Hx : Hid (∃ y : Nat, y = x.1) := Lib.hid ⟨_, rfl⟩
      obtain ⟨y, hy⟩ := Hx.out
      clear Hx
      have Hy := Lib.hid hy
      rw [← hy] at hxm hcell hfz hor hlt16 HF
      rw [← hy]
      clear hy
      obtain ⟨k, r, hk, hr⟩ : ∃ k r : Nat, k = y / 64 ∧ r = y % 64 := ⟨_, _, rfl, rfl⟩
      have e1 : IntKind.i64.wrap ((y : Int) / 64) = (k : Int) := by rw [IntKind.wrap_i64]; omega
      have e2 : (y : Int).tmod 64 = (r : Int) := by rw [Int.tmod_eq_emod_of_nonneg (by omega)]; omega
      have hr64 : r < 64 := by omega
      have Hk := Lib.hid hk
      have Hr := Lib.hid hr
      rw [← hk] at hxm hcell hfz hor HF
      rw [← hr] at hor
      clear hk hr
      gi_wp2
      gi_region_with_o (fail)
      all_goals
        gi_wp2
        exact HF.out
    case done2 =>
      rintro D2 ys X hD2 hys ⟨⟨v, hV, hrow, rfl⟩, hBX, hDX⟩ hK2
      have hc2 := hV.cell
      clear bG bL hB0 hB2 bV bN hrow0 hmk hgz hc em hx hD hB hK
      gi_wp2
      have hne1 : D ≠ D2 := by simp at hD2; omega
      refine ⟨by simp, .inl ⟨_, _, rfl, run_takeDeferred hK2, ?_⟩⟩
      refine ⟨by simp, .inl ⟨_, _, rfl, run_takeDeferred ((World.putObj_heap_other hne1).trans hDX), ?_⟩⟩
      refine ⟨_, results_tmp rfl _ _ _, _, rfl, ?_⟩
      have hD2g : W.heap.size < D2 := by simp at hD2; omega
      have g1 := grownBy_putObj' X D2 (.deferred none)
      have g2 := grownBy_putObj' (X.putObj D2 (.deferred none)) D (.deferred none)
      have r2 := (hrow.kept g1 (.inr (by simp [Value.ownBlock]; omega))).kept g2 (.inr (by simp [Value.ownBlock]; omega))
      have hXs := hBX.size
      have hDge : w.heap.size ≤ D := by have := HDge.out; simp at this; omega
      have b2 := (hBX.grown g1 (by omega) (fun k e => by cases e; omega)).grown g2 (by simp; omega) (fun k e => by cases e; omega)
      refine ⟨?_, b2⟩
      have e2 : (ofS zs).length = m := by unfold ofS; rw [ofL_len, ← HGN.out, ← HM.out]
      rw [e2]
      rw [hys, show ofL (alw zs) m = ofS zs by unfold ofS; rw [← HGN.out, ← HM.out]] at r2
      exact r2
    case stop2 =>
      rintro D c pre W _ _ h _
      exact h.elim
  case stop1 =>
    rintro D c pre W _ _ h _
    exact h.elim
end Go.Proofs.YtafdpimkfkddaaaDoor

namespace Go.Proofs.YtafdpimkfkddaaaDoor
open Go.RowKit
set_option maxRecDepth 100000

theorem ofS_wd (zs : List Int) (k : Nat) : wd (ofS zs) k < 18446744073709551616 := by
  unfold ofS ofL
  rw [wd_map]
  split
  · exact setB_lt _ _
  · omega
theorem ofS_len (zs : List Int) : (ofS zs).length ≤ 1024 := by
  unfold ofS
  rw [ofL_len]
  have := gN_le (alw zs) (alw_lt zs)
  omega
theorem of_any (A : Option Addr) (c : Nat) (zs : List Int) (w : World) (hx : RdI w w.heap.size A zs) :
    Calls Tryd.prog 40 #[.slice A zs.length c] w fun e w' => ∃ A1 c1, e = .returned (.slice A1 (ofS zs).length c1) ∧ RdU w' w'.heap.size A1 (ofS zs) ∧ Below w.heap.size w w' :=
  (callsIn_wide.1 (of_in Fence.wide 3 trivial trivial trivial rfl (Nat.le_refl _) A c zs w hx)).mono fun e w' ⟨v, he, hown, hb⟩ => by
    have hl := ofS_len zs
    obtain ⟨A1, c1, rfl, hr⟩ := own_rdU hown (ofS_wd zs) (by omega)
    exact ⟨A1, c1, he, hr, hb⟩
theorem alist_zd (xs : List Nat) (n k : Nat) : 0 ≤ zd (alist xs n) k ∧ zd (alist xs n) k ≤ n := by
  unfold zd
  by_cases h : k < (alist xs n).length
  · have hm := List.getElem_mem h
    simp only [List.getD, List.getElem?_eq_getElem h, Option.getD_some]
    generalize (alist xs n)[k] = z at hm
    unfold alist at hm
    obtain ⟨j, hj, rfl⟩ := List.mem_map.1 hm
    have := List.mem_range.1 (List.mem_filter.1 hj).1
    omega
  · simp only [List.getD, List.getElem?_eq_none (by omega : (alist xs n).length ≤ k), Option.getD_none]
    omega
theorem list_any (A : Option Addr) (c : Nat) (xs : List Nat) (w : World) (hx : RdU w w.heap.size A xs) (hroom : xs.length ≤ 1048576) (hT : Tab w) :
    Calls Tryd.prog 44 #[.slice A xs.length c] w fun e w' => ∃ A1 c1, e = .returned (.slice A1 (alist xs (64 * xs.length)).length c1) ∧ RdI w' w'.heap.size A1 (alist xs (64 * xs.length)) ∧ Below w.heap.size w w' :=
  (callsIn_wide.1 (list_in 3 (Nat.le_refl _) A c xs w hx hroom hT)).mono fun e w' ⟨v, he, hown, hb⟩ => by
    have hl := alist_le xs (64 * xs.length)
    obtain ⟨A1, c1, rfl, hr⟩ := own_rdI hown (fun k => by have := alist_zd xs (64 * xs.length) k; omega) (fun k => by have := alist_zd xs (64 * xs.length) k; omega) (by omega)
    exact ⟨A1, c1, he, hr, hb⟩

theorem rdI_lit (w : World) (t : TypeId) (zs : List Int) (lo : ∀ k, -9223372036854775808 ≤ zd zs k) (hi : ∀ k, zd zs k ≤ 9223372036854775807) (hl : zs.length ≤ 1152921504606846976) :
    RdI (w.alloc (.cells (iVals zs).toArray t)) (w.alloc (.cells (iVals zs).toArray t)).heap.size (some ⟨w.heap.size, 0, none⟩) zs :=
  ⟨lo, hi, hl, fun _ => ⟨w.heap.size, 0, rfl, by simp, fun k hk => by
    have h := iVals_at zs k hk
    simp only [World.cell?, World.alloc_heap_new, Nat.zero_add]
    simpa using h⟩⟩
theorem zd_lo (zs : List Int) (h : ∀ z ∈ zs, -9223372036854775808 ≤ z ∧ z ≤ 9223372036854775807) (k : Nat) : -9223372036854775808 ≤ zd zs k ∧ zd zs k ≤ 9223372036854775807 := by
  unfold zd
  by_cases hk : k < zs.length
  · simp only [List.getD, List.getElem?_eq_getElem hk, Option.getD_some]
    exact h _ (List.getElem_mem hk)
  · simp only [List.getD, List.getElem?_eq_none (by omega : zs.length ≤ k), Option.getD_none]
    omega
theorem rd_lit (w : World) (t : TypeId) (zs : List Int) (h : ∀ z ∈ zs, -9223372036854775808 ≤ z ∧ z ≤ 9223372036854775807) (hl : zs.length ≤ 1152921504606846976) :
    RdI (w.alloc (.cells (iVals zs).toArray t)) (w.alloc (.cells (iVals zs).toArray t)).heap.size (some ⟨w.heap.size, 0, none⟩) zs :=
  rdI_lit w t zs (fun k => (zd_lo zs h k).1) (fun k => (zd_lo zs h k).2) hl
theorem below_alloc (w : World) (o : Obj) : Below w.heap.size w (w.alloc o) := (Below.refl _ w).alloc (Nat.le_refl _) _

end Go.Proofs.YtafdpimkfkddaaaDoor
