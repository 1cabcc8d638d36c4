/-
  bitset.List answers the set's numbers in increasing order, for every set of at most 2^20 words, where the library's table holds its own numbers.
-/
import Derived.Test.YtaboafkpmgadmaaDoorBsElem
import Derived.Maps.AppendAt
import Derived.RangeFuncNested
namespace Go.Proofs.YtaboafkpmgadmaaDoor
open Go.RowKit Go.Shelf
set_option maxRecDepth 100000

attribute [local go_sem] Oper.semAt_some

def toI (l : List Nat) : List Int := l.map fun (k : Nat) => (k : Int)
theorem toI_len (l : List Nat) : (toI l).length = l.length := by simp [toI]
theorem toI_snoc (l : List Nat) (x : Nat) : toI (l ++ [x]) = toI l ++ [(x : Int)] := by simp [toI]
theorem toI_nums (xs : List Nat) (n : Nat) : toI (nums xs n) = alist xs n := rfl

set_option maxRecDepth 100000 in
set_option maxHeartbeats 2000000 in
theorem list_in (n : Nat) (hn : 3 ≤ n) (A : Option Addr) (c : Nat) (xs : List Nat) (w : World) (hx : RdU w w.heap.size A xs) (hroom : xs.length ≤ 1048576) (hT : Tab w) :
    CallsIn Fence.wide n Tryd.prog 27 #[.slice A xs.length c] w fun e w' => ∃ v, e = .returned v ∧ w'.ownsRow w.heap.size 3 1 v (alist xs (64 * xs.length)).length (iVals (alist xs (64 * xs.length))) ∧ Below w.heap.size w w' := by
  have h1 : 1 ≤ n := by omega
  obtain ⟨i0, hi, hz0, hz1, hz2⟩ := info_parts Tryd.infoInt
  refine callsIn_of_wp_marks Tryd.func27 rfl trivial ?_ rfl
  simp only [Tryd.ntmps27, List.size_toArray, List.length_cons, List.length_nil, Nat.reduceAdd, Nat.reduceSub, Array.replicate_succ, Array.replicate_zero, List.push_toArray, List.append_toArray, List.nil_append, List.cons_append]
  have hsz := alist_ones xs xs.length
  have hle := alist_le xs (64 * xs.length)
  obtain ⟨m, hm⟩ : ∃ m, m = ones xs xs.length := ⟨_, rfl⟩
  rw [hsz, ← hm] at hle
  have HM := Lib.hid hm
  clear hm hsz
  obtain ⟨wm, hmk, hrow0, hgr0⟩ := run_make_own (P := Tryd.prog) w w.heap.size 25 3 i0 (.int .i64 0) 1 Tryd.underlying25 hi hz0 hz1 .i64 .i64 m (by rw [hz2]; omega) (by unfold maxLen; omega) (Nat.le_refl _)
  gi_wp2_with (first | (refine ⟨trivial, ?_⟩; refine (callsIn_wide.2 (size_any A c xs _ hx (by omega))).mono ?_; rw [← HM.out]; rintro e w' ⟨rfl, rfl⟩) | (refine ⟨trivial, ?_⟩; refine (elements_in (n - 1) _ _ _ _).mono ?_; rintro e w' ⟨rfl, rfl⟩))
  have hws := hgr0.size
  have hTn := hT.pos
  have hB : Below w.heap.size w wm := (Below.refl _ w).grown hgr0 (Nat.le_refl _) (fun k e => by cases e)
  have bL := Boxed.new wm 25 (.slice (some ⟨w.heap.size, 0, none⟩) 0 m)
  have bN := Boxed.new (wm.alloc (.cells #[.slice (some ⟨w.heap.size, 0, none⟩) 0 m] 25)) 49 (.slice A xs.length c)
  rw [World.size_alloc] at bN
  have hB0 : Below w.heap.size w ((wm.alloc (.cells #[.slice (some ⟨w.heap.size, 0, none⟩) 0 m] 25)).alloc (.cells #[.slice A xs.length c] 49)) := (hB.alloc hws _).alloc (by simp; omega) _
  refine wpIn_rangeFunc_ownG rfl h1 (gf := 101) (lb := #[.pointer (some ⟨wm.heap.size + 1, 0, none⟩)]) rfl trivial (enters_of Tryd.func101 (by kernel_rfl) rfl)
    (elements_stops (n - 1) (by omega) (wm.heap.size + 1) w.heap.size c A xs hroom _ (by simp) (by simp; omega) bN.cell (hx.below hB0) (hT.step hB0) hTn) belowK_t (belowK_b (by simp; omega)) (Below.refl _ _) (fun _ => rfl)
    (fun pre W => (∃ v, Boxed W wm.heap.size 25 v ∧ W.ownsRow w.heap.size 3 1 v (toI (vals pre)).length (iVals (toI (vals pre))) ∧ True) ∧ Below w.heap.size w W)
    (fun _ _ _ => False)
    (OwnFrom.and (Own.from (holdsRow_own w.heap.size wm.heap.size 25 3 1 (fun pre => (toI (vals pre)).length) (fun pre => iVals (toI (vals pre))) (fun _ _ => True)) _) (ownFrom_below (Nat.le_refl _) (by simp; omega)))
    (fun _ _ _ _ _ hs _ _ => hs)
    ⟨⟨_, bL.alloc _, (hrow0.alloc _).alloc _, trivial⟩, hB0⟩
    (fun x => { tmps := #[.slice A xs.length c, undef, .slice none 0 0, .pointer (some ⟨wm.heap.size, 0, none⟩), .int .i64 (x.1 : Int), .slice A xs.length c, .int .i64 m, .slice (some ⟨w.heap.size, 0, none⟩) 0 m, .slice A xs.length c, .func (.func 101) #[] #[.pointer (some ⟨wm.heap.size + 1, 0, none⟩)], .int .i64 (x.1 : Int), undef, undef, undef, undef, undef], defers := [] }) ?assign ?body ?done ?stop
  case assign =>
    intro l x W K hK
    gi_wp2
    exact hK
  case body =>
    rintro l pre x W ⟨⟨v, hv, hrow, _⟩, hBW⟩ hlt
    have hc := hv.cell
    have hpl : (toI (vals pre)).length = pre.length := by rw [toI_len, vals_len]
    have hp1 : (toI (vals pre)).length + 1 ≤ maxLen := by unfold maxLen; omega
    have hp2 : ((toI (vals pre)).length + 1) * 8 ≤ 140737488355328 := by omega
    have hp3 : w.heap.size ≤ (W.alloc (.cells #[.int .i64 (x.1 : Int)] 3)).heap.size := by have := hBW.size; simp; omega
    clear bL bN hB0 hmk hrow0 hgr0 hx hpl
    gi_wp2_with (gi_at_builtin; refine wpListIn_append_own _ rfl _ _ 25 rfl w.heap.size 3 i0 (.int .i64 0) 1 8 Tryd.underlying25 hi hz0 hz1 hz2 rfl (by decide) _ _ _ rfl (hrow.alloc _) ⟨W.heap.size, 0, none⟩ 1 1 [.int .i64 (x.1 : Int)] rfl rfl (cell_one_new _ _ _) (by simp [Value.oneCell']) hp1 hp2 hp3 ?_; intro v' w1 hown' hgrow _; obtain ⟨g', cap', rfl⟩ := ownsRow_succ hown'; obtain ⟨hv1, hv2, hr2, hk2, hb2⟩ := hv.appended (by decide) hrow hBW.size hws hown' hgrow; have hc1 := hv1.cell; have hf1 := hv1.frozen)
    rw [iVals_snoc, ← toI_snoc, ← vals_snoc] at hr2
    have he : (toI (vals pre)).length + 1 = (toI (vals (pre ++ [x]))).length := by rw [vals_snoc, toI_snoc]; simp
    exact ⟨hk2.from _, hb2, ⟨_, hv2, by rw [← he]; exact hr2, trivial⟩, hBW.trans hb2⟩
  case done =>
    rintro D ys W hD hys ⟨⟨v, hv, hrow, _⟩, hBW⟩ hK
    have hc := hv.cell
    clear bL bN hB0 hmk hrow0 hgr0 hx
    rw [hys, toI_nums] at hrow
    gi_wp2
    refine ⟨by simp, .inl ⟨_, _, rfl, run_takeDeferred hK, ?_⟩⟩
    exact ⟨_, results_tmp rfl _ _ _, v, rfl, ownsRow_putObj hrow _ hK rfl, hBW.trans (belowK_b (w := w) (Nat.le_refl _) W D _ _ (by simp at hD; omega) hK rfl rfl)⟩
  case stop =>
    rintro D c pre W _ _ h _
    exact h.elim
end Go.Proofs.YtaboafkpmgadmaaDoor
