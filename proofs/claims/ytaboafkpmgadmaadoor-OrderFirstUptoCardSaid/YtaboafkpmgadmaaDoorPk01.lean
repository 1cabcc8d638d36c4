/-
  Contracts of bitset.And, Or, Less over bitset.merge, for every two slices of words.
  bitset.And, Or and Less by their merge, for every two slices of words; slices.Equal at two slices with the same words; what stays when memory grows.
  slices.Equal over ints, for every two slices of ints.
  A loop over an iterator that keeps memory of its own between two rounds: the loop's body owns a set of blocks, the iterator turns none of these, and the body turns none but these and new ones. The contract of such an iterator, and the law of the loop over it. No condition.
-/
import Derived.Test.YtaboafkpmgadmaaDoorPk00
import Derived.RangeFuncBox
import Derived.RangeFuncBound
import Derived.RangeFuncCalls
import Derived.RangeFuncLeaves
import Derived.Deep.Draws
namespace Go.Proofs.YtaboafkpmgadmaaDoor
open Go.RowKit
set_option maxRecDepth 100000

theorem Tryd.infoU64 : (Tryd.prog.info? 54).map (fun i => (i.zero, i.size, i.bytes)) = some (some (.int .u64 0), 1, 8) := by kernel_rfl

/-- what merge's second loop holds when k words are written -/
def MrgAt (w : World) (base : Nat) (h : Nat → Nat) (n k : Nat) (c : Nat) (g : Nat) : Prop :=
  ∃ L : List Value, w.ownsRow base 54 1 (.slice (some ⟨g, 0, none⟩) n c) n L ∧ (∀ j, j < k → L[j]? = some (.int .u64 (h j : Int))) ∧ L.length = n
theorem MrgAt.cell {w : World} {base n k c g : Nat} {h : Nat → Nat} (H : MrgAt w base h n k c g) (hk : k < n) : ∃ v, w.cell? ⟨g, k, none⟩ = some v := by
  obtain ⟨L, hown, _, hl⟩ := H
  rw [hown.cellAt k (by omega)]
  exact ⟨_, List.getElem?_eq_getElem (by omega)⟩
theorem MrgAt.frozen {w : World} {base n k c g : Nat} {h : Nat → Nat} (H : MrgAt w base h n k c g) : w.frozen? ⟨g, k, none⟩ = false := by
  obtain ⟨L, hown, _, hl⟩ := H
  exact hown.frozenAt k
theorem MrgAt.step {w : World} {base n k c g : Nat} {h : Nat → Nat} (H : MrgAt w base h n k c g) (hk : k < n) : MrgAt (w.setCell ⟨g, k, none⟩ (.int .u64 (h k : Int))) base h n (k + 1) c g := by
  obtain ⟨L, hown, hL, hl⟩ := H
  refine ⟨L.set k (.int .u64 (h k : Int)), (hown.stored k _).1, fun j hj => ?_, by simp [hl]⟩
  by_cases e : j = k
  · subst e; simp [hl, hk]
  · rw [List.getElem?_set_ne (by omega)]; exact hL j (by omega)
theorem MrgAt.base_le {w : World} {base n k c g : Nat} {h : Nat → Nat} (H : MrgAt w base h n k c g) : base ≤ g := by
  obtain ⟨L, hown, _⟩ := H
  exact own_base hown g rfl
theorem MrgAt.done {w : World} {base n c g : Nat} {h : Nat → Nat} (H : MrgAt w base h n n c g) : w.ownsRow base 54 1 (.slice (some ⟨g, 0, none⟩) n c) n (uVals ((List.range n).map h)) := by
  obtain ⟨L, hown, hL, hl⟩ := H
  have e : L = uVals ((List.range n).map h) := by
    apply List.ext_getElem?
    intro j
    by_cases hj : j < n
    · rw [hL j hj, uVals_at _ _ (by simpa using hj), wd_map, if_pos hj]
    · rw [List.getElem?_eq_none (by omega), List.getElem?_eq_none (by rw [uVals_len]; simp; omega)]
  rw [← e]; exact hown


set_option maxHeartbeats 2000000 in
/-- merge with andN -/
theorem mergeandN_any (A A' : Option Addr) (c c' : Nat) (xs ys : List Nat) (w : World) (hx : RdU w w.heap.size A xs) (hy : RdU w w.heap.size A' ys) (hxl : xs.length ≤ 35184372088832) (hyl : ys.length ≤ 35184372088832) :
    Calls Tryd.prog 84 #[.slice A xs.length c, .slice A' ys.length c', .func (.func 106) #[] #[]] w fun e w' => ∃ v, e = .returned v ∧ w'.ownsRow w.heap.size 54 1 v (mrg andN xs ys).length (uVals (mrg andN xs ys)) ∧ Below w.heap.size w w' := by
  obtain ⟨i0, hi, hz0, hz1, hz2⟩ := info_parts Tryd.infoU64
  obtain ⟨q, hh⟩ : ∃ q : Nat → Nat, q = fun k => andN (wd xs k) (wd ys k) := ⟨_, rfl⟩
  obtain ⟨N, hN⟩ : ∃ N, N = max xs.length ys.length := ⟨_, rfl⟩
  have hNl : N ≤ 35184372088832 := by omega
  have hhk : ∀ k, andN (wd xs k) (wd ys k) = q k := fun k => by rw [hh]
  have HH := Lib.hid hhk
  have HN := Lib.hid hN
  have HR : Hid (mrg andN xs ys = (List.range (trim q N)).map q) := by unfold mrg; rw [← hh, ← hN]; exact rfl
  clear hhk hh hN
  go_enter Tryd.func84, Tryd.ntmps84
  go_wp2
  all_goals
    go_loop [7] (fun i => ∃ k : Nat, k ≤ N ∧ i = .int .i64 k ∧ Hid (trim q N = trim q k)) (fun i => (intOf i).toNat)
    case atStart =>
      have hN := HN.out
      first
        | exact ⟨ys.length, by omega, rfl, by rw [show N = ys.length by omega]; exact rfl⟩
        | exact ⟨xs.length, by omega, rfl, by rw [show N = xs.length by omega]; exact rfl⟩
    case round =>
      obtain ⟨k, hk, rfl, ht⟩ := hrel
      have h3 : (∃ m, k = m + 1 ∧ q m = 0) ∨ (k = 0 ∨ ∃ m, k = m + 1 ∧ q m ≠ 0) := by
        rcases k with _ | m
        · exact .inr (.inl rfl)
        · by_cases h : q m = 0
          · exact .inl ⟨m, rfl, h⟩
          · exact .inr (.inr ⟨m, rfl, h⟩)
      rcases h3 with ⟨m, rfl, h0⟩ | h3
      · have hz : ((q m : Int) == 0) = true := by simp [h0]
        have H0 := Lib.hid h0
        clear h0
        have hqm := HH.out m
        go_wp2_with (first | (go_at_call 107; (first | (with_reducible refine (word_any _ _ _ _ _ hx (by omega)).mono ?_) | (with_reducible refine (word_any _ _ _ _ _ hy (by omega)).mono ?_)); rintro e w' ⟨rfl, rfl⟩) | (go_at_call 106; refine (and1_any _ _ _ (hx.lt _) (hy.lt _)).mono ?_; rintro e w' ⟨rfl, rfl⟩))
        go_round
        case rel => exact ⟨m, by omega, rfl, by rw [ht.out, trim_zero q m H0.out]; exact rfl⟩
        case measure => simp [intOf]
      · have hT : Hid (trim q N = k) := by
          rw [ht.out]
          rcases h3 with rfl | ⟨m, rfl, h0⟩
          · exact rfl
          · rw [trim_stop q m h0]; exact rfl
        rcases h3 with rfl | ⟨m, rfl, h0⟩
        · go_wp2_with (at_make; refine wpList_make_full _ rfl _ _ 49 rfl w.heap.size 54 i0 (.int .u64 0) 1 Tryd.underlying49 hi hz0 hz1 .i64 .i64 _ _ 0 rfl rfl rfl rfl (by rw [hz2]; omega) (by unfold maxLen; omega) (Nat.le_refl _) ?_; intro w0 hown0 hgrow0)
          refine wp_loop_rounds 1 ?_
          rw [rounds_succ]
          go_wp2
          go_ret
          refine ⟨_, rfl, ?_, (Below.refl _ _).grown hgrow0 (Nat.le_refl _) (fun _ h => by cases h)⟩
          rw [HR.out, hT.out]
          simpa [madeCells, uVals] using hown0
        · have hz : ((q m : Int) == 0) = false := by simpa using h0
          clear h0
          have hqm := HH.out m
          go_wp2_with (first | (go_at_call 107; (first | (with_reducible refine (word_any _ _ _ _ _ hx (by omega)).mono ?_) | (with_reducible refine (word_any _ _ _ _ _ hy (by omega)).mono ?_)); rintro e w' ⟨rfl, rfl⟩) | (go_at_call 106; refine (and1_any _ _ _ (hx.lt _) (hy.lt _)).mono ?_; rintro e w' ⟨rfl, rfl⟩) | (at_make; refine wpList_make_full _ rfl _ _ 49 rfl w.heap.size 54 i0 (.int .u64 0) 1 Tryd.underlying49 hi hz0 hz1 .i64 .i64 _ _ (m + 1) rfl rfl (by omega) (by omega) (by rw [hz2]; omega) (by unfold maxLen; omega) (Nat.le_refl _) ?_; intro w0 hown0 hgrow0))
          have hB0 : Below w.heap.size w w0 := (Below.refl _ _).grown hgrow0 (Nat.le_refl _) (fun _ h => by cases h)
          have hM0 : MrgAt w0 w.heap.size q (m + 1) 0 (m + 1) w.heap.size := ⟨_, hown0, fun j hj => by omega, by simpa using hown0.1⟩
          clear hown0 hgrow0 hz
          go_loopw [36] (fun i wr => ∃ j : Nat, j ≤ m + 1 ∧ i = .int .i64 j ∧ MrgAt wr w.heap.size q (m + 1) j (m + 1) w.heap.size ∧ Below w.heap.size w wr) (fun i _ => m + 1 - (intOf i).toNat)
          case atStart => exact ⟨0, Nat.zero_le _, rfl, hM0, hB0⟩
          case round =>
            obtain ⟨j, hj, rfl, hM, hB⟩ := hrel
            by_cases hjl : j < m + 1
            · have hxr := (hx.below hB).more hB.size
              have hyr := (hy.below hB).more hB.size
              obtain ⟨v0, hcell⟩ := hM.cell hjl
              have hfz := hM.frozen
              have hqj := HH.out j
              go_wp2_with (first | (go_at_call 107; (first | (with_reducible refine (word_any _ _ _ _ _ hxr (by omega)).mono ?_) | (with_reducible refine (word_any _ _ _ _ _ hyr (by omega)).mono ?_)); rintro e w' ⟨rfl, rfl⟩) | (go_at_call 106; refine (and1_any _ _ _ (hx.lt _) (hy.lt _)).mono ?_; rintro e w' ⟨rfl, rfl⟩))
              go_roundw
              case rel => exact ⟨j + 1, by omega, by go_num, hM.step hjl, hB.setCell (Nat.le_refl _) _⟩
              case measure => simp [intOf]; omega
            · go_wp2
              go_ret
              obtain rfl : j = m + 1 := by omega
              refine ⟨_, rfl, ?_, hB⟩
              rw [HR.out, hT.out]
              have hd := hM.done
              simpa using hd

set_option maxHeartbeats 2000000 in
/-- merge with orN -/
theorem mergeorN_any (A A' : Option Addr) (c c' : Nat) (xs ys : List Nat) (w : World) (hx : RdU w w.heap.size A xs) (hy : RdU w w.heap.size A' ys) (hxl : xs.length ≤ 35184372088832) (hyl : ys.length ≤ 35184372088832) :
    Calls Tryd.prog 84 #[.slice A xs.length c, .slice A' ys.length c', .func (.func 85) #[] #[]] w fun e w' => ∃ v, e = .returned v ∧ w'.ownsRow w.heap.size 54 1 v (mrg orN xs ys).length (uVals (mrg orN xs ys)) ∧ Below w.heap.size w w' := by
  obtain ⟨i0, hi, hz0, hz1, hz2⟩ := info_parts Tryd.infoU64
  obtain ⟨q, hh⟩ : ∃ q : Nat → Nat, q = fun k => orN (wd xs k) (wd ys k) := ⟨_, rfl⟩
  obtain ⟨N, hN⟩ : ∃ N, N = max xs.length ys.length := ⟨_, rfl⟩
  have hNl : N ≤ 35184372088832 := by omega
  have hhk : ∀ k, orN (wd xs k) (wd ys k) = q k := fun k => by rw [hh]
  have HH := Lib.hid hhk
  have HN := Lib.hid hN
  have HR : Hid (mrg orN xs ys = (List.range (trim q N)).map q) := by unfold mrg; rw [← hh, ← hN]; exact rfl
  clear hhk hh hN
  go_enter Tryd.func84, Tryd.ntmps84
  go_wp2
  all_goals
    go_loop [7] (fun i => ∃ k : Nat, k ≤ N ∧ i = .int .i64 k ∧ Hid (trim q N = trim q k)) (fun i => (intOf i).toNat)
    case atStart =>
      have hN := HN.out
      first
        | exact ⟨ys.length, by omega, rfl, by rw [show N = ys.length by omega]; exact rfl⟩
        | exact ⟨xs.length, by omega, rfl, by rw [show N = xs.length by omega]; exact rfl⟩
    case round =>
      obtain ⟨k, hk, rfl, ht⟩ := hrel
      have h3 : (∃ m, k = m + 1 ∧ q m = 0) ∨ (k = 0 ∨ ∃ m, k = m + 1 ∧ q m ≠ 0) := by
        rcases k with _ | m
        · exact .inr (.inl rfl)
        · by_cases h : q m = 0
          · exact .inl ⟨m, rfl, h⟩
          · exact .inr (.inr ⟨m, rfl, h⟩)
      rcases h3 with ⟨m, rfl, h0⟩ | h3
      · have hz : ((q m : Int) == 0) = true := by simp [h0]
        have H0 := Lib.hid h0
        clear h0
        have hqm := HH.out m
        go_wp2_with (first | (go_at_call 107; (first | (with_reducible refine (word_any _ _ _ _ _ hx (by omega)).mono ?_) | (with_reducible refine (word_any _ _ _ _ _ hy (by omega)).mono ?_)); rintro e w' ⟨rfl, rfl⟩) | (go_at_call 85; refine (or1_any _ _ _ (hx.lt _) (hy.lt _)).mono ?_; rintro e w' ⟨rfl, rfl⟩))
        go_round
        case rel => exact ⟨m, by omega, rfl, by rw [ht.out, trim_zero q m H0.out]; exact rfl⟩
        case measure => simp [intOf]
      · have hT : Hid (trim q N = k) := by
          rw [ht.out]
          rcases h3 with rfl | ⟨m, rfl, h0⟩
          · exact rfl
          · rw [trim_stop q m h0]; exact rfl
        rcases h3 with rfl | ⟨m, rfl, h0⟩
        · go_wp2_with (at_make; refine wpList_make_full _ rfl _ _ 49 rfl w.heap.size 54 i0 (.int .u64 0) 1 Tryd.underlying49 hi hz0 hz1 .i64 .i64 _ _ 0 rfl rfl rfl rfl (by rw [hz2]; omega) (by unfold maxLen; omega) (Nat.le_refl _) ?_; intro w0 hown0 hgrow0)
          refine wp_loop_rounds 1 ?_
          rw [rounds_succ]
          go_wp2
          go_ret
          refine ⟨_, rfl, ?_, (Below.refl _ _).grown hgrow0 (Nat.le_refl _) (fun _ h => by cases h)⟩
          rw [HR.out, hT.out]
          simpa [madeCells, uVals] using hown0
        · have hz : ((q m : Int) == 0) = false := by simpa using h0
          clear h0
          have hqm := HH.out m
          go_wp2_with (first | (go_at_call 107; (first | (with_reducible refine (word_any _ _ _ _ _ hx (by omega)).mono ?_) | (with_reducible refine (word_any _ _ _ _ _ hy (by omega)).mono ?_)); rintro e w' ⟨rfl, rfl⟩) | (go_at_call 85; refine (or1_any _ _ _ (hx.lt _) (hy.lt _)).mono ?_; rintro e w' ⟨rfl, rfl⟩) | (at_make; refine wpList_make_full _ rfl _ _ 49 rfl w.heap.size 54 i0 (.int .u64 0) 1 Tryd.underlying49 hi hz0 hz1 .i64 .i64 _ _ (m + 1) rfl rfl (by omega) (by omega) (by rw [hz2]; omega) (by unfold maxLen; omega) (Nat.le_refl _) ?_; intro w0 hown0 hgrow0))
          have hB0 : Below w.heap.size w w0 := (Below.refl _ _).grown hgrow0 (Nat.le_refl _) (fun _ h => by cases h)
          have hM0 : MrgAt w0 w.heap.size q (m + 1) 0 (m + 1) w.heap.size := ⟨_, hown0, fun j hj => by omega, by simpa using hown0.1⟩
          clear hown0 hgrow0 hz
          go_loopw [36] (fun i wr => ∃ j : Nat, j ≤ m + 1 ∧ i = .int .i64 j ∧ MrgAt wr w.heap.size q (m + 1) j (m + 1) w.heap.size ∧ Below w.heap.size w wr) (fun i _ => m + 1 - (intOf i).toNat)
          case atStart => exact ⟨0, Nat.zero_le _, rfl, hM0, hB0⟩
          case round =>
            obtain ⟨j, hj, rfl, hM, hB⟩ := hrel
            by_cases hjl : j < m + 1
            · have hxr := (hx.below hB).more hB.size
              have hyr := (hy.below hB).more hB.size
              obtain ⟨v0, hcell⟩ := hM.cell hjl
              have hfz := hM.frozen
              have hqj := HH.out j
              go_wp2_with (first | (go_at_call 107; (first | (with_reducible refine (word_any _ _ _ _ _ hxr (by omega)).mono ?_) | (with_reducible refine (word_any _ _ _ _ _ hyr (by omega)).mono ?_)); rintro e w' ⟨rfl, rfl⟩) | (go_at_call 85; refine (or1_any _ _ _ (hx.lt _) (hy.lt _)).mono ?_; rintro e w' ⟨rfl, rfl⟩))
              go_roundw
              case rel => exact ⟨j + 1, by omega, by go_num, hM.step hjl, hB.setCell (Nat.le_refl _) _⟩
              case measure => simp [intOf]; omega
            · go_wp2
              go_ret
              obtain rfl : j = m + 1 := by omega
              refine ⟨_, rfl, ?_, hB⟩
              rw [HR.out, hT.out]
              have hd := hM.done
              simpa using hd

set_option maxHeartbeats 2000000 in
/-- merge with lessN -/
theorem mergelessN_any (A A' : Option Addr) (c c' : Nat) (xs ys : List Nat) (w : World) (hx : RdU w w.heap.size A xs) (hy : RdU w w.heap.size A' ys) (hxl : xs.length ≤ 35184372088832) (hyl : ys.length ≤ 35184372088832) :
    Calls Tryd.prog 84 #[.slice A xs.length c, .slice A' ys.length c', .func (.func 99) #[] #[]] w fun e w' => ∃ v, e = .returned v ∧ w'.ownsRow w.heap.size 54 1 v (mrg lessN xs ys).length (uVals (mrg lessN xs ys)) ∧ Below w.heap.size w w' := by
  obtain ⟨i0, hi, hz0, hz1, hz2⟩ := info_parts Tryd.infoU64
  obtain ⟨q, hh⟩ : ∃ q : Nat → Nat, q = fun k => lessN (wd xs k) (wd ys k) := ⟨_, rfl⟩
  obtain ⟨N, hN⟩ : ∃ N, N = max xs.length ys.length := ⟨_, rfl⟩
  have hNl : N ≤ 35184372088832 := by omega
  have hhk : ∀ k, lessN (wd xs k) (wd ys k) = q k := fun k => by rw [hh]
  have HH := Lib.hid hhk
  have HN := Lib.hid hN
  have HR : Hid (mrg lessN xs ys = (List.range (trim q N)).map q) := by unfold mrg; rw [← hh, ← hN]; exact rfl
  clear hhk hh hN
  go_enter Tryd.func84, Tryd.ntmps84
  go_wp2
  all_goals
    go_loop [7] (fun i => ∃ k : Nat, k ≤ N ∧ i = .int .i64 k ∧ Hid (trim q N = trim q k)) (fun i => (intOf i).toNat)
    case atStart =>
      have hN := HN.out
      first
        | exact ⟨ys.length, by omega, rfl, by rw [show N = ys.length by omega]; exact rfl⟩
        | exact ⟨xs.length, by omega, rfl, by rw [show N = xs.length by omega]; exact rfl⟩
    case round =>
      obtain ⟨k, hk, rfl, ht⟩ := hrel
      have h3 : (∃ m, k = m + 1 ∧ q m = 0) ∨ (k = 0 ∨ ∃ m, k = m + 1 ∧ q m ≠ 0) := by
        rcases k with _ | m
        · exact .inr (.inl rfl)
        · by_cases h : q m = 0
          · exact .inl ⟨m, rfl, h⟩
          · exact .inr (.inr ⟨m, rfl, h⟩)
      rcases h3 with ⟨m, rfl, h0⟩ | h3
      · have hz : ((q m : Int) == 0) = true := by simp [h0]
        have H0 := Lib.hid h0
        clear h0
        have hqm := HH.out m
        go_wp2_with (first | (go_at_call 107; (first | (with_reducible refine (word_any _ _ _ _ _ hx (by omega)).mono ?_) | (with_reducible refine (word_any _ _ _ _ _ hy (by omega)).mono ?_)); rintro e w' ⟨rfl, rfl⟩) | (go_at_call 99; refine (less1_any _ _ _ (hx.lt _) (hy.lt _)).mono ?_; rintro e w' ⟨rfl, rfl⟩))
        go_round
        case rel => exact ⟨m, by omega, rfl, by rw [ht.out, trim_zero q m H0.out]; exact rfl⟩
        case measure => simp [intOf]
      · have hT : Hid (trim q N = k) := by
          rw [ht.out]
          rcases h3 with rfl | ⟨m, rfl, h0⟩
          · exact rfl
          · rw [trim_stop q m h0]; exact rfl
        rcases h3 with rfl | ⟨m, rfl, h0⟩
        · go_wp2_with (at_make; refine wpList_make_full _ rfl _ _ 49 rfl w.heap.size 54 i0 (.int .u64 0) 1 Tryd.underlying49 hi hz0 hz1 .i64 .i64 _ _ 0 rfl rfl rfl rfl (by rw [hz2]; omega) (by unfold maxLen; omega) (Nat.le_refl _) ?_; intro w0 hown0 hgrow0)
          refine wp_loop_rounds 1 ?_
          rw [rounds_succ]
          go_wp2
          go_ret
          refine ⟨_, rfl, ?_, (Below.refl _ _).grown hgrow0 (Nat.le_refl _) (fun _ h => by cases h)⟩
          rw [HR.out, hT.out]
          simpa [madeCells, uVals] using hown0
        · have hz : ((q m : Int) == 0) = false := by simpa using h0
          clear h0
          have hqm := HH.out m
          go_wp2_with (first | (go_at_call 107; (first | (with_reducible refine (word_any _ _ _ _ _ hx (by omega)).mono ?_) | (with_reducible refine (word_any _ _ _ _ _ hy (by omega)).mono ?_)); rintro e w' ⟨rfl, rfl⟩) | (go_at_call 99; refine (less1_any _ _ _ (hx.lt _) (hy.lt _)).mono ?_; rintro e w' ⟨rfl, rfl⟩) | (at_make; refine wpList_make_full _ rfl _ _ 49 rfl w.heap.size 54 i0 (.int .u64 0) 1 Tryd.underlying49 hi hz0 hz1 .i64 .i64 _ _ (m + 1) rfl rfl (by omega) (by omega) (by rw [hz2]; omega) (by unfold maxLen; omega) (Nat.le_refl _) ?_; intro w0 hown0 hgrow0))
          have hB0 : Below w.heap.size w w0 := (Below.refl _ _).grown hgrow0 (Nat.le_refl _) (fun _ h => by cases h)
          have hM0 : MrgAt w0 w.heap.size q (m + 1) 0 (m + 1) w.heap.size := ⟨_, hown0, fun j hj => by omega, by simpa using hown0.1⟩
          clear hown0 hgrow0 hz
          go_loopw [36] (fun i wr => ∃ j : Nat, j ≤ m + 1 ∧ i = .int .i64 j ∧ MrgAt wr w.heap.size q (m + 1) j (m + 1) w.heap.size ∧ Below w.heap.size w wr) (fun i _ => m + 1 - (intOf i).toNat)
          case atStart => exact ⟨0, Nat.zero_le _, rfl, hM0, hB0⟩
          case round =>
            obtain ⟨j, hj, rfl, hM, hB⟩ := hrel
            by_cases hjl : j < m + 1
            · have hxr := (hx.below hB).more hB.size
              have hyr := (hy.below hB).more hB.size
              obtain ⟨v0, hcell⟩ := hM.cell hjl
              have hfz := hM.frozen
              have hqj := HH.out j
              go_wp2_with (first | (go_at_call 107; (first | (with_reducible refine (word_any _ _ _ _ _ hxr (by omega)).mono ?_) | (with_reducible refine (word_any _ _ _ _ _ hyr (by omega)).mono ?_)); rintro e w' ⟨rfl, rfl⟩) | (go_at_call 99; refine (less1_any _ _ _ (hx.lt _) (hy.lt _)).mono ?_; rintro e w' ⟨rfl, rfl⟩))
              go_roundw
              case rel => exact ⟨j + 1, by omega, by go_num, hM.step hjl, hB.setCell (Nat.le_refl _) _⟩
              case measure => simp [intOf]; omega
            · go_wp2
              go_ret
              obtain rfl : j = m + 1 := by omega
              refine ⟨_, rfl, ?_, hB⟩
              rw [HR.out, hT.out]
              have hd := hM.done
              simpa using hd
end Go.Proofs.YtaboafkpmgadmaaDoor

namespace Go.Proofs.YtaboafkpmgadmaaDoor
open Go.RowKit
set_option maxRecDepth 100000

/-- what came before stays, and lies below the new size -/
theorem RdU.step {w w' : World} {A : Option Addr} {xs : List Nat} (h : RdU w w.heap.size A xs) (hb : Below w.heap.size w w') : RdU w' w'.heap.size A xs := (h.below hb).more hb.size
theorem below_drewN {B : Nat} {a w : World} (h : Below B a w) (n : Nat) : Below B a (w.drewN n) := ⟨h.os, h.tape, h.output, h.size, h.block⟩
theorem below_step {B : Nat} {W w w' : World} (hb : Below B W w) (hs : B ≤ w.heap.size) (h : Below w.heap.size w w') : Below B W w' := hb.trans (h.mono hs)

theorem equalU_same (A A' : Option Addr) (c c' : Nat) (xs : List Nat) (w : World) (hx : RdU w w.heap.size A xs) (hy : RdU w w.heap.size A' xs) :
    Calls Tryd.prog 57 #[.slice A xs.length c, .slice A' xs.length c'] w fun e w' => e = .returned (.bool true) ∧ Below w.heap.size w w' :=
  (equalU_any A A' c c' xs xs w hx hy).mono fun _ _ ⟨he, n, hw⟩ => ⟨by rw [he, decide_eq_true rfl], by rw [hw]; exact below_drewN (Below.refl _ _) n⟩

theorem opandN_any (A A' : Option Addr) (c c' : Nat) (xs ys : List Nat) (w : World) (hx : RdU w w.heap.size A xs) (hy : RdU w w.heap.size A' ys) (hxl : xs.length ≤ 35184372088832) (hyl : ys.length ≤ 35184372088832) :
    Calls Tryd.prog 73 #[.slice A xs.length c, .slice A' ys.length c'] w fun e w' => ∃ A1 c1, e = .returned (.slice A1 (mrg andN xs ys).length c1) ∧ RdU w' w'.heap.size A1 (mrg andN xs ys) ∧ Below w.heap.size w w' := by
  go_enter Tryd.func73, Tryd.ntmps73
  go_wp2_with fail
  refine (mergeandN_any A A' c c' xs ys _ hx hy hxl hyl).mono ?_
  rintro e w1 ⟨v, rfl, hown, hB⟩
  have hle := mrg_le andN xs ys
  obtain ⟨A1, c1, rfl, hr⟩ := own_rdU hown (fun k => by rw [mrg_wd rfl]; exact andN_lt _ _ (hx.lt k)) (by omega)
  clear hown
  go_wp2
  go_ret
  exact ⟨_, _, rfl, hr, hB⟩

theorem oporN_any (A A' : Option Addr) (c c' : Nat) (xs ys : List Nat) (w : World) (hx : RdU w w.heap.size A xs) (hy : RdU w w.heap.size A' ys) (hxl : xs.length ≤ 35184372088832) (hyl : ys.length ≤ 35184372088832) :
    Calls Tryd.prog 51 #[.slice A xs.length c, .slice A' ys.length c'] w fun e w' => ∃ A1 c1, e = .returned (.slice A1 (mrg orN xs ys).length c1) ∧ RdU w' w'.heap.size A1 (mrg orN xs ys) ∧ Below w.heap.size w w' := by
  go_enter Tryd.func51, Tryd.ntmps51
  go_wp2_with fail
  refine (mergeorN_any A A' c c' xs ys _ hx hy hxl hyl).mono ?_
  rintro e w1 ⟨v, rfl, hown, hB⟩
  have hle := mrg_le orN xs ys
  obtain ⟨A1, c1, rfl, hr⟩ := own_rdU hown (fun k => by rw [mrg_wd rfl]; exact orN_lt _ _ (hx.lt k) (hy.lt k)) (by omega)
  clear hown
  go_wp2
  go_ret
  exact ⟨_, _, rfl, hr, hB⟩

theorem oplessN_any (A A' : Option Addr) (c c' : Nat) (xs ys : List Nat) (w : World) (hx : RdU w w.heap.size A xs) (hy : RdU w w.heap.size A' ys) (hxl : xs.length ≤ 35184372088832) (hyl : ys.length ≤ 35184372088832) :
    Calls Tryd.prog 61 #[.slice A xs.length c, .slice A' ys.length c'] w fun e w' => ∃ A1 c1, e = .returned (.slice A1 (mrg lessN xs ys).length c1) ∧ RdU w' w'.heap.size A1 (mrg lessN xs ys) ∧ Below w.heap.size w w' := by
  go_enter Tryd.func61, Tryd.ntmps61
  go_wp2_with fail
  refine (mergelessN_any A A' c c' xs ys _ hx hy hxl hyl).mono ?_
  rintro e w1 ⟨v, rfl, hown, hB⟩
  have hle := mrg_le lessN xs ys
  obtain ⟨A1, c1, rfl, hr⟩ := own_rdU hown (fun k => by rw [mrg_wd rfl]; exact lessN_lt _ _ (hx.lt k)) (by omega)
  clear hown
  go_wp2
  go_ret
  exact ⟨_, _, rfl, hr, hB⟩
end Go.Proofs.YtaboafkpmgadmaaDoor

namespace Go.Proofs.YtaboafkpmgadmaaDoor
open Go.RowKit
set_option maxRecDepth 100000

theorem ext_zd (xs ys : List Int) (hl : xs.length = ys.length) (h : ∀ k, k < xs.length → zd xs k = zd ys k) : xs = ys := by
  apply List.ext_getElem hl
  intro i h1 h2
  have := h i h1
  unfold zd at this
  simpa [List.getD, h1, h2] using this
theorem RdI.step {w w' : World} {A : Option Addr} {xs : List Int} (h : RdI w w.heap.size A xs) (hb : Below w.heap.size w w') : RdI w' w'.heap.size A xs := (h.below hb).more hb.size

/-- slices.Equal over ints -/
theorem equalI_any (A A' : Option Addr) (c c' : Nat) (xs ys : List Int) (w : World) (hx : RdI w w.heap.size A xs) (hy : RdI w w.heap.size A' ys) :
    Calls Tryd.prog 17 #[.slice A xs.length c, .slice A' ys.length c'] w fun e w' =>
      e = .returned (.bool (decide (xs = ys))) ∧ ∃ n, w' = w.drewN n := by
  have hr := hx.room
  have hr' := hy.room
  by_cases hlen : xs.length = ys.length
  · have hl : ((xs.length : Int) != (ys.length : Int)) = false := by simp; omega
    have HL := Lib.hid hlen
    clear hlen
    go_enter Tryd.func17, Tryd.ntmps17
    go_wp2
    go_loopw [13] (fun i wr => ∃ k n : Nat, k ≤ xs.length ∧ i = .int .i64 k ∧ wr = w.drewN n ∧ Hid (∀ j, j < k → zd xs j = zd ys j)) (fun i _ => xs.length - (intOf i).toNat)
    case atStart => exact ⟨0, 0, Nat.zero_le _, rfl, rfl, fun j hj => by omega⟩
    case round =>
      obtain ⟨k, n, hk, rfl, rfl, hall⟩ := hrel
      by_cases hlt : k < xs.length
      · have hlt' : k < ys.length := by have := HL.out; omega
        obtain ⟨b, off, rfl, _, hc⟩ := hx.rd (by omega)
        obtain ⟨b', off', rfl, _, hc'⟩ := hy.rd (by omega)
        have hci := hc k hlt
        have hci' := hc' k hlt'
        clear hc hc'
        by_cases he : zd xs k = zd ys k
        · have hb : (zd xs k != zd ys k) = false := by simp [he]
          have HE := Lib.hid he
          clear he
          go_wp2
          go_quiet (fail)
          go_wp2
          go_roundw
          case rel => exact ⟨k + 1, _, by omega, by go_num, rfl, fun j hj => by
            rcases Nat.lt_succ_iff_lt_or_eq.1 hj with h | h
            · exact hall.out j h
            · subst h; exact HE.out⟩
          case measure => simp [intOf]; omega
        · have hb : (zd xs k != zd ys k) = true := by simp; omega
          go_wp2
          go_quiet (fail)
          go_wp2
          go_ret
          exact ⟨ret_b (by symm; rw [decide_eq_false_iff_not]; rintro rfl; exact he rfl), _, World.drewN_drewN _ _ _⟩
      · go_wp2
        go_ret
        have := HL.out
        exact ⟨ret_b (by symm; rw [decide_eq_true_iff]; exact ext_zd xs ys (by omega) fun j hj => hall.out j (by omega)), _, rfl⟩
  · have hne : decide (xs = ys) = false := by
      rw [decide_eq_false_iff_not]; rintro rfl; exact hlen rfl
    have hl : ((xs.length : Int) != (ys.length : Int)) = true := by simp; omega
    go_enter Tryd.func17, Tryd.ntmps17
    go_wp2
    go_ret
    exact ⟨ret_b hne.symm, 0, rfl⟩

theorem equalI_same (A A' : Option Addr) (c c' : Nat) (xs : List Int) (w : World) (hx : RdI w w.heap.size A xs) (hy : RdI w w.heap.size A' xs) :
    Calls Tryd.prog 17 #[.slice A xs.length c, .slice A' xs.length c'] w fun e w' => e = .returned (.bool true) ∧ Below w.heap.size w w' :=
  (equalI_any A A' c c' xs xs w hx hy).mono fun _ _ ⟨he, n, hw⟩ => ⟨by rw [he, decide_eq_true rfl], by rw [hw]; exact below_drewN (Below.refl _ _) n⟩
theorem equalU_b (A A' : Option Addr) (c c' : Nat) (xs ys : List Nat) (w : World) (hx : RdU w w.heap.size A xs) (hy : RdU w w.heap.size A' ys) :
    Calls Tryd.prog 57 #[.slice A xs.length c, .slice A' ys.length c'] w fun e w' => e = .returned (.bool (decide (xs = ys))) ∧ Below w.heap.size w w' :=
  (equalU_any A A' c c' xs ys w hx hy).mono fun _ _ ⟨he, n, hw⟩ => ⟨he, by rw [hw]; exact below_drewN (Below.refl _ _) n⟩
end Go.Proofs.YtaboafkpmgadmaaDoor

namespace Go.Proofs.YtaboafkpmgadmaaDoor
open Go.RowKit

/-- every block of W that p names lies in W' as it lay; nothing has gone -/
structure Keeps (p : Nat → Prop) (W W' : World) : Prop where
  os : W'.os = W.os
  tape : W'.tape = W.tape
  output : W'.output = W.output
  size : W.heap.size ≤ W'.heap.size
  block : ∀ k, k < W.heap.size → p k → W'.heap[k]? = W.heap[k]?

theorem Keeps.refl (p : Nat → Prop) (W : World) : Keeps p W W := ⟨rfl, rfl, rfl, Nat.le_refl _, fun _ _ _ => rfl⟩
theorem Keeps.trans {p : Nat → Prop} {A B C : World} (h : Keeps p A B) (k : Keeps p B C) : Keeps p A C :=
  ⟨k.os.trans h.os, k.tape.trans h.tape, k.output.trans h.output, Nat.le_trans h.size k.size, fun i hi hp => (k.block i (Nat.lt_of_lt_of_le hi h.size) hp).trans (h.block i hi hp)⟩
theorem Keeps.mono {p q : Nat → Prop} {A B : World} (h : Keeps p A B) (hq : ∀ k, k < A.heap.size → q k → p k) : Keeps q A B := ⟨h.os, h.tape, h.output, h.size, fun k hk hp => h.block k hk (hq k hk hp)⟩
theorem Keeps.grown {p : Nat → Prop} {A B C : World} {row : Option Nat} (h : Keeps p A B) (hg : B.grownBy C row) (hr : ∀ r, row = some r → r < A.heap.size → ¬ p r) : Keeps p A C :=
  ⟨hg.os.trans h.os, hg.tape.trans h.tape, hg.output.trans h.output, Nat.le_trans h.size hg.size, fun k hk hp => (hg.block k (Nat.lt_of_lt_of_le hk h.size) (fun e => hr k e.symm hk hp)).trans (h.block k hk hp)⟩
theorem Keeps.alloc {p : Nat → Prop} {A B : World} (h : Keeps p A B) (o : Obj) : Keeps p A (B.alloc o) := h.grown (World.grownBy_alloc B o none) (fun _ e => by cases e)
theorem Keeps.setCell {p : Nat → Prop} {A B : World} (h : Keeps p A B) {q : Addr} (hq : q.block < A.heap.size → ¬ p q.block) (v : Value) : Keeps p A (B.setCell q v) :=
  ⟨h.os, h.tape, h.output, Nat.le_trans h.size (KeepsWalks.setCell B q v).size, fun k hk hp => (Below.heap_setCell B q v k (fun e => hq (e ▸ hk) (e ▸ hp))).trans (h.block k hk hp)⟩
theorem Keeps.putObj {p : Nat → Prop} {A B : World} (h : Keeps p A B) {l : Nat} (hl : l < A.heap.size → ¬ p l) (o : Obj) : Keeps p A (B.putObj l o) :=
  h.grown (grownBy_putObj' B l o) (fun r e hr => by cases e; exact hl hr)
theorem Keeps.drew {p : Nat → Prop} {A B : World} (h : Keeps p A B) : Keeps p A B.drew := ⟨h.os, h.tape, h.output, h.size, h.block⟩
theorem Keeps.drewN {p : Nat → Prop} {A B : World} (h : Keeps p A B) (n : Nat) : Keeps p A (B.drewN n) := ⟨h.os, h.tape, h.output, h.size, h.block⟩
theorem Keeps.of_below {p : Nat → Prop} {A B : World} {n : Nat} (h : Below n A B) (hp : ∀ k, k < A.heap.size → p k → k < n) : Keeps p A B := ⟨h.os, h.tape, h.output, h.size, fun k hk hpk => h.block k (hp k hk hpk)⟩
theorem Keeps.below {p : Nat → Prop} {A B : World} (h : Keeps p A B) {n : Nat} (hn : n ≤ A.heap.size) (hp : ∀ k, k < n → p k) : Below n A B := ⟨h.os, h.tape, h.output, h.size, fun k hk => h.block k (by omega) (hp k hk)⟩

/-- the body's step: it turns blocks of O and new ones alone; what it owns behind it, it owned, or it is new -/
structure StepO (O O' : Nat → Prop) (W W' : World) : Prop where
  keeps : Keeps (fun k => ¬ O k) W W'
  own : ∀ k, O' k → O k ∨ W.heap.size ≤ k
  top : ∀ k, O' k → k < W'.heap.size
theorem StepO.refl {O : Nat → Prop} {W : World} (h : ∀ k, O k → k < W.heap.size) : StepO O O W W := ⟨Keeps.refl _ W, fun _ h => .inl h, h⟩
theorem StepO.trans {O O' O'' : Nat → Prop} {A B C : World} (h : StepO O O' A B) (k : StepO O' O'' B C) : StepO O O'' A C := by
  refine ⟨⟨k.keeps.os.trans h.keeps.os, k.keeps.tape.trans h.keeps.tape, k.keeps.output.trans h.keeps.output, Nat.le_trans h.keeps.size k.keeps.size, fun i hi hp => ?_⟩, fun i hi => ?_, k.top⟩
  · refine (k.keeps.block i (Nat.lt_of_lt_of_le hi h.keeps.size) (fun ho => ?_)).trans (h.keeps.block i hi hp)
    rcases h.own i ho with h1 | h1
    · exact hp h1
    · omega
  · rcases k.own i hi with h1 | h1
    · exact h.own i h1
    · exact .inr (Nat.le_trans h.keeps.size h1)
theorem StepO.not {O O' : Nat → Prop} {W W' : World} (h : StepO O O' W W') {k : Nat} (hk : k < W.heap.size) (ho : ¬ O k) : ¬ O' k := fun h' => by
  rcases h.own k h' with h1 | h1
  · exact ho h1
  · omega

/-- what is said of blocks below B and of owned ones alone -/
def Stable {β : Type} (B : Nat) (I : β → (Nat → Prop) → World → Prop) : Prop := ∀ s O W W', I s O W → Keeps (fun k => k < B ∨ O k) W W' → I s O W'

/-- THE CONTRACT OF AN ITERATOR VALUE, made in w: it reads the blocks that Fp names. -/
def SeqO {α : Type} (F : Fence) (n : Nat) (P : Program) (g : Nat) (lb : Array Value) (encs : α → Array Value) (Fp : Nat → Prop) (S Sp : List α → Prop) (Nx : List α → α → Prop) (w : World) : Prop :=
  ∀ (l : Nat) (J Jx : List α → (Nat → Prop) → World → Prop) (O : Nat → Prop) (W : World), Keeps Fp w W → (∀ k, O k → k < W.heap.size ∧ ¬ Fp k) → Stable W.heap.size J → Stable W.heap.size Jx →
    (∀ pre x O1 W1, J pre O1 W1 → Nx pre x → YieldAt F (n - 1) P l (encs x) W1 fun e W' => ∃ O2, StepO O1 O2 W1 W' ∧
      ((e = .returned (.bool true) ∧ J (pre ++ [x]) O2 W') ∨ (e = .returned (.bool false) ∧ Jx (pre ++ [x]) O2 W'))) →
    J [] O W →
    CallsIn F n P g (#[.func (.yield l) #[] #[]] ++ lb) W fun e W' => (∃ v, e = .returned v) ∧ ((∃ xs O2, S xs ∧ J xs O2 W') ∨ (∃ pre O2, Sp pre ∧ Jx pre O2 W'))

/-- how the body of a round may be left -/
def postO {α : Type} (I : List α → (Nat → Prop) → World → Prop) (Ix : Code → List α → (Nat → Prop) → World → Prop) (xs : List α) (O : Nat → Prop) (W : World) : Exit → Act → World → Prop
  | .normal, _, W' => ∃ O', StepO O O' W W' ∧ I xs O' W'
  | .ret, _, W' => ∃ O', StepO O O' W W' ∧ Ix .ret xs O' W'
  | .exit id, _, W' => ∃ O', StepO O O' W W' ∧ Ix (.exit id) xs O' W'
  | .goto t, _, W' => ∃ O', StepO O O' W W' ∧ Ix (.goto t) xs O' W'
  | .panic _, _, _ => False
  | .outgrown, _, _ => False

variable {F : Fence} {n : Nat} {P : Program}

/-- THE LAW OF THE LOOP. -/
theorem wpIn_rangeFunc_O {α : Type} {g : Operand} {ps : Array Tmp} {assign body : Code} {Q : Exit → Act → World → Prop} {a : Act} {w : World}
    (hro : F.round = none) (h1 : 1 ≤ n) {gf : Nat} {lb : Array Value} (hg : a.eval g = .func (.func gf) #[] lb) (hFg : F.fn gf) (eg : ∀ args w, (callFunc gf args).run P w = .ok (.enter gf args) w)
    {encs : α → Array Value} {Fp : Nat → Prop} {S Sp : List α → Prop} {Nx : List α → α → Prop} {w0 : World} (hseq : SeqO F (n - 1) P gf lb encs Fp S Sp Nx w0) (hk0 : Keeps Fp w0 w) (hps : ∀ x, (encs x).size = ps.size)
    (I : List α → (Nat → Prop) → World → Prop) (Ix : Code → List α → (Nat → Prop) → World → Prop) (hI : Stable w.heap.size I) (hIx : ∀ c, Stable w.heap.size (Ix c))
    (O : Nat → Prop) (hO : ∀ k, O k → k < w.heap.size ∧ ¬ Fp k) (hFp : ∀ k, Fp k → k < w.heap.size) (h0 : I [] O w)
    (Ax : List α → α → Act → (Nat → Prop) → World → Prop) (hAx : ∀ pre x a', Stable w.heap.size (fun (_ : Unit) O W => Ax pre x a' O W))
    (hassign : ∀ (l : Nat) (pre : List α) (x : α) (O : Nat → Prop) (W : World) (K : Act → World → Prop), I pre O W → Nx pre x → w.heap.size ≤ W.heap.size → (∀ k, O k → k < W.heap.size) →
      (∀ a' O' W', StepO O O' W W' → Ax pre x a' O' W' → K a' W') →
      assign.wpIn (F.inRound l) (n - 1 - 1) P (Exit.then K (fun _ _ _ => False)) { tmps := (ps.zip (encs x)).foldl (fun t (p, v) => t.setIfInBounds p v) a.tmps, defers := [] } W)
    (hbody : ∀ (l : Nat) (pre : List α) (x : α) (a' : Act) (O : Nat → Prop) (W : World), Ax pre x a' O W → Nx pre x → w.heap.size ≤ W.heap.size → (∀ k, O k → k < W.heap.size) → body.wpIn (F.inRound l) (n - 1 - 1) P (postO I Ix (pre ++ [x]) O W) a' W)
    (hdone : ∀ (D : Nat) (O : Nat → Prop) (xs : List α) (W : World), w.heap.size ≤ D → ¬ O D → S xs → I xs O W → W.heap[D]? = some (.deferred (some [])) → Q .normal { a with defers := { target := .collected D, args := #[] } :: a.defers } W)
    (hstop : ∀ (D : Nat) (c : Code) (O : Nat → Prop) (pre : List α) (W : World), w.heap.size ≤ D → ¬ O D → Sp pre → Ix c pre O W → W.heap[D]? = some (.deferred (some [])) → c.wpIn F n P Q { a with defers := { target := .collected D, args := #[] } :: a.defers } W) :
    (Code.rangeFunc g ps assign body).wpIn F n P Q a w := by
  refine wpIn_rangeFunc ?_
  intro fn hfn
  rw [hro]
  obtain ⟨d, hd⟩ : ∃ d, d = w.heap.size := ⟨_, rfl⟩
  obtain ⟨rec, hrec⟩ : ∃ rec : LoopState → Option Code → Loop, rec = fun st pe => { state := st, pending := pe, fn, tmps := a.tmps, params := ps, assign, body, defers := w.heap.size } := ⟨_, rfl⟩
  obtain ⟨W1, hW1⟩ : ∃ W1, (w.alloc (.deferred (some []))).alloc (.loop (rec .ready none)) = W1 := ⟨_, rfl⟩
  have hL1 : W1.heap[d + 1]? = some (.loop (rec .ready none)) := by
    rw [← hW1, hd]; have := World.alloc_heap_new (w.alloc (.deferred (some []))) (.loop (rec .ready none)); rwa [World.size_alloc] at this
  have hK1 : W1.heap[d]? = some (.deferred (some [])) := by
    rw [← hW1, hd]; exact (Below.heap_alloc _ _ _ (by simp)).trans (World.alloc_heap_new w _)
  have hsz1 : W1.heap.size = d + 2 := by rw [← hW1, hd]; simp
  have hkp : ∀ p : Nat → Prop, Keeps p w W1 := fun p => by rw [← hW1]; exact ((Keeps.refl p w).alloc _).alloc _
  have hI1 : I [] O W1 := hI _ _ _ _ h0 (hkp _)
  have hB1 : w.heap.size ≤ W1.heap.size := (hkp (fun _ => True)).size
  -- the two blocks of book-keeping
  have hstab : ∀ {β : Type} {I' : β → (Nat → Prop) → World → Prop} (s : β) (O1 : Nat → Prop) (W W' : World) (o : Obj), Stable w.heap.size I' → ¬ O1 (d + 1) → I' s O1 W → W' = W.putObj (d + 1) o → I' s O1 W' := fun s O1 W W' o hst hno hi he => by
    rw [he]
    refine hst s O1 W _ hi ((Keeps.refl _ W).putObj (fun _ hp => ?_) o)
    rcases hp with hp | hp
    · omega
    · exact hno hp
  refine ⟨d + 1, [{ target := .collected d, args := #[] }], W1, { target := .fn (.func gf) lb, args := #[.func (.yield (d + 1)) #[] #[]] }, W1, gf,
    #[.func (.yield (d + 1)) #[] #[]] ++ lb, W1, ?_, ?_, ?_, ?_, fun _ => h1, ?_⟩
  · rw [← hW1, hrec, hd]; exact run_enterLoop_outer _ _ _ _ _
  · simp only [resolve, hg]
    simp [go_sem]
  · intro f' hf'; simp [Target.leads] at hf'; subst hf'; exact hFg
  · simp [invoke, go_sem, eg]
  · refine (hseq (d + 1)
      (fun pre O2 W => ∃ Oc, (∀ k, O2 k ↔ Oc k ∨ k = d ∨ k = d + 1) ∧ ¬ Oc d ∧ ¬ Oc (d + 1) ∧ (∀ k, Oc k → k < W.heap.size) ∧ I pre Oc W ∧ d + 2 ≤ W.heap.size ∧ W.heap[d + 1]? = some (.loop (rec .ready none)) ∧ W.heap[d]? = some (.deferred (some [])))
      (fun pre O2 W => ∃ Oc c, (∀ k, O2 k ↔ Oc k ∨ k = d ∨ k = d + 1) ∧ ¬ Oc d ∧ ¬ Oc (d + 1) ∧ Ix c pre Oc W ∧ d + 2 ≤ W.heap.size ∧ W.heap[d + 1]? = some (.loop (rec .done (some c))) ∧ W.heap[d]? = some (.deferred (some [])))
      (fun k => O k ∨ k = d ∨ k = d + 1) W1 (hk0.trans (hkp _)) (fun k hk => ?_) ?_ ?_ ?_ ?_).mono ?_
    · rcases hk with hk | hk | hk
      · exact ⟨by have := (hO k hk).1; omega, (hO k hk).2⟩
      · exact ⟨by omega, fun h => by have := hFp k h; omega⟩
      · exact ⟨by omega, fun h => by have := hFp k h; omega⟩
    · rintro s O2 A B ⟨Oc, ho, hn1, hn2, ht, hi, hs, hl, hk⟩ hkk
      refine ⟨Oc, ho, hn1, hn2, fun k hk => Nat.lt_of_lt_of_le (ht k hk) hkk.size, hI _ _ _ _ hi (hkk.mono fun k _ hp => ?_), Nat.le_trans hs hkk.size, (hkk.block _ (by omega) (.inr ((ho _).2 (.inr (.inr rfl))))).trans hl, (hkk.block _ (by omega) (.inr ((ho _).2 (.inr (.inl rfl))))).trans hk⟩
      rcases hp with hp | hp
      · exact .inl (Nat.lt_of_lt_of_le hp hB1)
      · exact .inr ((ho _).2 (.inl hp))
    · rintro s O2 A B ⟨Oc, c, ho, hn1, hn2, hi, hs, hl, hk⟩ hkk
      refine ⟨Oc, c, ho, hn1, hn2, hIx c _ _ _ _ hi (hkk.mono fun k _ hp => ?_), Nat.le_trans hs hkk.size, (hkk.block _ (by omega) (.inr ((ho _).2 (.inr (.inr rfl))))).trans hl, (hkk.block _ (by omega) (.inr ((ho _).2 (.inr (.inl rfl))))).trans hk⟩
      rcases hp with hp | hp
      · exact .inl (Nat.lt_of_lt_of_le hp hB1)
      · exact .inr ((ho _).2 (.inl hp))
    · -- one round
      rintro pre x O2 W ⟨Oc, ho, hn1, hn2, ht, hi, hs, hl, hk⟩ hlen
      have hy := run_yield (P := P) (args := encs x) hl (by rw [hrec]; exact hps x)
      rw [hrec] at hy
      refine ⟨fn, _, assign, body, hy, roundIn_of_wpIn hfn (hassign _ pre x Oc W _ hi hlen (by omega) ht ?_)⟩
      clear hy
      intro a' Oa Wa hsa hax
      have hla : Wa.heap[d + 1]? = some (.loop (rec .ready none)) := (hsa.keeps.block _ (by omega) hn2).trans hl
      have hka : Wa.heap[d]? = some (.deferred (some [])) := (hsa.keeps.block _ (by omega) hn1).trans hk
      have hna1 := hsa.not (by omega) hn1
      have hna2 := hsa.not (by omega) hn2
      have hsza := hsa.keeps.size
      refine ⟨_, run_beginRound hla (by rw [hrec]), ?_⟩
      obtain ⟨Wb, hWb⟩ : ∃ Wb, Wb = Wa.putObj (d + 1) (.loop { rec .ready none with state := .busy }) := ⟨_, rfl⟩
      have hlb : Wb.heap[d + 1]? = some (.loop { rec .ready none with state := .busy }) := by rw [hWb]; exact World.putObj_heap_same (by omega)
      have hkb : Wb.heap[d]? = some (.deferred (some [])) := by rw [hWb]; exact (World.putObj_heap_other (by omega)).trans hka
      have hszb : Wb.heap.size = Wa.heap.size := by rw [hWb]; simp
      have haxb : Ax pre x a' Oa Wb := hstab () Oa Wa Wb _ (hAx pre x a') hna2 hax hWb
      have hsb : StepO O2 (fun k => Oa k ∨ k = d ∨ k = d + 1) W Wb := by
        refine ⟨?_, fun k hk' => ?_, fun k hk' => ?_⟩
        · rw [hWb]
          refine (hsa.keeps.mono fun k _ hp => fun hoc => hp ((ho k).2 (.inl hoc))).putObj (fun _ hp => hp ((ho _).2 (.inr (.inr rfl)))) _
        · rcases hk' with hk' | hk'
          · rcases hsa.own k hk' with h | h
            · exact .inl ((ho k).2 (.inl h))
            · exact .inr h
          · exact .inl ((ho k).2 (.inr hk'))
        · rcases hk' with hk' | hk' | hk'
          · have := hsa.top k hk'; omega
          · omega
          · omega
      have hbo := hbody (d + 1) pre x a' Oa Wb haxb hlen (by omega) (fun k hk' => by rw [hszb]; exact hsa.top k hk')
      rw [hWb] at hbo
      refine wpIn_mono hbo ?_
      rw [← hWb]
      have fin : ∀ (jump : Option Code) (O3 : Nat → Prop) (W3 : World), StepO Oa O3 Wb W3 →
          (Instr.endRound (d + 1) jump).run P W3 = .ok (.bool jump.isNone) (W3.putObj (d + 1) (.loop (rec (if jump.isNone then .ready else .done) jump))) ∧
          StepO O2 (fun k => O3 k ∨ k = d ∨ k = d + 1) W (W3.putObj (d + 1) (.loop (rec (if jump.isNone then .ready else .done) jump))) ∧ ¬ O3 d ∧ ¬ O3 (d + 1) ∧
          d + 2 ≤ (W3.putObj (d + 1) (.loop (rec (if jump.isNone then .ready else .done) jump))).heap.size ∧
          (W3.putObj (d + 1) (.loop (rec (if jump.isNone then .ready else .done) jump))).heap[d + 1]? = some (.loop (rec (if jump.isNone then .ready else .done) jump)) ∧
          (W3.putObj (d + 1) (.loop (rec (if jump.isNone then .ready else .done) jump))).heap[d]? = some (.deferred (some [])) := fun jump O3 W3 hs3 => by
        have hl3 := (hs3.keeps.block _ (by omega) hna2).trans hlb
        have hk3 := (hs3.keeps.block _ (by omega) hna1).trans hkb
        have hz3 := hs3.keeps.size
        have hr := run_endRound (P := P) jump hl3
        rw [hrec] at hr ⊢
        refine ⟨hr, ?_, hs3.not (by omega) hna1, hs3.not (by omega) hna2, by simp; omega, World.putObj_heap_same (by omega), (World.putObj_heap_other (by omega)).trans hk3⟩
        refine hsb.trans ⟨?_, fun k hk' => ?_, fun k hk' => ?_⟩
        · refine (hs3.keeps.mono fun k _ hp => fun hoc => hp (.inl hoc)).putObj (fun _ hp => hp (.inr (.inr rfl))) _
        · rcases hk' with hk' | hk'
          · rcases hs3.own k hk' with h | h
            · exact .inl (.inl h)
            · exact .inr h
          · exact .inl (.inr hk')
        · have h9 : ∀ o : Obj, (W3.putObj (d + 1) o).heap.size = W3.heap.size := fun o => by simp
          rw [h9]
          rcases hk' with hk' | hk' | hk'
          · exact hs3.top k hk'
          · omega
          · omega
      rintro e a3 W3 hp
      cases e with
      | normal =>
        obtain ⟨O3, hs3, hi3⟩ := hp
        obtain ⟨hr, h2, h3, h4, h5, h6, h7⟩ := fin none O3 W3 hs3
        exact ⟨_, _, hr, _, h2, .inl ⟨rfl, O3, fun _ => Iff.rfl, h3, h4, fun k hk' => h2.top k (.inl hk'), hstab _ O3 W3 _ _ hI h4 hi3 rfl, h5, h6, h7⟩⟩
      | ret =>
        obtain ⟨O3, hs3, hi3⟩ := hp
        obtain ⟨hr, h2, h3, h4, h5, h6, h7⟩ := fin (some .ret) O3 W3 hs3
        exact ⟨_, _, hr, _, h2, .inr ⟨rfl, O3, .ret, fun _ => Iff.rfl, h3, h4, hstab _ O3 W3 _ _ (hIx _) h4 hi3 rfl, h5, h6, h7⟩⟩
      | exit id =>
        obtain ⟨O3, hs3, hi3⟩ := hp
        obtain ⟨hr, h2, h3, h4, h5, h6, h7⟩ := fin (some (.exit id)) O3 W3 hs3
        exact ⟨_, _, hr, _, h2, .inr ⟨rfl, O3, .exit id, fun _ => Iff.rfl, h3, h4, hstab _ O3 W3 _ _ (hIx _) h4 hi3 rfl, h5, h6, h7⟩⟩
      | goto t =>
        obtain ⟨O3, hs3, hi3⟩ := hp
        obtain ⟨hr, h2, h3, h4, h5, h6, h7⟩ := fin (some (.goto t)) O3 W3 hs3
        exact ⟨_, _, hr, _, h2, .inr ⟨rfl, O3, .goto t, fun _ => Iff.rfl, h3, h4, hstab _ O3 W3 _ _ (hIx _) h4 hi3 rfl, h5, h6, h7⟩⟩
      | panic ch => exact hp.elim
      | outgrown => exact hp.elim
    · exact ⟨O, fun _ => Iff.rfl, fun h => by have := (hO _ h).1; omega, fun h => by have := (hO _ h).1; omega, fun k hk' => Nat.lt_of_lt_of_le (hO k hk').1 hB1, hI1, by omega, hL1, hK1⟩
    · -- behind the iterator
      rintro e W2 ⟨⟨v, rfl⟩, (⟨xs, O2, hS, Oc, ho, hn1, hn2, _, hi, hs, hl, hk⟩ | ⟨pre, O2, hSp, Oc, c, ho, hn1, hn2, hi, hs, hl, hk⟩)⟩
      · exact ⟨none, _, by have := run_endLoop (P := P) hl (by rw [hrec]; simp); rw [hrec] at this; exact this, hdone d Oc xs _ (by omega) hn1 hS (hstab _ Oc W2 _ _ hI hn2 hi rfl) ((World.putObj_heap_other (by omega)).trans hk)⟩
      · exact ⟨some c, _, by have := run_endLoop (P := P) hl (by rw [hrec]; simp); rw [hrec] at this; exact this, hstop d c Oc pre _ (by omega) hn1 hSp (hstab _ Oc W2 _ _ (hIx c) hn2 hi rfl) ((World.putObj_heap_other (by omega)).trans hk)⟩
end Go.Proofs.YtaboafkpmgadmaaDoor
