/-
  Contracts of bitset.And, Or, Less over bitset.merge, for every two slices of words.
-/
import Derived.Test.YtafdpimkfkddaaaDoorBsA
namespace Go.Proofs.YtafdpimkfkddaaaDoor
open Go.RowKit
set_option maxRecDepth 100000

theorem Tryd.infoU64 : (Tryd.prog.info? 34).map (fun i => (i.zero, i.size, i.bytes)) = some (some (.int .u64 0), 1, 8) := by kernel_rfl

/-- what merge's second loop holds when k words are written -/
def MrgAt (w : World) (base : Nat) (h : Nat → Nat) (n k : Nat) (c : Nat) (g : Nat) : Prop :=
  ∃ L : List Value, w.ownsRow base 34 1 (.slice (some ⟨g, 0, none⟩) n c) n L ∧ (∀ j, j < k → L[j]? = some (.int .u64 (h j : Int))) ∧ L.length = n
theorem MrgAt.cell {w : World} {base n k c g : Nat} {h : Nat → Nat} (H : MrgAt w base h n k c g) (hk : k < n) : ∃ v, w.cell? ⟨g, k, none⟩ = some v := by
  obtain ⟨L, hown, _, hl⟩ := H
  rw [hown.cellAt k (by omega)]
  exact ⟨_, List.getElem?_eq_getElem (by omega)⟩
theorem MrgAt.frozen {w : World} {base n k c g : Nat} {h : Nat → Nat} (H : MrgAt w base h n k c g) : w.frozen? ⟨g, k, none⟩ = false := by
  obtain ⟨L, hown, _, hl⟩ := H
  exact hown.frozenAt k
theorem MrgAt.step {w : World} {base n k c g : Nat} {h : Nat → Nat} (H : MrgAt w base h n k c g) (hk : k < n) : MrgAt (w.setCell ⟨g, k, none⟩ (.int .u64 (h k : Int))) base h n (k + 1) c g := by
  obtain ⟨L, hown, hL, hl⟩ := H
  refine ⟨L.set k (.int .u64 (h k : Int)), (hown.stored k _).1, fun j hj => ?_, by simp [hl]⟩
  by_cases e : j = k
  · subst e; simp [hl, hk]
  · rw [List.getElem?_set_ne (by omega)]; exact hL j (by omega)
theorem MrgAt.base_le {w : World} {base n k c g : Nat} {h : Nat → Nat} (H : MrgAt w base h n k c g) : base ≤ g := by
  obtain ⟨L, hown, _⟩ := H
  exact own_base hown g rfl
theorem MrgAt.done {w : World} {base n c g : Nat} {h : Nat → Nat} (H : MrgAt w base h n n c g) : w.ownsRow base 34 1 (.slice (some ⟨g, 0, none⟩) n c) n (uVals ((List.range n).map h)) := by
  obtain ⟨L, hown, hL, hl⟩ := H
  have e : L = uVals ((List.range n).map h) := by
    apply List.ext_getElem?
    intro j
    by_cases hj : j < n
    · rw [hL j hj, uVals_at _ _ (by simpa using hj), wd_map, if_pos hj]
    · rw [List.getElem?_eq_none (by omega), List.getElem?_eq_none (by rw [uVals_len]; simp; omega)]
  rw [← e]; exact hown



set_option maxHeartbeats 2000000 in
/-- merge with orN -/
theorem mergeorN_any (A A' : Option Addr) (c c' : Nat) (xs ys : List Nat) (w : World) (hx : RdU w w.heap.size A xs) (hy : RdU w w.heap.size A' ys) (hxl : xs.length ≤ 35184372088832) (hyl : ys.length ≤ 35184372088832) :
    Calls Tryd.prog 42 #[.slice A xs.length c, .slice A' ys.length c', .func (.func 43) #[] #[]] w fun e w' => ∃ v, e = .returned v ∧ w'.ownsRow w.heap.size 34 1 v (mrg orN xs ys).length (uVals (mrg orN xs ys)) ∧ Below w.heap.size w w' := by
  obtain ⟨i0, hi, hz0, hz1, hz2⟩ := info_parts Tryd.infoU64
  obtain ⟨q, hh⟩ : ∃ q : Nat → Nat, q = fun k => orN (wd xs k) (wd ys k) := ⟨_, rfl⟩
  obtain ⟨N, hN⟩ : ∃ N, N = max xs.length ys.length := ⟨_, rfl⟩
  have hNl : N ≤ 35184372088832 := by omega
  have hhk : ∀ k, orN (wd xs k) (wd ys k) = q k := fun k => by rw [hh]
  have HH := Lib.hid hhk
  have HN := Lib.hid hN
  have HR : Hid (mrg orN xs ys = (List.range (trim q N)).map q) := by unfold mrg; rw [← hh, ← hN]; exact rfl
  clear hhk hh hN
  go_enter Tryd.func42, Tryd.ntmps42
  go_wp2
  all_goals
    go_loop [7] (fun i => ∃ k : Nat, k ≤ N ∧ i = .int .i64 k ∧ Hid (trim q N = trim q k)) (fun i => (intOf i).toNat)
    case atStart =>
      have hN := HN.out
      first
        | exact ⟨ys.length, by omega, rfl, by rw [show N = ys.length by omega]; exact rfl⟩
        | exact ⟨xs.length, by omega, rfl, by rw [show N = xs.length by omega]; exact rfl⟩
    case round =>
      obtain ⟨k, hk, rfl, ht⟩ := hrel
      have h3 : (∃ m, k = m + 1 ∧ q m = 0) ∨ (k = 0 ∨ ∃ m, k = m + 1 ∧ q m ≠ 0) := by
        rcases k with _ | m
        · exact .inr (.inl rfl)
        · by_cases h : q m = 0
          · exact .inl ⟨m, rfl, h⟩
          · exact .inr (.inr ⟨m, rfl, h⟩)
      rcases h3 with ⟨m, rfl, h0⟩ | h3
      · have hz : ((q m : Int) == 0) = true := by simp [h0]
        have H0 := Lib.hid h0
        clear h0
        have hqm := HH.out m
        go_wp2_with (first | (go_at_call 37; (first | (with_reducible refine (word_any _ _ _ _ _ hx (by omega)).mono ?_) | (with_reducible refine (word_any _ _ _ _ _ hy (by omega)).mono ?_)); rintro e w' ⟨rfl, rfl⟩) | (go_at_call 43; refine (or1_any _ _ _ (hx.lt _) (hy.lt _)).mono ?_; rintro e w' ⟨rfl, rfl⟩))
        go_round
        case rel => exact ⟨m, by omega, rfl, by rw [ht.out, trim_zero q m H0.out]; exact rfl⟩
        case measure => simp [intOf]
      · have hT : Hid (trim q N = k) := by
          rw [ht.out]
          rcases h3 with rfl | ⟨m, rfl, h0⟩
          · exact rfl
          · rw [trim_stop q m h0]; exact rfl
        rcases h3 with rfl | ⟨m, rfl, h0⟩
        · go_wp2_with (at_make; refine wpList_make_full _ rfl _ _ 77 rfl w.heap.size 34 i0 (.int .u64 0) 1 Tryd.underlying77 hi hz0 hz1 .i64 .i64 _ _ 0 rfl rfl rfl rfl (by rw [hz2]; omega) (by unfold maxLen; omega) (Nat.le_refl _) ?_; intro w0 hown0 hgrow0)
          refine wp_loop_rounds 1 ?_
          rw [rounds_succ]
          go_wp2
          go_ret
          refine ⟨_, rfl, ?_, (Below.refl _ _).grown hgrow0 (Nat.le_refl _) (fun _ h => by cases h)⟩
          rw [HR.out, hT.out]
          simpa [madeCells, uVals] using hown0
        · have hz : ((q m : Int) == 0) = false := by simpa using h0
          clear h0
          have hqm := HH.out m
          go_wp2_with (first | (go_at_call 37; (first | (with_reducible refine (word_any _ _ _ _ _ hx (by omega)).mono ?_) | (with_reducible refine (word_any _ _ _ _ _ hy (by omega)).mono ?_)); rintro e w' ⟨rfl, rfl⟩) | (go_at_call 43; refine (or1_any _ _ _ (hx.lt _) (hy.lt _)).mono ?_; rintro e w' ⟨rfl, rfl⟩) | (at_make; refine wpList_make_full _ rfl _ _ 77 rfl w.heap.size 34 i0 (.int .u64 0) 1 Tryd.underlying77 hi hz0 hz1 .i64 .i64 _ _ (m + 1) rfl rfl (by omega) (by omega) (by rw [hz2]; omega) (by unfold maxLen; omega) (Nat.le_refl _) ?_; intro w0 hown0 hgrow0))
          have hB0 : Below w.heap.size w w0 := (Below.refl _ _).grown hgrow0 (Nat.le_refl _) (fun _ h => by cases h)
          have hM0 : MrgAt w0 w.heap.size q (m + 1) 0 (m + 1) w.heap.size := ⟨_, hown0, fun j hj => by omega, by simpa using hown0.1⟩
          clear hown0 hgrow0 hz
          go_loopw [36] (fun i wr => ∃ j : Nat, j ≤ m + 1 ∧ i = .int .i64 j ∧ MrgAt wr w.heap.size q (m + 1) j (m + 1) w.heap.size ∧ Below w.heap.size w wr) (fun i _ => m + 1 - (intOf i).toNat)
          case atStart => exact ⟨0, Nat.zero_le _, rfl, hM0, hB0⟩
          case round =>
            obtain ⟨j, hj, rfl, hM, hB⟩ := hrel
            by_cases hjl : j < m + 1
            · have hxr := (hx.below hB).more hB.size
              have hyr := (hy.below hB).more hB.size
              obtain ⟨v0, hcell⟩ := hM.cell hjl
              have hfz := hM.frozen
              have hqj := HH.out j
              go_wp2_with (first | (go_at_call 37; (first | (with_reducible refine (word_any _ _ _ _ _ hxr (by omega)).mono ?_) | (with_reducible refine (word_any _ _ _ _ _ hyr (by omega)).mono ?_)); rintro e w' ⟨rfl, rfl⟩) | (go_at_call 43; refine (or1_any _ _ _ (hx.lt _) (hy.lt _)).mono ?_; rintro e w' ⟨rfl, rfl⟩))
              go_roundw
              case rel => exact ⟨j + 1, by omega, by go_num, hM.step hjl, hB.setCell (Nat.le_refl _) _⟩
              case measure => simp [intOf]; omega
            · go_wp2
              go_ret
              obtain rfl : j = m + 1 := by omega
              refine ⟨_, rfl, ?_, hB⟩
              rw [HR.out, hT.out]
              have hd := hM.done
              simpa using hd

end Go.Proofs.YtafdpimkfkddaaaDoor
