/-
  The law SpanTells, as a walk: it answers true and leaves the memory of before as it was.
-/
import Derived.Test.YtidgibkiacbgfaaSnEs
import Derived.Test.YtidgibkiacbgfaaSnEw
import Derived.Test.YtidgibkiacbgfaaSnAr
namespace Go.Proofs.Ytidgibkiacbgfaa
open Go.RowKit
set_option maxRecDepth 100000

set_option maxHeartbeats 2000000 in
theorem spanTellsLaw_any (T : Tm) (h : Hd) (w : World) (hT : TIn w w.heap.size T h) (hs : T.sz ≤ 1048576) :
    Calls Try.prog 3 #[.agg h.cells] w fun e w' => e = .returned (.bool true) ∧ Below w.heap.size w w' := by
  have key : ∃ w1, w1 = w.alloc (.cells h.cells 26) ∧ Below w.heap.size w w1 ∧ TB 26 w1 w.heap.size h := ⟨_, rfl, (Below.refl _ _).alloc (Nat.le_refl _) _, TB.new _ _ _⟩
  obtain ⟨w1, hw1, hb1, ht1⟩ := key
  have hT1 := (hT.below hb1 (Nat.le_refl _)).more hb1.size
  obtain ⟨D, hD⟩ : ∃ D, D = w1.heap.size := ⟨_, rfl⟩
  have HS : Hid (∀ W, Below D w1 W → Sb w1 D w.heap.size h W) := Lib.hid fun W hW => Sb.mk ht1 hD hW
  have hTW : ∀ W, Below D w1 W → TIn W W.heap.size T h := fun W hW => by subst hD; exact (hT1.below hW (Nat.le_refl _)).more hW.size
  have hDW : ∀ W, Below D w1 W → D ≤ W.heap.size := fun W hW => by rw [hD]; exact hW.size
  obtain ⟨z, hz⟩ : ∃ z, z = T.sz := ⟨_, rfl⟩
  obtain ⟨s, hs'⟩ : ∃ s, s = T.sn := ⟨_, rfl⟩
  obtain ⟨b, hb'⟩ : ∃ b, b = T.wd := ⟨_, rfl⟩
  have H1 : Hid (∀ W, Below D w1 W → Calls Try.prog 6 #[.agg h.cells] W fun e w' => e = .returned (.int .i64 (z : Int)) ∧ Sb w1 D w.heap.size h w') := Lib.hid fun W hW => by
    rw [hz]; exact (work_any T h W (hTW W hW) hs).mono fun e w' ⟨h1, h2⟩ => ⟨h1, HS.out w' (hW.trans (h2.mono (hDW W hW)))⟩
  have H2 : Hid (∀ W, Below D w1 W → Calls Try.prog 7 #[.agg h.cells] W fun e w' => ∃ A c, e = .returned (.slice A z c) ∧ Sb w1 D w.heap.size h w') := Lib.hid fun W hW => by
    refine (dleaves_any T h W (hTW W hW) hs).mono fun e w' ⟨v, h1, h2, h3⟩ => ?_
    rw [T.lv_len, ← hz] at h2
    obtain ⟨A, c, rfl⟩ := own_form h2
    exact ⟨A, c, h1, HS.out w' (hW.trans (h3.mono (hDW W hW)))⟩
  have H3 : Hid (∀ W, Below D w1 W → Calls Try.prog 8 #[.agg h.cells] W fun e w' => e = .returned (.int .i64 (s : Int)) ∧ Sb w1 D w.heap.size h w') := Lib.hid fun W hW => by
    rw [hs']; exact (span_any T h W (hTW W hW) hs).mono fun e w' ⟨h1, h2⟩ => ⟨h1, HS.out w' (hW.trans (h2.mono (hDW W hW)))⟩
  have H4 : Hid (∀ W, Below D w1 W → Calls Try.prog 9 #[.agg h.cells] W fun e w' => e = .returned (.int .i64 (s : Int)) ∧ Sb w1 D w.heap.size h w') := Lib.hid fun W hW => by
    rw [hs']; exact (espan_any T h W (hTW W hW) hs).mono fun e w' ⟨h1, h2⟩ => ⟨h1, HS.out w' (hW.trans (h2.mono (hDW W hW)))⟩
  have H5 : Hid (∀ W, Below D w1 W → Calls Try.prog 10 #[.agg h.cells] W fun e w' => e = .returned (.int .i64 (b : Int)) ∧ Sb w1 D w.heap.size h w') := Lib.hid fun W hW => by
    rw [hb']; exact (width_any T h W (hTW W hW) hs).mono fun e w' ⟨h1, h2⟩ => ⟨h1, HS.out w' (hW.trans (h2.mono (hDW W hW)))⟩
  have H6 : Hid (∀ W, Below D w1 W → Calls Try.prog 11 #[.agg h.cells] W fun e w' => e = .returned (.int .i64 (b : Int)) ∧ Sb w1 D w.heap.size h w') := Lib.hid fun W hW => by
    rw [hb']; exact (ewid_any T h W (hTW W hW) hs).mono fun e w' ⟨h1, h2⟩ => ⟨h1, HS.out w' (hW.trans (h2.mono (hDW W hW)))⟩
  obtain ⟨z0, z00, z1, z2, z3, z4, z5⟩ := HS.out w1 (Below.refl _ _)
  have HBF : Hid (∀ W, Below D w1 W → Below w.heap.size w W) := Lib.hid fun W hW => hb1.trans (hW.mono (by rw [hD]; exact hb1.size))
  obtain ⟨k, c, x, l, A, m, cap⟩ := h
  dsimp only [Hd.cells] at hw1 z1 z2 z3 z4 z5 H1 H2 H3 H4 H5 H6 ⊢
  clear hT hT1 hb1 ht1 hD hTW hDW hz hs' hb' hs
  go_enter Try.func3, Try.ntmps3
  go_wp2_with fail
  rw [← hw1]
  clear hw1
  go_region_held3 (Sb w1 D w.heap.size ⟨k, c, x, l, A, m, cap⟩)
    (first
      | (go_split_ands; refine ⟨?_, ?_, ?_, ?_, ?_, ?_, ?_⟩ <;> assumption)
      | (go_split_ands; exact HS.out _ (by first | assumption | (refine Below.drew ?_; assumption))))
    (first
      | (go_at_call 6; (try go_split_ands); refine (H1.out _ (by assumption)).mono ?_; rintro e w5 ⟨rfl, hS5⟩; clear z0 z00 z1 z2 z3 z4 z5; obtain ⟨z0, z00, z1, z2, z3, z4, z5⟩ := hS5; dsimp only at z1 z2 z3 z4 z5)
      | (go_at_call 7; (try go_split_ands); refine (H2.out _ (by assumption)).mono ?_; rintro e w5 ⟨A5, c5, rfl, hS5⟩; clear z0 z00 z1 z2 z3 z4 z5; obtain ⟨z0, z00, z1, z2, z3, z4, z5⟩ := hS5; dsimp only at z1 z2 z3 z4 z5)
      | (go_at_call 8; (try go_split_ands); refine (H3.out _ (by assumption)).mono ?_; rintro e w5 ⟨rfl, hS5⟩; clear z0 z00 z1 z2 z3 z4 z5; obtain ⟨z0, z00, z1, z2, z3, z4, z5⟩ := hS5; dsimp only at z1 z2 z3 z4 z5)
      | (go_at_call 9; (try go_split_ands); refine (H4.out _ (by assumption)).mono ?_; rintro e w5 ⟨rfl, hS5⟩; clear z0 z00 z1 z2 z3 z4 z5; obtain ⟨z0, z00, z1, z2, z3, z4, z5⟩ := hS5; dsimp only at z1 z2 z3 z4 z5)
      | (go_at_call 10; (try go_split_ands); refine (H5.out _ (by assumption)).mono ?_; rintro e w5 ⟨rfl, hS5⟩; clear z0 z00 z1 z2 z3 z4 z5; obtain ⟨z0, z00, z1, z2, z3, z4, z5⟩ := hS5; dsimp only at z1 z2 z3 z4 z5)
      | (go_at_call 11; (try go_split_ands); refine (H6.out _ (by assumption)).mono ?_; rintro e w5 ⟨rfl, hS5⟩; clear z0 z00 z1 z2 z3 z4 z5; obtain ⟨z0, z00, z1, z2, z3, z4, z5⟩ := hS5; dsimp only at z1 z2 z3 z4 z5)
      | fail)
  all_goals
    have hbf := HBF.out _ z0
    go_wp2_with fail
    go_ret
    exact ⟨by simp, hbf⟩
end Go.Proofs.Ytidgibkiacbgfaa
