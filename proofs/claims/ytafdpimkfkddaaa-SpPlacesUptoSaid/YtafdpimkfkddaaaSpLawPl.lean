/-
  The law SpPlaces, as a walk.
-/
import Derived.Test.YtafdpimkfkddaaaSpDm
import Derived.Test.YtafdpimkfkddaaaSpLawLv
namespace Go.Proofs.Ytafdpimkfkddaaa
open Go.RowKit
set_option maxRecDepth 100000

set_option maxHeartbeats 2000000 in
theorem spPlacesLaw_any (T : Tm) (h : Hd) (w : World) (hT : TIn w w.heap.size T h) (hs : T.sz ≤ 1048576) :
    Calls Try.prog 4 #[.agg h.cells] w fun e w' => e = .returned (.bool true) ∧ Below w.heap.size w w' := by
  have key : ∃ w1, w1 = w.alloc (.cells h.cells 26) ∧ Below w.heap.size w w1 ∧ TB 26 w1 w.heap.size h := ⟨_, rfl, (Below.refl _ _).alloc (Nat.le_refl _) _, TB.new _ _ _⟩
  obtain ⟨w1, hw1, hb1, ht1⟩ := key
  have hs1 : w.heap.size + 1 = w1.heap.size := by rw [hw1]; simp
  have hT1 := (hT.below hb1 (Nat.le_refl _)).more (show w.heap.size ≤ w1.heap.size by omega)
  obtain ⟨D, hD⟩ : ∃ D, D = w1.heap.size := ⟨_, rfl⟩
  rw [← hD] at hT1
  obtain ⟨n, hn⟩ : ∃ n, n = T.sz := ⟨_, rfl⟩
  have HS : Hid (∀ W, Below D w1 W → S1 w1 D w.heap.size h W) := Lib.hid fun W hW => S1.mk ht1 hD hW
  have hTW : ∀ W, Below D w1 W → TIn W W.heap.size T h := fun W hW => (hT1.below hW (Nat.le_refl _)).more (by rw [hD]; exact hW.size)
  have HL : Hid (∀ W, Below D w1 W → Calls Try.prog 15 #[.agg h.cells] W fun e w' => ∃ A c xs, e = .returned (.slice A n c) ∧ w'.ownsRow D 34 2 (.slice A n c) n xs ∧ Hid (Filled xs n T.posN) ∧ Below W.heap.size W w' ∧ S1 w1 D w.heap.size h w') := Lib.hid fun W hW => by
    have hDW : D ≤ W.heap.size := by rw [hD]; exact hW.size
    refine (marks_any T h W (hTW W hW) hs).mono fun e w' ⟨A, c, xs, h1, h2, h3, h4⟩ => ?_
    rw [hn]
    exact ⟨A, c, xs, h1, own_more h2 hDW, Lib.hid h3, h4, HS.out w' (hW.trans (h4.mono hDW))⟩
  have HR : Hid (∀ W, Below D w1 W → Calls Try.prog 16 #[.agg h.cells] W fun e w' => ∃ A c xs, e = .returned (.slice A n c) ∧ w'.ownsRow D 34 2 (.slice A n c) n xs ∧ Hid (Filled xs n T.posN) ∧ Below W.heap.size W w' ∧ S1 w1 D w.heap.size h w') := Lib.hid fun W hW => by
    have hDW : D ≤ W.heap.size := by rw [hD]; exact hW.size
    refine (dmarks_any T h W (hTW W hW) hs).mono fun e w' ⟨A, c, xs, h1, h2, h3, h4⟩ => ?_
    rw [hn]
    exact ⟨A, c, xs, h1, own_more h2 hDW, Lib.hid h3, h4, HS.out w' (hW.trans (h4.mono hDW))⟩
  have HE : Hid (∀ W A c xs A' c' xs', Below D w1 W → Hid (Filled xs n T.posN) → Hid (Filled xs' n T.posN) → W.ownsRow D 34 2 (.slice A n c) n xs → W.ownsRow D 34 2 (.slice A' n c') n xs' →
      Calls Try.prog 14 #[.slice A n c, .slice A' n c'] W fun e w' => e = .returned (.bool true) ∧ S1 w1 D w.heap.size h w') := Lib.hid fun W A c xs A' c' xs' hW f1 f2 h1 h2 => by
    have hDW : D ≤ W.heap.size := by rw [hD]; exact hW.size
    exact (equalPr_same A A' c c' n T.posN W (by omega) (own_rdPr h1 f1.out) (own_rdPr h2 f2.out)).mono fun e w' ⟨h1, h3⟩ => ⟨h1, HS.out w' (hW.trans (h3.mono hDW))⟩
  obtain ⟨z0, z00, z1, z2, z3, z4, z5⟩ := HS.out w1 (Below.refl _ _)
  have HB1 := Lib.hid hb1
  have HDD : Hid (w.heap.size ≤ D) := Lib.hid (by omega)
  obtain ⟨k, c, x, l, A, m, cap⟩ := h
  dsimp only [Hd.cells] at hw1 z1 z2 z3 z4 z5 HL HR ⊢
  clear hT hs hb1 ht1 hs1 hT1 hD hn hTW
  go_enter Try.func4, Try.ntmps4
  go_wp2_with fail
  rw [← hw1]
  clear hw1
  go_region_held3 (S1 w1 D w.heap.size ⟨k, c, x, l, A, m, cap⟩)
    (first
      | (go_split_ands; refine ⟨?_, ?_, ?_, ?_, ?_, ?_, ?_⟩ <;> assumption)
      | (go_split_ands; exact HS.out _ (by first | assumption | (refine Below.drew ?_; assumption))))
    (first
      | (go_at_call 15; go_split_ands; refine (HL.out _ (by assumption)).mono ?_; rintro e w5 ⟨A5, c5, xs5, rfl, ho5, hf5, hb5, hS5⟩; obtain ⟨y0, y00, y1, y2, y3, y4, y5⟩ := hS5; dsimp only at y1 y2 y3 y4 y5)
      | (go_at_call 16; go_split_ands; refine (HR.out _ (by assumption)).mono ?_; rintro e w6 ⟨A6, c6, xs6, rfl, ho6, hf6, hb6, hS6⟩; have ho56 := own_step ho5 hb6 (Nat.le_refl _); obtain ⟨x0, x00, x1, x2, x3, x4, x5⟩ := hS6; dsimp only at x1 x2 x3 x4 x5)
      | (go_at_call 14; go_split_ands; refine (HE.out _ _ _ xs5 _ _ xs6 (by assumption) hf5 hf6 (by assumption) (by assumption)).mono ?_; rintro e w7 ⟨rfl, hS7⟩; obtain ⟨u0, u00, u1, u2, u3, u4, u5⟩ := hS7; dsimp only at u1 u2 u3 u4 u5)
      | fail)
  all_goals
    go_wp2_with fail
    go_ret
    exact ⟨rfl, HB1.out.trans (u0.mono HDD.out)⟩
end Go.Proofs.Ytafdpimkfkddaaa
