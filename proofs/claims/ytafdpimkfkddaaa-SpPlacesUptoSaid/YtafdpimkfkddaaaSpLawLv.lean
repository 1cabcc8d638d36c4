/-
  The law SpLeaves, as a walk: it answers true and leaves the memory of before as it was.
-/
import Derived.Test.YtafdpimkfkddaaaSpEq
namespace Go.Proofs.Ytafdpimkfkddaaa
open Go.RowKit
set_option maxRecDepth 100000

/-- what is held while a term in its box is asked -/
@[reducible] def S1 (w1 : World) (D B : Nat) (h : Hd) (W : World) : Prop :=
  Below D w1 W ∧ D ≤ W.heap.size ∧
  W.cell? ⟨B, 0, none⟩ = some (.int .i64 h.k) ∧ W.cell? ⟨B, 1, none⟩ = some (.int .i64 h.c) ∧ W.cell? ⟨B, 2, none⟩ = some (.bool h.x) ∧ W.cell? ⟨B, 3, none⟩ = some (.int .i64 h.l) ∧ W.cell? ⟨B, 4, none⟩ = some (.slice h.A h.n h.cap)
theorem S1.mk {w1 W : World} {D B : Nat} {h : Hd} {T : TypeId} (t : TB T w1 B h) (hD : D = w1.heap.size) (hb : Below D w1 W) : S1 w1 D B h W := by
  have l : B < D := hD ▸ t.lt
  exact ⟨hb, hD ▸ hb.size, (hb.cell (p := ⟨B, 0, none⟩) l).trans t.c0, (hb.cell (p := ⟨B, 1, none⟩) l).trans t.c1, (hb.cell (p := ⟨B, 2, none⟩) l).trans t.c2, (hb.cell (p := ⟨B, 3, none⟩) l).trans t.c3, (hb.cell (p := ⟨B, 4, none⟩) l).trans t.c4⟩

set_option maxHeartbeats 2000000 in
theorem spLeavesLaw_any (T : Tm) (h : Hd) (i j : Int) (w : World) (hT : TIn w w.heap.size T h) (hs : T.sz ≤ 1048576) :
    Calls Try.prog 3 #[.agg h.cells, .int .i64 i, .int .i64 j] w fun e w' => e = .returned (.bool true) ∧ Below w.heap.size w w' := by
  have key : ∃ w1, w1 = w.alloc (.cells h.cells 26) ∧ Below w.heap.size w w1 ∧ TB 26 w1 w.heap.size h := ⟨_, rfl, (Below.refl _ _).alloc (Nat.le_refl _) _, TB.new _ _ _⟩
  obtain ⟨w1, hw1, hb1, ht1⟩ := key
  have hs1 : w.heap.size + 1 = w1.heap.size := by rw [hw1]; simp
  have hT1 := (hT.below hb1 (Nat.le_refl _)).more (show w.heap.size ≤ w1.heap.size by omega)
  obtain ⟨D, hD⟩ : ∃ D, D = w1.heap.size := ⟨_, rfl⟩
  rw [← hD] at hT1
  obtain ⟨n, hn⟩ : ∃ n, n = T.lv.length := ⟨_, rfl⟩
  have hn2 : n ≤ 1048576 := by rw [hn, T.lv_len]; exact hs
  have HS : Hid (∀ W, Below D w1 W → S1 w1 D w.heap.size h W) := Lib.hid fun W hW => S1.mk ht1 hD hW
  have hTW : ∀ W, Below D w1 W → TIn W W.heap.size T h := fun W hW => (hT1.below hW (Nat.le_refl _)).more (by rw [hD]; exact hW.size)
  have HL : Hid (∀ W, Below D w1 W → Calls Try.prog 10 #[.agg h.cells] W fun e w' => ∃ A c, e = .returned (.slice A n c) ∧ w'.ownsRow D 23 3 (.slice A n c) n (accs T.lv) ∧ Below W.heap.size W w' ∧ S1 w1 D w.heap.size h w') := Lib.hid fun W hW => by
    have hDW : D ≤ W.heap.size := by rw [hD]; exact hW.size
    refine (leaves_any T h W (hTW W hW) hs).mono fun e w' ⟨v, h1, h2, h3⟩ => ?_
    obtain ⟨A, c, rfl⟩ := own_form h2
    exact ⟨A, c, by rw [hn]; exact h1, by rw [hn]; exact own_more h2 hDW, h3, HS.out w' (hW.trans (h3.mono hDW))⟩
  have HR : Hid (∀ W, Below D w1 W → Calls Try.prog 11 #[.agg h.cells] W fun e w' => ∃ A c, e = .returned (.slice A n c) ∧ w'.ownsRow D 23 3 (.slice A n c) n (accs T.lv) ∧ Below W.heap.size W w' ∧ S1 w1 D w.heap.size h w') := Lib.hid fun W hW => by
    have hDW : D ≤ W.heap.size := by rw [hD]; exact hW.size
    refine (dleaves_any T h W (hTW W hW) hs).mono fun e w' ⟨v, h1, h2, h3⟩ => ?_
    obtain ⟨A, c, rfl⟩ := own_form h2
    exact ⟨A, c, by rw [hn]; exact h1, by rw [hn]; exact own_more h2 hDW, h3, HS.out w' (hW.trans (h3.mono hDW))⟩
  have HB : Hid (∀ W, Below D w1 W → Calls Try.prog 12 #[.agg h.cells, .int .i64 i, .int .i64 j] W fun e w' => e = .returned (.bool (T.bef i j)) ∧ Below W.heap.size W w' ∧ S1 w1 D w.heap.size h w') := Lib.hid fun W hW => by
    have hDW : D ≤ W.heap.size := by rw [hD]; exact hW.size
    exact (before_any T h i j W (hTW W hW) hs).mono fun e w' ⟨h1, h3⟩ => ⟨h1, h3, HS.out w' (hW.trans (h3.mono hDW))⟩
  have HDB : Hid (∀ W, Below D w1 W → Calls Try.prog 13 #[.agg h.cells, .int .i64 i, .int .i64 j] W fun e w' => e = .returned (.bool (T.bef i j)) ∧ Below W.heap.size W w' ∧ S1 w1 D w.heap.size h w') := Lib.hid fun W hW => by
    have hDW : D ≤ W.heap.size := by rw [hD]; exact hW.size
    exact (dbef_any T h W i j (hTW W hW) hs).mono fun e w' ⟨h1, h3⟩ => ⟨h1, h3, HS.out w' (hW.trans (h3.mono hDW))⟩
  have HE : Hid (∀ W A c A' c', Below D w1 W → W.ownsRow D 23 3 (.slice A n c) n (accs T.lv) → W.ownsRow D 23 3 (.slice A' n c') n (accs T.lv) →
      Calls Try.prog 9 #[.slice A n c, .slice A' n c'] W fun e w' => e = .returned (.bool true) ∧ S1 w1 D w.heap.size h w') := Lib.hid fun W A c A' c' hW h1 h2 => by
    have hDW : D ≤ W.heap.size := by rw [hD]; exact hW.size
    rw [hn] at h1 h2 ⊢
    exact (equalAc_same A A' c c' T.lv W (own_rdAc h1 (by omega)) (own_rdAc h2 (by omega))).mono fun e w' ⟨h1, h3⟩ => ⟨h1, HS.out w' (hW.trans (h3.mono hDW))⟩
  obtain ⟨z0, z00, z1, z2, z3, z4, z5⟩ := HS.out w1 (Below.refl _ _)
  have HB1 := Lib.hid hb1
  have HDD : Hid (w.heap.size ≤ D) := Lib.hid (by omega)
  obtain ⟨k, c, x, l, A, m, cap⟩ := h
  dsimp only [Hd.cells] at hw1 z1 z2 z3 z4 z5 HL HR HB HDB ⊢
  clear hT hs hb1 ht1 hs1 hT1 hD hn hTW
  go_enter Try.func3, Try.ntmps3
  go_wp2_with fail
  rw [← hw1]
  clear hw1
  go_region_held3 (S1 w1 D w.heap.size ⟨k, c, x, l, A, m, cap⟩)
    (first
      | (go_split_ands; refine ⟨?_, ?_, ?_, ?_, ?_, ?_, ?_⟩ <;> assumption)
      | (go_split_ands; exact HS.out _ (by first | assumption | (refine Below.drew ?_; assumption))))
    (first
      | (go_at_call 10; go_split_ands; refine (HL.out _ (by assumption)).mono ?_; rintro e w5 ⟨A5, c5, rfl, ho5, hb5, hS5⟩; obtain ⟨y0, y00, y1, y2, y3, y4, y5⟩ := hS5; dsimp only at y1 y2 y3 y4 y5)
      | (go_at_call 11; go_split_ands; refine (HR.out _ (by assumption)).mono ?_; rintro e w6 ⟨A6, c6, rfl, ho6, hb6, hS6⟩; have ho56 := own_step ho5 hb6 (Nat.le_refl _); obtain ⟨x0, x00, x1, x2, x3, x4, x5⟩ := hS6; dsimp only at x1 x2 x3 x4 x5)
      | (go_at_call 9; go_split_ands; refine (HE.out _ _ _ _ _ (by assumption) (by assumption) (by assumption)).mono ?_; rintro e w7 ⟨rfl, hS7⟩; obtain ⟨u0, u00, u1, u2, u3, u4, u5⟩ := hS7; dsimp only at u1 u2 u3 u4 u5)
      | (go_at_call 12; go_split_ands; refine (HB.out _ (by assumption)).mono ?_; rintro e w8 ⟨rfl, _, hS8⟩; obtain ⟨t0, t00, t1, t2, t3, t4, t5⟩ := hS8; dsimp only at t1 t2 t3 t4 t5)
      | (go_at_call 13; go_split_ands; refine (HDB.out _ (by assumption)).mono ?_; rintro e w9 ⟨rfl, _, hS9⟩; obtain ⟨s0, s00, s1, s2, s3, s4, s5⟩ := hS9; dsimp only at s1 s2 s3 s4 s5)
      | fail)
  all_goals
    go_wp2_with fail
    go_ret
    exact ⟨by simp, HB1.out.trans (s0.mono HDD.out)⟩
end Go.Proofs.Ytafdpimkfkddaaa
