/-
  The law SpanArea, as a walk: it answers true and leaves the memory of before as it was.
-/
import Derived.Test.YtidgibkiacbgfaaSnAl
namespace Go.Proofs.Ytidgibkiacbgfaa
open Go.RowKit
set_option maxRecDepth 100000

/-- what is held while a term in its box is asked -/
@[reducible] def Sb (w1 : World) (D B : Nat) (h : Hd) (W : World) : Prop :=
  Below D w1 W ∧ D ≤ W.heap.size ∧
  W.cell? ⟨B, 0, none⟩ = some (.int .i64 h.k) ∧ W.cell? ⟨B, 1, none⟩ = some (.int .i64 h.c) ∧ W.cell? ⟨B, 2, none⟩ = some (.bool h.x) ∧ W.cell? ⟨B, 3, none⟩ = some (.int .i64 h.l) ∧ W.cell? ⟨B, 4, none⟩ = some (.slice h.A h.n h.cap)
theorem Sb.mk {w1 W : World} {D B : Nat} {h : Hd} {T : TypeId} (t : TB T w1 B h) (hD : D = w1.heap.size) (hb : Below D w1 W) : Sb w1 D B h W := by
  have l : B < D := hD ▸ t.lt
  exact ⟨hb, hD ▸ hb.size, (hb.cell (p := ⟨B, 0, none⟩) l).trans t.c0, (hb.cell (p := ⟨B, 1, none⟩) l).trans t.c1, (hb.cell (p := ⟨B, 2, none⟩) l).trans t.c2, (hb.cell (p := ⟨B, 3, none⟩) l).trans t.c3, (hb.cell (p := ⟨B, 4, none⟩) l).trans t.c4⟩

set_option maxHeartbeats 2000000 in
theorem spanAreaLaw_any (T : Tm) (h : Hd) (w : World) (hT : TIn w w.heap.size T h) (hs : T.sz ≤ 1048576) :
    Calls Try.prog 4 #[.agg h.cells] w fun e w' => e = .returned (.bool true) ∧ Below w.heap.size w w' := by
  have key : ∃ w1, w1 = w.alloc (.cells h.cells 26) ∧ Below w.heap.size w w1 ∧ TB 26 w1 w.heap.size h := ⟨_, rfl, (Below.refl _ _).alloc (Nat.le_refl _) _, TB.new _ _ _⟩
  obtain ⟨w1, hw1, hb1, ht1⟩ := key
  have hs1 : w.heap.size + 1 = w1.heap.size := by rw [hw1]; simp
  have hT1 := (hT.below hb1 (Nat.le_refl _)).more (show w.heap.size ≤ w1.heap.size by omega)
  have hA := alive5_any w1
  have HAl : Hid (Calls Try.prog 12 #[] w1 fun e w' => e = .returned (.bool true) ∧ Below w1.heap.size w1 w' ∧ TIn w' w'.heap.size T h ∧ TB 26 w' w.heap.size h) := Lib.hid (hA.mono fun e w' ⟨h1, h2⟩ => ⟨h1, h2, (hT1.below h2 (Nat.le_refl _)).more h2.size, (h2.block _ (by omega)).trans ht1⟩)
  have HC1 : Hid (∀ W, TIn W W.heap.size T h → Calls Try.prog 6 #[.agg h.cells] W fun e w' => e = .returned (.int .i64 (T.sz : Nat)) ∧ Below W.heap.size W w') := Lib.hid fun W hW => work_any T h W hW hs
  have HC2 : Hid (∀ W, TIn W W.heap.size T h → Calls Try.prog 8 #[.agg h.cells] W fun e w' => e = .returned (.int .i64 (T.sn : Nat)) ∧ Below W.heap.size W w') := Lib.hid fun W hW => span_any T h W hW hs
  have HC3 : Hid (∀ W, TIn W W.heap.size T h → Calls Try.prog 10 #[.agg h.cells] W fun e w' => e = .returned (.int .i64 (T.wd : Nat)) ∧ Below W.heap.size W w') := Lib.hid fun W hW => width_any T h W hW hs
  have a1 : T.sn ≤ T.sz := T.ms_le _ _
  have a2 : T.wd ≤ T.sz := T.ms_le _ _
  have a3 := T.area
  have a4 : T.sz = 0 ↔ T.sn = 0 := T.ms_zero _ _
  have a5 : T.sz = 0 ↔ T.wd = 0 := T.ms_zero _ _
  obtain ⟨z, hz⟩ : ∃ z, z = T.sz := ⟨_, rfl⟩
  obtain ⟨s, hs'⟩ : ∃ s, s = T.sn := ⟨_, rfl⟩
  obtain ⟨b, hb'⟩ : ∃ b, b = T.wd := ⟨_, rfl⟩
  rw [← hz] at HC1 a1 a2 a3 a4 a5 hs
  rw [← hs'] at HC2 a1 a3 a4
  rw [← hb'] at HC3 a2 a3 a5
  have g1 : (s : Int) ≤ (z : Int) := by omega
  have g2 : (b : Int) ≤ (z : Int) := by omega
  have g3 : ¬ (1048576 < (z : Int)) := by omega
  have hm : s * b ≤ 1048576 * 1048576 := Nat.mul_le_mul (by omega) (by omega)
  have hcast : (s : Int) * (b : Int) = ((s * b : Nat) : Int) := by simp
  obtain ⟨q, hq⟩ : ∃ q, q = s * b := ⟨_, rfl⟩
  rw [← hq] at hm hcast a3
  have g4 : IntKind.i64.wrap ((s : Int) * (b : Int)) = (q : Int) := by rw [hcast, IntKind.wrap_i64]; omega
  have g5 : (z : Int) ≤ (q : Int) := by omega
  have HB1 := Lib.hid hb1
  have hlt : w.heap.size < w1.heap.size := by omega
  have HLT := Lib.hid hlt
  obtain ⟨k, c, x, l, A, m, cap⟩ := h
  dsimp only [Hd.cells] at hw1 HC1 HC2 HC3 HAl ⊢
  clear hT hT1 hb1 ht1 hs1 hA hz hs' hb' hq hm hcast a1 a2 a3 hs hlt
  go_enter Try.func4, Try.ntmps4
  go_wp2_with (first
    | (rw [← hw1]; refine HAl.out.mono ?_; rintro e w2 ⟨rfl, hb2, hT2, hB2⟩)
    | fail)
  have HB2 : Hid (Below w.heap.size w w2) := Lib.hid (HB1.out.trans (hb2.mono (Nat.le_of_lt HLT.out)))
  have hlt2 := hB2.lt
  obtain ⟨D, hD⟩ : ∃ D, D = w2.heap.size := ⟨_, rfl⟩
  have HS : Hid (∀ W, Below D w2 W → Sb w2 D w.heap.size ⟨k, c, x, l, A, m, cap⟩ W) := Lib.hid fun W hW => Sb.mk hB2 hD hW
  have hTW : ∀ W, Below D w2 W → TIn W W.heap.size T ⟨k, c, x, l, A, m, cap⟩ := fun W hW => ((hT2.below (by rw [← hD]; exact hW) (Nat.le_refl _))).more (by rw [← hD]; subst hD; exact hW.size)
  have HW := Lib.hid hTW
  have HDD : Hid (w.heap.size ≤ D) := Lib.hid (by omega)
  have HDS : Hid (∀ W, Below D w2 W → D ≤ W.heap.size) := Lib.hid fun W hW => by subst hD; exact hW.size
  obtain ⟨z0, z00, z1, z2, z3, z4, z5⟩ := HS.out w2 (Below.refl _ _)
  dsimp only at z1 z2 z3 z4 z5
  clear hw1 hb2 hT2 hB2 hlt2 hD hTW
  go_region_held3 (Sb w2 D w.heap.size ⟨k, c, x, l, A, m, cap⟩)
    (first
      | (go_split_ands; refine ⟨?_, ?_, ?_, ?_, ?_, ?_, ?_⟩ <;> assumption)
      | (go_split_ands; exact HS.out _ (by first | assumption | (refine Below.drew ?_; assumption))))
    (first
      | (go_at_call 6; go_split_ands; refine (HC1.out _ (HW.out _ (by assumption))).mono ?_; rintro e w5 ⟨rfl, hb5⟩; obtain ⟨y0, y00, y1, y2, y3, y4, y5⟩ := HS.out w5 (Below.trans (by assumption) (hb5.mono (by assumption))); dsimp only at y1 y2 y3 y4 y5)
      | (go_at_call 8; go_split_ands; refine (HC2.out _ (HW.out _ (by assumption))).mono ?_; rintro e w6 ⟨rfl, hb6⟩; obtain ⟨x0, x00, x1, x2, x3, x4, x5⟩ := HS.out w6 (Below.trans (by assumption) (hb6.mono (by assumption))); dsimp only at x1 x2 x3 x4 x5)
      | (go_at_call 10; go_split_ands; refine (HC3.out _ (HW.out _ (by assumption))).mono ?_; rintro e w7 ⟨rfl, hb7⟩; obtain ⟨u0, u00, u1, u2, u3, u4, u5⟩ := HS.out w7 (Below.trans (by assumption) (hb7.mono (by assumption))); dsimp only at u1 u2 u3 u4 u5)
      | fail)
  all_goals
    have hbf := HB2.out.trans (u0.mono HDD.out)
    by_cases h0 : z = 0
    · obtain rfl := a4.1 h0
      obtain rfl := a5.1 h0
      subst h0
      clear a4 a5
      go_wp2_with fail
      go_ret
      exact ⟨by simp, hbf⟩
    · have h1 : ¬ s = 0 := fun e => h0 (a4.2 e)
      have h2 : ¬ b = 0 := fun e => h0 (a5.2 e)
      have i0 : ((z : Int) == 0) = false := by simp; omega
      have i1 : ((s : Int) == 0) = false := by simp; omega
      have i2 : ((b : Int) == 0) = false := by simp; omega
      have j0 : ¬ ((z : Int) = 0) := by omega
      have j1 : ¬ ((s : Int) = 0) := by omega
      have j2 : ¬ ((b : Int) = 0) := by omega
      clear a4 a5 h0 h1 h2
      go_wp2_with fail
      go_ret
      exact ⟨by simp, hbf⟩
end Go.Proofs.Ytidgibkiacbgfaa
