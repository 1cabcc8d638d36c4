/-
  Contracts of span.Work, Span and Width.
-/
import Derived.Test.YtidgibkiacbgfaaSnMe
namespace Go.Proofs.Ytidgibkiacbgfaa
open Go.RowKit
set_option maxRecDepth 100000

theorem work_any (T : Tm) (h : Hd) (w : World) (hT : TIn w w.heap.size T h) (hs : T.sz ≤ 1048576) :
    Calls Try.prog 6 #[.agg h.cells] w fun e w' => e = .returned (.int .i64 (T.sz : Nat)) ∧ Below w.heap.size w w' := by
  have key : ∃ w1, w1 = w.alloc (.cells h.cells 26) ∧ Below w.heap.size w w1 ∧ TB 26 w1 w.heap.size h := ⟨_, rfl, (Below.refl _ _).alloc (Nat.le_refl _) _, TB.new _ _ _⟩
  obtain ⟨w1, hw1, hb1, ht1⟩ := key
  have hT1 := (hT.below hb1 (Nat.le_refl _)).more hb1.size
  have hc := meas_any true true T w1 w.heap.size 0 h ht1.at ht1.lt hT1 hs
  rw [T.ms_work] at hc
  have hsz := hb1.size
  obtain ⟨k, c, x, l, A, m, cap⟩ := h
  dsimp only [Hd.cells, fv, if_true] at hw1 hc ⊢
  simp only [if_true] at hc
  have HC := Lib.hid hc
  clear hT hT1 ht1 hc hs
  go_enter Try.func6, Try.ntmps6
  go_wp2_with (first
    | (rw [← hw1]; refine HC.out.mono ?_; rintro e w2 ⟨rfl, hb2⟩)
    | fail)
  go_ret
  exact ⟨rfl, hb1.trans (hb2.mono hsz)⟩

theorem span_any (T : Tm) (h : Hd) (w : World) (hT : TIn w w.heap.size T h) (hs : T.sz ≤ 1048576) :
    Calls Try.prog 8 #[.agg h.cells] w fun e w' => e = .returned (.int .i64 (T.sn : Nat)) ∧ Below w.heap.size w w' := by
  have key : ∃ w1, w1 = w.alloc (.cells h.cells 26) ∧ Below w.heap.size w w1 ∧ TB 26 w1 w.heap.size h := ⟨_, rfl, (Below.refl _ _).alloc (Nat.le_refl _) _, TB.new _ _ _⟩
  obtain ⟨w1, hw1, hb1, ht1⟩ := key
  have hT1 := (hT.below hb1 (Nat.le_refl _)).more hb1.size
  have hc := meas_any true false T w1 w.heap.size 0 h ht1.at ht1.lt hT1 hs
  have hsz := hb1.size
  obtain ⟨k, c, x, l, A, m, cap⟩ := h
  dsimp only [Hd.cells, fv, if_true] at hw1 hc ⊢
  simp only [if_true, Bool.false_eq_true, if_false] at hc
  have HC := Lib.hid hc
  clear hT hT1 ht1 hc hs
  go_enter Try.func8, Try.ntmps8
  go_wp2_with (first
    | (rw [← hw1]; refine HC.out.mono ?_; rintro e w2 ⟨rfl, hb2⟩)
    | fail)
  go_ret
  exact ⟨rfl, hb1.trans (hb2.mono hsz)⟩

theorem width_any (T : Tm) (h : Hd) (w : World) (hT : TIn w w.heap.size T h) (hs : T.sz ≤ 1048576) :
    Calls Try.prog 10 #[.agg h.cells] w fun e w' => e = .returned (.int .i64 (T.wd : Nat)) ∧ Below w.heap.size w w' := by
  have key : ∃ w1, w1 = w.alloc (.cells h.cells 26) ∧ Below w.heap.size w w1 ∧ TB 26 w1 w.heap.size h := ⟨_, rfl, (Below.refl _ _).alloc (Nat.le_refl _) _, TB.new _ _ _⟩
  obtain ⟨w1, hw1, hb1, ht1⟩ := key
  have hT1 := (hT.below hb1 (Nat.le_refl _)).more hb1.size
  have hc := meas_any false true T w1 w.heap.size 0 h ht1.at ht1.lt hT1 hs
  have hsz := hb1.size
  obtain ⟨k, c, x, l, A, m, cap⟩ := h
  dsimp only [Hd.cells, fv, if_true] at hw1 hc ⊢
  simp only [if_true, Bool.false_eq_true, if_false] at hc
  have HC := Lib.hid hc
  clear hT hT1 ht1 hc hs
  go_enter Try.func10, Try.ntmps10
  go_wp2_with (first
    | (rw [← hw1]; refine HC.out.mono ?_; rintro e w2 ⟨rfl, hb2⟩)
    | fail)
  go_ret
  exact ⟨rfl, hb1.trans (hb2.mono hsz)⟩
end Go.Proofs.Ytidgibkiacbgfaa
