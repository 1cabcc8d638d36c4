/-
  Contracts of span.sum, span.larger, span.measure, Work, Span and Width.
  Contracts of span.Work, Span and Width.
  The laws' own example, alive5, is alive.
  Matchings that grow by alternating ways: what a search that joins leaves, what one that joins nothing leaves. Plain mathematics.
-/
import Derived.Test.YtidgibkiacbgfaaDoorPk19
import Derived.Test.YtidgibkiacbgfaaDoorPk00
import Derived.Deep.RegionHeld3
import Derived.Lib.Hide
import Derived.Lib.MinMax
import Derived.Test.YtidgibkiacbgfaaDoorPk06
import Derived.Test.YtidgibkiacbgfaaDoorPk18
namespace Go.Proofs.YtidgibkiacbgfaaDoor
open Go.RowKit
set_option maxRecDepth 100000

theorem sum_any (x y : Nat) (w : World) (h : x + y ≤ 1048576) :
    Calls Tryd.prog 24 #[.int .i64 x, .int .i64 y] w fun e w' => e = .returned (.int .i64 (jn true x y : Nat)) ∧ w' = w := by
  have e : IntKind.i64.wrap ((x : Int) + (y : Int)) = ((jn true x y : Nat) : Int) := by
    rw [IntKind.wrap_i64]; simp only [jn]; simp; omega
  go_enter Tryd.func24, Tryd.ntmps24
  go_wp2_with fail
  go_ret
  exact ⟨rfl, rfl⟩

theorem larger_any (x y : Nat) (w : World) (_h : x + y ≤ 1048576) :
    Calls Tryd.prog 28 #[.int .i64 x, .int .i64 y] w fun e w' => e = .returned (.int .i64 (jn false x y : Nat)) ∧ w' = w := by
  have e : max (x : Int) (y : Int) = ((jn false x y : Nat) : Int) := by simp [jn]; omega
  go_enter Tryd.func28, Tryd.ntmps28
  go_wp2_with fail
  go_ret
  refine ⟨?_, rfl⟩
  rw [← e]
  rfl

/-- sum (true) or larger (false), as a value -/
def fv (b : Bool) : Value := .func (.func (if b then 24 else 28)) #[] #[]
theorem join_any (b : Bool) (x y : Nat) (w : World) (h : x + y ≤ 1048576) :
    Calls Tryd.prog (if b then 24 else 28) #[.int .i64 x, .int .i64 y] w fun e w' => e = .returned (.int .i64 (jn b x y : Nat)) ∧ w' = w := by
  cases b
  · exact larger_any x y w h
  · exact sum_any x y w h

/-- what measure answers -/
def MeasS (s p : Bool) (T : Tm) : Prop := ∀ (w : World) (b o : Nat) (h : Hd), HdAt w b o h → b < w.heap.size → TIn w w.heap.size T h → T.sz ≤ 1048576 →
  Calls Tryd.prog 23 #[.pointer (some ⟨b, o, none⟩), fv s, fv p] w fun e w' => e = .returned (.int .i64 (T.ms s p : Nat)) ∧ Below w.heap.size w w'

theorem meas_nil (s p : Bool) : MeasS s p .nil := by
  intro w b o h hh hb hT hs
  obtain ⟨k, c, x, l, A, m, cap⟩ := h
  obtain ⟨h1, h2⟩ := hT
  dsimp only at h1 h2
  obtain ⟨l0, l1, l2, l3, l4⟩ := hh
  dsimp only at l0 l1 l2 l3 l4
  have HB := Below.refl w.heap.size w
  simp only [Tm.ms]
  cases s <;> cases p
  all_goals
  dsimp only [fv]
  simp only [Bool.false_eq_true, if_true, if_false]
  go_enter Tryd.func23, Tryd.ntmps23
  rcases h2 with ⟨h2, h3⟩ | h2
  · go_wp2_with fail
    go_ret
    exact ⟨rfl, HB⟩
  · by_cases k2 : k = 2
    · go_wp2_with fail
      go_ret
      exact ⟨rfl, HB⟩
    · by_cases k3 : k = 3
      · go_wp2_with fail
        go_ret
        exact ⟨rfl, HB⟩
      · go_wp2_with fail
        go_ret
        exact ⟨rfl, HB⟩

theorem meas_one (s p : Bool) (a : Acc) : MeasS s p (.one a) := by
  intro w b o h hh hb hT hs
  obtain ⟨k, c, x, l, A, m, cap⟩ := h
  obtain ⟨h1, h2⟩ := hT
  dsimp only at h1 h2
  subst h1
  obtain ⟨l0, l1, l2, l3, l4⟩ := hh
  dsimp only at l0 l1 l2 l3 l4
  have HB := Below.refl w.heap.size w
  simp only [Tm.ms]
  cases s <;> cases p
  all_goals
  dsimp only [fv]
  simp only [Bool.false_eq_true, if_true, if_false]
  go_enter Tryd.func23, Tryd.ntmps23
  go_wp2_with fail
  go_ret
  exact ⟨rfl, HB⟩

set_option maxHeartbeats 2000000 in
theorem meas_two (s p sq : Bool) (T L R : Tm) (hT2 : (sq = true ∧ T = .seq L R) ∨ (sq = false ∧ T = .par L R)) (hl : MeasS s p L) (hr : MeasS s p R) : MeasS s p T := by
  intro w b o h hh hb hT hs
  have hsz : T.sz = L.sz + R.sz := by rcases hT2 with ⟨_, rfl⟩ | ⟨_, rfl⟩ <;> rfl
  have hms : T.ms s p = jn (if sq then s else p) (L.ms s p) (R.ms s p) := by rcases hT2 with ⟨rfl, rfl⟩ | ⟨rfl, rfl⟩ <;> rfl
  have hTT : h.k = (if sq then 2 else 3) ∧ 2 ≤ h.n ∧ ∃ b o hl hr, h.A = some ⟨b, o, none⟩ ∧ b < w.heap.size ∧ HdAt w b o hl ∧ HdAt w b (o + 5) hr ∧ TIn w w.heap.size L hl ∧ TIn w w.heap.size R hr := by
    rcases hT2 with ⟨rfl, rfl⟩ | ⟨rfl, rfl⟩ <;> exact hT
  obtain ⟨k, c, x, l, A, m, cap⟩ := h
  obtain ⟨h1, h2, kb, ko, hL, hD, h3, h4, h5, h6, h7, h8⟩ := hTT
  dsimp only at h1 h2 h3
  subst h3
  obtain ⟨l0, _, _, _, l4⟩ := hh
  dsimp only at l0 l4
  obtain ⟨D, hD0⟩ : ∃ D, D = w.heap.size := ⟨_, rfl⟩
  have cl : ∀ W, Below D w W → Calls Tryd.prog 23 #[.pointer (some ⟨kb, ko, none⟩), fv s, fv p] W fun e w' => e = .returned (.int .i64 (L.ms s p : Nat)) ∧ Below D w w' ∧ w'.cell? ⟨b, o + 4, none⟩ = some (.slice (some ⟨kb, ko, none⟩) m cap) := fun W hW => by
    subst hD0
    have hDW := hW.size
    refine (hl W kb ko hL (h5.below hW h4) (by omega) ((h7.below hW (Nat.le_refl _)).more hDW) (by omega)).mono fun e w' ⟨e1, e2⟩ => ⟨e1, hW.trans (e2.mono hDW), ?_⟩
    exact ((hW.trans (e2.mono hDW)).cell (p := ⟨b, o + 4, none⟩) hb).trans l4
  have cr : ∀ W, Below D w W → Calls Tryd.prog 23 #[.pointer (some ⟨kb, ko + 5, none⟩), fv s, fv p] W fun e w' => e = .returned (.int .i64 (R.ms s p : Nat)) ∧ Below D w w' ∧ w'.cell? ⟨b, o + 4, none⟩ = some (.slice (some ⟨kb, ko, none⟩) m cap) := fun W hW => by
    subst hD0
    have hDW := hW.size
    refine (hr W kb (ko + 5) hD (h6.below hW h4) (by omega) ((h8.below hW (Nat.le_refl _)).more hDW) (by omega)).mono fun e w' ⟨e1, e2⟩ => ⟨e1, hW.trans (e2.mono hDW), ?_⟩
    exact ((hW.trans (e2.mono hDW)).cell (p := ⟨b, o + 4, none⟩) hb).trans l4
  have hj : ∀ W, Below D w W → W.cell? ⟨b, o + 4, none⟩ = some (.slice (some ⟨kb, ko, none⟩) m cap) → Calls Tryd.prog (if (if sq then s else p) then 24 else 28) #[.int .i64 (L.ms s p : Nat), .int .i64 (R.ms s p : Nat)] W fun e w' => e = .returned (.int .i64 (T.ms s p : Nat)) ∧ Below D w w' ∧ w'.cell? ⟨b, o + 4, none⟩ = some (.slice (some ⟨kb, ko, none⟩) m cap) := fun W hW hc => by
    rw [hms]
    exact (join_any _ _ _ W (by have := L.ms_le s p; have := R.ms_le s p; omega)).mono fun e w' ⟨e1, e2⟩ => ⟨e1, by rw [e2]; exact hW, by rw [e2]; exact hc⟩
  have HL := Lib.hid cl
  have HR := Lib.hid cr
  have HJ := Lib.hid hj
  have HB := Below.refl D w
  obtain ⟨xl, hxl⟩ : ∃ xl, xl = L.ms s p := ⟨_, rfl⟩
  obtain ⟨xr, hxr⟩ : ∃ xr, xr = R.ms s p := ⟨_, rfl⟩
  obtain ⟨xt, hxt⟩ : ∃ xt, xt = T.ms s p := ⟨_, rfl⟩
  rw [← hxl, ← hxr, ← hxt] at HJ
  rw [← hxl] at HL
  rw [← hxr] at HR
  rw [← hxt, ← hD0]
  have n0 : (0 : Int) < (m : Int) := by omega
  have m0 : 0 < m := by omega
  have m1 : 1 < m := by omega
  have n1 : (1 : Int) < (m : Int) := by omega
  have n2 : ¬ ((m : Int) < 2) := by omega
  clear cl cr hj hl hr hsz hms hT hT2 hs hD0 h4 h5 h6 h7 h8 hxl hxr hxt hb
  cases s <;> cases p <;> cases sq
  all_goals
    dsimp only [fv, if_true, if_false] at HL HR HJ h1 ⊢
    simp only [Bool.false_eq_true, if_true, if_false] at HL HR HJ h1 ⊢
    subst h1
    go_enter Tryd.func23, Tryd.ntmps23
    go_wp2_with fail
    go_region_held3 (fun w' => Below D w w' ∧ w'.cell? ⟨b, o + 4, none⟩ = some (.slice (some ⟨kb, ko, none⟩) m cap))
      (first | (go_split_ands; exact ⟨‹_›, ‹_›⟩) | (go_split_ands; refine ⟨?_, ‹_›⟩; refine Below.drew ?_; assumption))
      (first
        | (go_at_call_of 23 (Value.pointer (some ⟨kb, ko, none⟩)); go_split_ands; refine (HL.out _ (by assumption)).mono ?_; rintro e w5 ⟨rfl, hB5, hc5⟩)
        | (go_at_call 23; (try go_split_ands); refine (HR.out _ (by assumption)).mono ?_; rintro e w6 ⟨rfl, hB6, hc6⟩)
        | ((try go_split_ands); refine (HJ.out _ (by assumption) (by assumption)).mono ?_; rintro e w7 ⟨rfl, hB7, hc7⟩)
        | fail)
  all_goals
    go_wp2_with fail
    go_ret
    exact ⟨rfl, ‹_›⟩

theorem meas_any (s p : Bool) (T : Tm) : MeasS s p T := by
  induction T with
  | nil => exact meas_nil s p
  | one a => exact meas_one s p a
  | seq l r il ir => exact meas_two s p true _ l r (.inl ⟨rfl, rfl⟩) il ir
  | par l r il ir => exact meas_two s p false _ l r (.inr ⟨rfl, rfl⟩) il ir
end Go.Proofs.YtidgibkiacbgfaaDoor

namespace Go.Proofs.YtidgibkiacbgfaaDoor
open Go.RowKit
set_option maxRecDepth 100000

theorem work_any (T : Tm) (h : Hd) (w : World) (hT : TIn w w.heap.size T h) (hs : T.sz ≤ 1048576) :
    Calls Tryd.prog 10 #[.agg h.cells] w fun e w' => e = .returned (.int .i64 (T.sz : Nat)) ∧ Below w.heap.size w w' := by
  have key : ∃ w1, w1 = w.alloc (.cells h.cells 26) ∧ Below w.heap.size w w1 ∧ TB 26 w1 w.heap.size h := ⟨_, rfl, (Below.refl _ _).alloc (Nat.le_refl _) _, TB.new _ _ _⟩
  obtain ⟨w1, hw1, hb1, ht1⟩ := key
  have hT1 := (hT.below hb1 (Nat.le_refl _)).more hb1.size
  have hc := meas_any true true T w1 w.heap.size 0 h ht1.at ht1.lt hT1 hs
  rw [T.ms_work] at hc
  have hsz := hb1.size
  obtain ⟨k, c, x, l, A, m, cap⟩ := h
  dsimp only [Hd.cells, fv, if_true] at hw1 hc ⊢
  simp only [if_true] at hc
  have HC := Lib.hid hc
  clear hT hT1 ht1 hc hs
  go_enter Tryd.func10, Tryd.ntmps10
  go_wp2_with (first
    | (rw [← hw1]; refine HC.out.mono ?_; rintro e w2 ⟨rfl, hb2⟩)
    | fail)
  go_ret
  exact ⟨rfl, hb1.trans (hb2.mono hsz)⟩

theorem span_any (T : Tm) (h : Hd) (w : World) (hT : TIn w w.heap.size T h) (hs : T.sz ≤ 1048576) :
    Calls Tryd.prog 13 #[.agg h.cells] w fun e w' => e = .returned (.int .i64 (T.sn : Nat)) ∧ Below w.heap.size w w' := by
  have key : ∃ w1, w1 = w.alloc (.cells h.cells 26) ∧ Below w.heap.size w w1 ∧ TB 26 w1 w.heap.size h := ⟨_, rfl, (Below.refl _ _).alloc (Nat.le_refl _) _, TB.new _ _ _⟩
  obtain ⟨w1, hw1, hb1, ht1⟩ := key
  have hT1 := (hT.below hb1 (Nat.le_refl _)).more hb1.size
  have hc := meas_any true false T w1 w.heap.size 0 h ht1.at ht1.lt hT1 hs
  have hsz := hb1.size
  obtain ⟨k, c, x, l, A, m, cap⟩ := h
  dsimp only [Hd.cells, fv, if_true] at hw1 hc ⊢
  simp only [if_true, Bool.false_eq_true, if_false] at hc
  have HC := Lib.hid hc
  clear hT hT1 ht1 hc hs
  go_enter Tryd.func13, Tryd.ntmps13
  go_wp2_with (first
    | (rw [← hw1]; refine HC.out.mono ?_; rintro e w2 ⟨rfl, hb2⟩)
    | fail)
  go_ret
  exact ⟨rfl, hb1.trans (hb2.mono hsz)⟩

theorem width_any (T : Tm) (h : Hd) (w : World) (hT : TIn w w.heap.size T h) (hs : T.sz ≤ 1048576) :
    Calls Tryd.prog 14 #[.agg h.cells] w fun e w' => e = .returned (.int .i64 (T.wd : Nat)) ∧ Below w.heap.size w w' := by
  have key : ∃ w1, w1 = w.alloc (.cells h.cells 26) ∧ Below w.heap.size w w1 ∧ TB 26 w1 w.heap.size h := ⟨_, rfl, (Below.refl _ _).alloc (Nat.le_refl _) _, TB.new _ _ _⟩
  obtain ⟨w1, hw1, hb1, ht1⟩ := key
  have hT1 := (hT.below hb1 (Nat.le_refl _)).more hb1.size
  have hc := meas_any false true T w1 w.heap.size 0 h ht1.at ht1.lt hT1 hs
  have hsz := hb1.size
  obtain ⟨k, c, x, l, A, m, cap⟩ := h
  dsimp only [Hd.cells, fv, if_true] at hw1 hc ⊢
  simp only [if_true, Bool.false_eq_true, if_false] at hc
  have HC := Lib.hid hc
  clear hT hT1 ht1 hc hs
  go_enter Tryd.func14, Tryd.ntmps14
  go_wp2_with (first
    | (rw [← hw1]; refine HC.out.mono ?_; rintro e w2 ⟨rfl, hb2⟩)
    | fail)
  go_ret
  exact ⟨rfl, hb1.trans (hb2.mono hsz)⟩
end Go.Proofs.YtidgibkiacbgfaaDoor

namespace Go.Proofs.YtidgibkiacbgfaaDoor
open Go.RowKit
set_option maxRecDepth 100000

theorem T4_sn : T4.sn = 2 := by decide
theorem T4_wd : T4.wd = 2 := by decide

set_option maxHeartbeats 4000000 in
theorem alive5_any (w : World) :
    Calls Tryd.prog 9 #[] w fun e w' => e = .returned (.bool true) ∧ Below w.heap.size w w' := by
  have HL := Lib.hid (fun n w => leafK_any n w)
  go_enter Tryd.func9, Tryd.ntmps9
  go_wp2_with (first
    | (go_at_call_of 15 (Value.int IntKind.i64 1); refine (HL.out _ _).mono ?_; rintro e w1 ⟨rfl, hb1⟩)
    | (go_at_call_of 15 (Value.int IntKind.i64 2); refine (HL.out _ _).mono ?_; rintro e w2 ⟨rfl, hb2⟩)
    | (go_at_call_of 15 (Value.int IntKind.i64 3); refine (HL.out _ _).mono ?_; rintro e w3 ⟨rfl, hb3⟩)
    | fail)
  obtain ⟨W, hW, hTi, hTb, hbW⟩ := T4_in w2 w3 hb3
  dsimp only [two5, hPar, hTop, h1', h2', h3', Hd.cells] at hW
  rw [← hW]
  have hb : Below w.heap.size w W := hb1.trans ((hb2.trans (hbW.mono hb2.size)).mono hb1.size)
  clear hb3 hW hbW hb1 hb2 HL
  have hs := T4_sz
  have t0 := hTb.c0
  have t1 := hTb.c1
  have t2 := hTb.c2
  have t3 := hTb.c3
  have t4 := hTb.c4
  refine (work_any T4 _ _ hTi (by rw [hs]; omega)).mono ?_
  rintro e w4 ⟨rfl, hb4⟩
  rw [hs]
  replace hTi := (hTi.below hb4 (Nat.le_refl _)).more hb4.size
  replace hTb : TB 26 _ _ _ := (hb4.block _ hTb.lt).trans hTb
  replace hb := hb.trans (hb4.mono hb.size)
  clear t0 t1 t2 t3 t4 hb4
  have t0 := hTb.c0
  have t1 := hTb.c1
  have t2 := hTb.c2
  have t3 := hTb.c3
  have t4 := hTb.c4
  dsimp only [hTop] at t0 t1 t2 t3 t4
  go_wp2_with fail
  refine (span_any T4 _ _ hTi (by rw [hs]; omega)).mono ?_
  rintro e w5 ⟨rfl, hb5⟩
  rw [T4_sn]
  replace hTi := (hTi.below hb5 (Nat.le_refl _)).more hb5.size
  replace hTb : TB 26 _ _ _ := (hb5.block _ hTb.lt).trans hTb
  replace hb := hb.trans (hb5.mono hb.size)
  clear t0 t1 t2 t3 t4 hb5
  have t0 := hTb.c0
  have t1 := hTb.c1
  have t2 := hTb.c2
  have t3 := hTb.c3
  have t4 := hTb.c4
  dsimp only [hTop] at t0 t1 t2 t3 t4
  go_wp2_with fail
  refine (width_any T4 _ _ hTi (by rw [hs]; omega)).mono ?_
  rintro e w6 ⟨rfl, hb6⟩
  rw [T4_wd]
  replace hb := hb.trans (hb6.mono hb.size)
  go_wp2_with fail
  go_ret
  exact ⟨rfl, hb⟩
end Go.Proofs.YtidgibkiacbgfaaDoor

namespace Go.Proofs.YtidgibkiacbgfaaDoor

/-- before and behind fit together, along f -/
structure Mt (f : Nat → Nat → Bool) (m : Nat) (B H : Nat → Option Nat) : Prop where
  b : ∀ k a, B k = some a → a < m ∧ k < m ∧ f a k = true ∧ H a = some k
  h : ∀ a k, H a = some k → B k = some a
/-- the search from n joined: all fits but what stood behind n -/
structure Suc (f : Nat → Nat → Bool) (m : Nat) (B H : Nat → Option Nat) (T : Nat → Bool) (n : Nat) (B' H' : Nat → Option Nat) : Prop where
  s1 : ∃ x, H' n = some x ∧ T x = false
  b : ∀ k a, B' k = some a → a < m ∧ k < m ∧ f a k = true ∧ (H' a = some k ∨ (a = n ∧ H n = some k))
  h : ∀ a k, H' a = some k → B' k = some a
  dom : ∀ a, (H' a).isSome = ((H a).isSome || decide (a = n))
  keep : ∀ a k, H a = some k → T k = true → a ≠ n → H' a = some k
  old : ∀ k, H n = some k → B' k = some n
/-- the search from n joined nothing -/
structure Fal (f : Nat → Nat → Bool) (B : Nat → Option Nat) (T : Nat → Bool) (n : Nat) (T' : Nat → Bool) : Prop where
  up : ∀ k, T k = true → T' k = true
  all : ∀ k, f n k = true → T' k = true
  new : ∀ k, T' k = true → T k = true ∨ ∃ a, B k = some a ∧ ∀ j, f a j = true → T' j = true

def setO (g : Nat → Option Nat) (k v : Nat) : Nat → Option Nat := fun i => if i = k then some v else g i
def setT (T : Nat → Bool) (k : Nat) : Nat → Bool := fun i => if i = k then true else T i
theorem setO_same (g : Nat → Option Nat) (k v : Nat) : setO g k v k = some v := if_pos rfl
theorem setO_other {g : Nat → Option Nat} {k v i : Nat} (h : i ≠ k) : setO g k v i = g i := if_neg h
theorem setT_same (T : Nat → Bool) (k : Nat) : setT T k k = true := if_pos rfl
theorem setT_up {T : Nat → Bool} {k i : Nat} (h : T i = true) : setT T k i = true := by unfold setT; split; rfl; exact h
theorem setT_or {T : Nat → Bool} {k i : Nat} (h : setT T k i = true) : i = k ∨ T i = true := by
  unfold setT at h
  split at h
  · exact .inl (by assumption)
  · exact .inr h

variable {f : Nat → Nat → Bool} {m : Nat} {B H : Nat → Option Nat} {T : Nat → Bool}

theorem Suc.direct {n x : Nat} (hM : Mt f m B H) (hn : n < m) (hx : x < m) (hF : f n x = true) (hTx : T x = false) (hB : B x = none) (hP : ∀ k, H n = some k → T k = true) : Suc f m B H T n (setO B x n) (setO H n x) := by
  refine ⟨⟨x, setO_same _ _ _, hTx⟩, fun k a hk => ?_, fun a k ha => ?_, fun a => ?_, fun a k ha _ hne => ?_, fun k hk => ?_⟩
  · by_cases e : k = x
    · subst e
      rw [setO_same] at hk
      injection hk with hk
      subst hk
      exact ⟨hn, hx, hF, .inl (setO_same _ _ _)⟩
    · rw [setO_other e] at hk
      obtain ⟨h1, h2, h3, h4⟩ := hM.b k a hk
      refine ⟨h1, h2, h3, ?_⟩
      by_cases ea : a = n
      · exact .inr ⟨ea, by rw [← ea]; exact h4⟩
      · exact .inl (by rw [setO_other ea]; exact h4)
  · by_cases ea : a = n
    · subst ea
      rw [setO_same] at ha
      injection ha with ha
      subst ha
      exact setO_same _ _ _
    · rw [setO_other ea] at ha
      have h1 := hM.h a k ha
      have hne : k ≠ x := fun e => by rw [e, hB] at h1; cases h1
      rw [setO_other hne]
      exact h1
  · by_cases ea : a = n
    · subst ea; rw [setO_same]; simp
    · rw [setO_other ea]; simp [ea]
  · rw [setO_other hne]; exact ha
  · have hne : k ≠ x := fun e => by have := hP k hk; rw [e, hTx] at this; cases this
    rw [setO_other hne]
    exact hM.h n k hk

theorem Suc.deep {n x a0 : Nat} {T1 : Nat → Bool} {B1 H1 : Nat → Option Nat} (hM : Mt f m B H) (hn : n < m) (hx : x < m) (hF : f n x = true) (hTx : T x = false) (hT1 : ∀ k, T k = true → T1 k = true) (hT1x : T1 x = true) (hB : B x = some a0) (hP : ∀ k, H n = some k → T k = true)
    (hi : Suc f m B H T1 a0 B1 H1) : Suc f m B H T n (setO B1 x n) (setO H1 n x) := by
  obtain ⟨_, _, _, hHa⟩ := hM.b x a0 hB
  have hne0 : n ≠ a0 := fun e => by
    subst e
    have := hP x hHa
    rw [hTx] at this
    cases this
  refine ⟨⟨x, setO_same _ _ _, hTx⟩, fun k a hk => ?_, fun a k ha => ?_, fun a => ?_, fun a k ha hTk hne => ?_, fun k hk => ?_⟩
  · by_cases e : k = x
    · subst e
      rw [setO_same] at hk
      injection hk with hk
      subst hk
      exact ⟨hn, hx, hF, .inl (setO_same _ _ _)⟩
    · rw [setO_other e] at hk
      obtain ⟨h1, h2, h3, h4⟩ := hi.b k a hk
      refine ⟨h1, h2, h3, ?_⟩
      have h5 : H1 a = some k := by
        rcases h4 with h4 | ⟨h4, h6⟩
        · exact h4
        · rw [hHa] at h6
          injection h6 with h6
          exact absurd h6.symm e
      by_cases ea : a = n
      · subst ea
        refine .inr ⟨rfl, ?_⟩
        have hd := hi.dom a
        rw [h5] at hd
        have : decide (a = a0) = false := by simpa using hne0
        rw [this, Bool.or_false] at hd
        obtain ⟨k1, hk1⟩ := Option.isSome_iff_exists.1 hd.symm
        have h7 := hi.keep a k1 hk1 (hT1 _ (hP k1 hk1)) hne0
        rw [h5] at h7
        injection h7 with h7
        rw [h7]
        exact hk1
      · exact .inl (by rw [setO_other ea]; exact h5)
  · by_cases ea : a = n
    · subst ea
      rw [setO_same] at ha
      injection ha with ha
      subst ha
      exact setO_same _ _ _
    · rw [setO_other ea] at ha
      have h1 := hi.h a k ha
      have hne : k ≠ x := fun e => by
        subst e
        have h2 := hi.old k hHa
        rw [h1] at h2
        injection h2 with h2
        subst h2
        obtain ⟨x1, h3, h4⟩ := hi.s1
        rw [ha] at h3
        injection h3 with h3
        subst h3
        rw [hT1x] at h4
        cases h4
      rw [setO_other hne]
      exact h1
  · by_cases ea : a = n
    · subst ea; rw [setO_same]; simp
    · rw [setO_other ea, hi.dom a]
      by_cases e0 : a = a0
      · subst e0; simp [hHa]
      · simp [ea, e0]
  · have e0 : a ≠ a0 := fun e => by
      subst e
      rw [hHa] at ha
      injection ha with ha
      subst ha
      rw [hTx] at hTk
      cases hTk
    rw [setO_other hne]
    exact hi.keep a k ha (hT1 _ hTk) e0
  · have hTk := hP k hk
    have hne : k ≠ x := fun e => by rw [e, hTx] at hTk; cases hTk
    rw [setO_other hne]
    exact hi.h n k (hi.keep n k hk (hT1 _ hTk) hne0)
theorem Suc.mt {n : Nat} {B' H' : Nat → Option Nat} (h : Suc f m B H T n B' H') (hn : H n = none) : Mt f m B' H' := by
  refine ⟨fun k a hk => ?_, h.h⟩
  obtain ⟨h1, h2, h3, h4⟩ := h.b k a hk
  refine ⟨h1, h2, h3, ?_⟩
  rcases h4 with h4 | ⟨_, h4⟩
  · exact h4
  · rw [hn] at h4; cases h4

/-- so far nothing was joined: the first j that follow are tried -/
structure Par (B : Nat → Option Nat) (f : Nat → Nat → Bool) (T : Nat → Bool) (L : List Int) (j : Nat) (T' : Nat → Bool) : Prop where
  up : ∀ k, T k = true → T' k = true
  fst : ∀ i, i < j → ∀ k : Nat, zd L i = (k : Int) → T' k = true
  new : ∀ k, T' k = true → T k = true ∨ ∃ a, B k = some a ∧ ∀ i, f a i = true → T' i = true
theorem Par.start (L : List Int) : Par B f T L 0 T := ⟨fun _ h => h, fun _ h => by omega, fun _ h => .inl h⟩
theorem Par.skip {L : List Int} {j x : Nat} {T' : Nat → Bool} (h : Par B f T L j T') (hx : zd L j = (x : Int)) (ht : T' x = true) : Par B f T L (j + 1) T' := by
  refine ⟨h.up, fun i hi k hk => ?_, h.new⟩
  by_cases e : i = j
  · subst e
    rw [hx] at hk
    obtain rfl : x = k := by omega
    exact ht
  · exact h.fst i (by omega) k hk
theorem Par.fail {L : List Int} {j x a0 : Nat} {T' T2 : Nat → Bool} (h : Par B f T L j T') (hx : zd L j = (x : Int)) (hB : B x = some a0) (hi : Fal f B (setT T' x) a0 T2) : Par B f T L (j + 1) T2 := by
  have h0 : ∀ k, T' k = true → T2 k = true := fun k hk => hi.up k (setT_up hk)
  refine ⟨fun k hk => h0 k (h.up k hk), fun i hi2 k hk => ?_, fun k hk => ?_⟩
  · by_cases e : i = j
    · subst e
      rw [hx] at hk
      obtain rfl : x = k := by omega
      exact hi.up _ (setT_same _ _)
    · exact h0 k (h.fst i (by omega) k hk)
  · rcases hi.new k hk with h1 | h1
    · rcases setT_or h1 with rfl | h2
      · exact .inr ⟨a0, hB, hi.all⟩
      · rcases h.new k h2 with h3 | ⟨a, h3, h4⟩
        · exact .inl h3
        · exact .inr ⟨a, h3, fun i hi' => h0 i (h4 i hi')⟩
    · exact .inr h1
theorem Par.done {L : List Int} {n : Nat} {T' : Nat → Bool} (h : Par B f T L L.length T') (hL : ∀ k : Nat, f n k = true → ((k : Nat) : Int) ∈ L) : Fal f B T n T' := by
  refine ⟨h.up, fun k hk => ?_, h.new⟩
  obtain ⟨i, hi, e⟩ := List.getElem_of_mem (hL k hk)
  exact h.fst i hi k (by unfold zd; simp [List.getD, hi, e])
/-- how many are not tried -/
def untr (m : Nat) (T : Nat → Bool) : Nat := sumN m fun k => if T k = true then 0 else 1
theorem untr_set {m x : Nat} {T : Nat → Bool} (hx : x < m) (ht : T x = false) : untr m T = untr m (setT T x) + 1 := by
  unfold untr
  refine sumN_single hx (fun n _ hne => ?_) ?_
  · unfold setT; rw [if_neg hne]
  · rw [setT_same, ht]; simp
theorem sumN_le {N : Nat} {g h : Nat → Nat} (hgh : ∀ n, n < N → g n ≤ h n) : sumN N g ≤ sumN N h := by
  induction N with
  | zero => exact Nat.le_refl _
  | succ N ih =>
    show sumN N g + g N ≤ sumN N h + h N
    have := ih fun n hn => hgh n (by omega)
    have := hgh N (by omega)
    omega
theorem untr_up {m : Nat} {T T' : Nat → Bool} (h : ∀ k, T k = true → T' k = true) : untr m T' ≤ untr m T := by
  unfold untr
  refine sumN_le fun n _ => ?_
  by_cases ht : T n = true
  · rw [if_pos ht, if_pos (h n ht)]; exact Nat.le_refl _
  · rw [if_neg ht]; split <;> omega
end Go.Proofs.YtidgibkiacbgfaaDoor
