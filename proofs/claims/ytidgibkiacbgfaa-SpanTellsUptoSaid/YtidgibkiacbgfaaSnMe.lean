/-
  Contracts of span.sum, span.larger, span.measure, Work, Span and Width.
-/
import Derived.Test.YtidgibkiacbgfaaSnM
import Derived.Test.YtidgibkiacbgfaaSpB
import Derived.Deep.RegionHeld3
import Derived.Lib.Hide
import Derived.Lib.MinMax
namespace Go.Proofs.Ytidgibkiacbgfaa
open Go.RowKit
set_option maxRecDepth 100000

theorem sum_any (x y : Nat) (w : World) (h : x + y ≤ 1048576) :
    Calls Try.prog 14 #[.int .i64 x, .int .i64 y] w fun e w' => e = .returned (.int .i64 (jn true x y : Nat)) ∧ w' = w := by
  have e : IntKind.i64.wrap ((x : Int) + (y : Int)) = ((jn true x y : Nat) : Int) := by
    rw [IntKind.wrap_i64]; simp only [jn]; simp; omega
  go_enter Try.func14, Try.ntmps14
  go_wp2_with fail
  go_ret
  exact ⟨rfl, rfl⟩

theorem larger_any (x y : Nat) (w : World) (_h : x + y ≤ 1048576) :
    Calls Try.prog 16 #[.int .i64 x, .int .i64 y] w fun e w' => e = .returned (.int .i64 (jn false x y : Nat)) ∧ w' = w := by
  have e : max (x : Int) (y : Int) = ((jn false x y : Nat) : Int) := by simp [jn]; omega
  go_enter Try.func16, Try.ntmps16
  go_wp2_with fail
  go_ret
  refine ⟨?_, rfl⟩
  rw [← e]
  rfl

/-- sum (true) or larger (false), as a value -/
def fv (b : Bool) : Value := .func (.func (if b then 14 else 16)) #[] #[]
theorem join_any (b : Bool) (x y : Nat) (w : World) (h : x + y ≤ 1048576) :
    Calls Try.prog (if b then 14 else 16) #[.int .i64 x, .int .i64 y] w fun e w' => e = .returned (.int .i64 (jn b x y : Nat)) ∧ w' = w := by
  cases b
  · exact larger_any x y w h
  · exact sum_any x y w h

/-- what measure answers -/
def MeasS (s p : Bool) (T : Tm) : Prop := ∀ (w : World) (b o : Nat) (h : Hd), HdAt w b o h → b < w.heap.size → TIn w w.heap.size T h → T.sz ≤ 1048576 →
  Calls Try.prog 13 #[.pointer (some ⟨b, o, none⟩), fv s, fv p] w fun e w' => e = .returned (.int .i64 (T.ms s p : Nat)) ∧ Below w.heap.size w w'

theorem meas_nil (s p : Bool) : MeasS s p .nil := by
  intro w b o h hh hb hT hs
  obtain ⟨k, c, x, l, A, m, cap⟩ := h
  obtain ⟨h1, h2⟩ := hT
  dsimp only at h1 h2
  obtain ⟨l0, l1, l2, l3, l4⟩ := hh
  dsimp only at l0 l1 l2 l3 l4
  have HB := Below.refl w.heap.size w
  simp only [Tm.ms]
  cases s <;> cases p
  all_goals
  dsimp only [fv]
  simp only [Bool.false_eq_true, if_true, if_false]
  go_enter Try.func13, Try.ntmps13
  rcases h2 with ⟨h2, h3⟩ | h2
  · go_wp2_with fail
    go_ret
    exact ⟨rfl, HB⟩
  · by_cases k2 : k = 2
    · go_wp2_with fail
      go_ret
      exact ⟨rfl, HB⟩
    · by_cases k3 : k = 3
      · go_wp2_with fail
        go_ret
        exact ⟨rfl, HB⟩
      · go_wp2_with fail
        go_ret
        exact ⟨rfl, HB⟩

theorem meas_one (s p : Bool) (a : Acc) : MeasS s p (.one a) := by
  intro w b o h hh hb hT hs
  obtain ⟨k, c, x, l, A, m, cap⟩ := h
  obtain ⟨h1, h2⟩ := hT
  dsimp only at h1 h2
  subst h1
  obtain ⟨l0, l1, l2, l3, l4⟩ := hh
  dsimp only at l0 l1 l2 l3 l4
  have HB := Below.refl w.heap.size w
  simp only [Tm.ms]
  cases s <;> cases p
  all_goals
  dsimp only [fv]
  simp only [Bool.false_eq_true, if_true, if_false]
  go_enter Try.func13, Try.ntmps13
  go_wp2_with fail
  go_ret
  exact ⟨rfl, HB⟩

set_option maxHeartbeats 2000000 in
theorem meas_two (s p sq : Bool) (T L R : Tm) (hT2 : (sq = true ∧ T = .seq L R) ∨ (sq = false ∧ T = .par L R)) (hl : MeasS s p L) (hr : MeasS s p R) : MeasS s p T := by
  intro w b o h hh hb hT hs
  have hsz : T.sz = L.sz + R.sz := by rcases hT2 with ⟨_, rfl⟩ | ⟨_, rfl⟩ <;> rfl
  have hms : T.ms s p = jn (if sq then s else p) (L.ms s p) (R.ms s p) := by rcases hT2 with ⟨rfl, rfl⟩ | ⟨rfl, rfl⟩ <;> rfl
  have hTT : h.k = (if sq then 2 else 3) ∧ 2 ≤ h.n ∧ ∃ b o hl hr, h.A = some ⟨b, o, none⟩ ∧ b < w.heap.size ∧ HdAt w b o hl ∧ HdAt w b (o + 5) hr ∧ TIn w w.heap.size L hl ∧ TIn w w.heap.size R hr := by
    rcases hT2 with ⟨rfl, rfl⟩ | ⟨rfl, rfl⟩ <;> exact hT
  obtain ⟨k, c, x, l, A, m, cap⟩ := h
  obtain ⟨h1, h2, kb, ko, hL, hD, h3, h4, h5, h6, h7, h8⟩ := hTT
  dsimp only at h1 h2 h3
  subst h3
  obtain ⟨l0, _, _, _, l4⟩ := hh
  dsimp only at l0 l4
  obtain ⟨D, hD0⟩ : ∃ D, D = w.heap.size := ⟨_, rfl⟩
  have cl : ∀ W, Below D w W → Calls Try.prog 13 #[.pointer (some ⟨kb, ko, none⟩), fv s, fv p] W fun e w' => e = .returned (.int .i64 (L.ms s p : Nat)) ∧ Below D w w' ∧ w'.cell? ⟨b, o + 4, none⟩ = some (.slice (some ⟨kb, ko, none⟩) m cap) := fun W hW => by
    subst hD0
    have hDW := hW.size
    refine (hl W kb ko hL (h5.below hW h4) (by omega) ((h7.below hW (Nat.le_refl _)).more hDW) (by omega)).mono fun e w' ⟨e1, e2⟩ => ⟨e1, hW.trans (e2.mono hDW), ?_⟩
    exact ((hW.trans (e2.mono hDW)).cell (p := ⟨b, o + 4, none⟩) hb).trans l4
  have cr : ∀ W, Below D w W → Calls Try.prog 13 #[.pointer (some ⟨kb, ko + 5, none⟩), fv s, fv p] W fun e w' => e = .returned (.int .i64 (R.ms s p : Nat)) ∧ Below D w w' ∧ w'.cell? ⟨b, o + 4, none⟩ = some (.slice (some ⟨kb, ko, none⟩) m cap) := fun W hW => by
    subst hD0
    have hDW := hW.size
    refine (hr W kb (ko + 5) hD (h6.below hW h4) (by omega) ((h8.below hW (Nat.le_refl _)).more hDW) (by omega)).mono fun e w' ⟨e1, e2⟩ => ⟨e1, hW.trans (e2.mono hDW), ?_⟩
    exact ((hW.trans (e2.mono hDW)).cell (p := ⟨b, o + 4, none⟩) hb).trans l4
  have hj : ∀ W, Below D w W → W.cell? ⟨b, o + 4, none⟩ = some (.slice (some ⟨kb, ko, none⟩) m cap) → Calls Try.prog (if (if sq then s else p) then 14 else 16) #[.int .i64 (L.ms s p : Nat), .int .i64 (R.ms s p : Nat)] W fun e w' => e = .returned (.int .i64 (T.ms s p : Nat)) ∧ Below D w w' ∧ w'.cell? ⟨b, o + 4, none⟩ = some (.slice (some ⟨kb, ko, none⟩) m cap) := fun W hW hc => by
    rw [hms]
    exact (join_any _ _ _ W (by have := L.ms_le s p; have := R.ms_le s p; omega)).mono fun e w' ⟨e1, e2⟩ => ⟨e1, by rw [e2]; exact hW, by rw [e2]; exact hc⟩
  have HL := Lib.hid cl
  have HR := Lib.hid cr
  have HJ := Lib.hid hj
  have HB := Below.refl D w
  obtain ⟨xl, hxl⟩ : ∃ xl, xl = L.ms s p := ⟨_, rfl⟩
  obtain ⟨xr, hxr⟩ : ∃ xr, xr = R.ms s p := ⟨_, rfl⟩
  obtain ⟨xt, hxt⟩ : ∃ xt, xt = T.ms s p := ⟨_, rfl⟩
  rw [← hxl, ← hxr, ← hxt] at HJ
  rw [← hxl] at HL
  rw [← hxr] at HR
  rw [← hxt, ← hD0]
  have n0 : (0 : Int) < (m : Int) := by omega
  have m0 : 0 < m := by omega
  have m1 : 1 < m := by omega
  have n1 : (1 : Int) < (m : Int) := by omega
  have n2 : ¬ ((m : Int) < 2) := by omega
  clear cl cr hj hl hr hsz hms hT hT2 hs hD0 h4 h5 h6 h7 h8 hxl hxr hxt hb
  cases s <;> cases p <;> cases sq
  all_goals
    dsimp only [fv, if_true, if_false] at HL HR HJ h1 ⊢
    simp only [Bool.false_eq_true, if_true, if_false] at HL HR HJ h1 ⊢
    subst h1
    go_enter Try.func13, Try.ntmps13
    go_wp2_with fail
    go_region_held3 (fun w' => Below D w w' ∧ w'.cell? ⟨b, o + 4, none⟩ = some (.slice (some ⟨kb, ko, none⟩) m cap))
      (first | (go_split_ands; exact ⟨‹_›, ‹_›⟩) | (go_split_ands; refine ⟨?_, ‹_›⟩; refine Below.drew ?_; assumption))
      (first
        | (go_at_call_of 13 (Value.pointer (some ⟨kb, ko, none⟩)); go_split_ands; refine (HL.out _ (by assumption)).mono ?_; rintro e w5 ⟨rfl, hB5, hc5⟩)
        | (go_at_call 13; (try go_split_ands); refine (HR.out _ (by assumption)).mono ?_; rintro e w6 ⟨rfl, hB6, hc6⟩)
        | ((try go_split_ands); refine (HJ.out _ (by assumption) (by assumption)).mono ?_; rintro e w7 ⟨rfl, hB7, hc7⟩)
        | fail)
  all_goals
    go_wp2_with fail
    go_ret
    exact ⟨rfl, ‹_›⟩

theorem meas_any (s p : Bool) (T : Tm) : MeasS s p T := by
  induction T with
  | nil => exact meas_nil s p
  | one a => exact meas_one s p a
  | seq l r il ir => exact meas_two s p true _ l r (.inl ⟨rfl, rfl⟩) il ir
  | par l r il ir => exact meas_two s p false _ l r (.inr ⟨rfl, rfl⟩) il ir
end Go.Proofs.Ytidgibkiacbgfaa
