/-
  Contract of the reference's EWidth.
-/
import Derived.Test.YtidgibkiacbgfaaSnM
import Derived.Test.YtidgibkiacbgfaaSpDb
import Derived.Lib.MinMax
namespace Go.Proofs.Ytidgibkiacbgfaa
open Go.RowKit
set_option maxRecDepth 100000

/-- what EWidth answers -/
def EWidS (T : Tm) : Prop := ∀ (h : Hd) (w : World), TIn w w.heap.size T h → T.sz ≤ 1048576 →
  Calls Try.prog 11 #[.agg h.cells] w fun e w' => e = .returned (.int .i64 (T.wd : Nat)) ∧ Below w.heap.size w w'

theorem ewid_none (T : Tm) (hn : T = .nil ∨ ∃ a, T = .one a) : EWidS T := by
  intro h w hT hs
  have key : ∃ w1, w1 = w.alloc (.cells h.cells 26) ∧ Below w.heap.size w w1 ∧ TB 26 w1 w.heap.size h := ⟨_, rfl, (Below.refl _ _).alloc (Nat.le_refl _) _, TB.new _ _ _⟩
  obtain ⟨w1, hw1, hb1, ht1⟩ := key
  have hs1 : w.heap.size + 1 = w1.heap.size := by rw [hw1]; simp
  have hT1 := (hT.below hb1 (Nat.le_refl _)).more (show w.heap.size ≤ w1.heap.size by omega)
  have hB := both_any T h w1 hT1
  have hB2 : Calls Try.prog 15 #[.agg h.cells] w1 fun e w' => e = .returned (.tuple #[.agg Hd.zero.cells, .agg Hd.zero.cells, .bool false]) ∧ Below w1.heap.size w1 w' := by
    refine hB.mono fun e w' ⟨v, h1, h2, h3⟩ => ⟨?_, h3⟩
    rcases hn with rfl | ⟨a, rfl⟩
    · rw [h1, h2]
    · rw [h1, h2]
  have HTB : Hid (∀ W, Below w1.heap.size w1 W → TB 26 W w.heap.size h) := Lib.hid fun W hW => (hW.block _ (by omega)).trans ht1
  obtain ⟨n, hn2⟩ : ∃ n, n = T.wd := ⟨_, rfl⟩
  have hlw : T.lv.length = n := by rw [hn2]; rcases hn with rfl | ⟨a, rfl⟩ <;> rfl
  have HD : Hid (∀ W, Below w1.heap.size w1 W → Calls Try.prog 7 #[.agg h.cells] W fun e w' => ∃ A c, e = .returned (.slice A n c) ∧ Below W.heap.size W w') := Lib.hid fun W hW => by
    refine (dleaves_any T h W ((hT1.below hW (Nat.le_refl _)).more hW.size) hs).mono fun e w' ⟨v, h1, h2, h3⟩ => ?_
    obtain ⟨A, c, rfl⟩ := own_form h2
    rw [hlw] at h1
    exact ⟨A, c, h1, h3⟩
  rw [← hn2]
  obtain ⟨k, c, x, l, A, m, cap⟩ := h
  have HC := Lib.hid hB2
  dsimp only [Hd.cells, Hd.zero] at hw1 HC HD ⊢
  have HB1 := Lib.hid hb1
  have HLT : Hid (w.heap.size < w1.heap.size) := Lib.hid (by omega)
  clear hB hB2 hT hT1 ht1 hs hs1 hn hn2 hlw hb1
  go_enter Try.func11, Try.ntmps11
  go_wp2_with (first
    | (rw [← hw1]; refine HC.out.mono ?_; rintro e w2 ⟨rfl, hb2⟩; have hb3 := (hb2.alloc hb2.size (.cells #[.int .i64 0, .int .i64 0, .bool false, .int .i64 0, .slice none 0 0] 26)).alloc (by have := hb2.size; simp; omega) (.cells #[.int .i64 0, .int .i64 0, .bool false, .int .i64 0, .slice none 0 0] 26); have ht3 := HTB.out _ hb3; have z0 := ht3.c0; have z1 := ht3.c1; have z2 := ht3.c2; have z3 := ht3.c3; have z4 := ht3.c4; dsimp only at z0 z1 z2 z3 z4; clear ht3)
    | (refine (HD.out _ hb3).mono ?_; rintro e w4 ⟨A4, c4, rfl, hb4⟩)
    | fail)
  go_ret
  exact ⟨rfl, HB1.out.trans ((hb3.trans (hb4.mono hb3.size)).mono (Nat.le_of_lt HLT.out))⟩

set_option maxHeartbeats 2000000 in
theorem ewid_two (sq : Bool) (T L R : Tm) (hT2 : (sq = true ∧ T = .seq L R) ∨ (sq = false ∧ T = .par L R)) (hl : EWidS L) (hr : EWidS R) : EWidS T := by
  intro h w hT hs
  have key : ∃ w1, w1 = w.alloc (.cells h.cells 26) ∧ Below w.heap.size w w1 ∧ TB 26 w1 w.heap.size h := ⟨_, rfl, (Below.refl _ _).alloc (Nat.le_refl _) _, TB.new _ _ _⟩
  obtain ⟨w1, hw1, hb1, ht1⟩ := key
  have hs1 : w.heap.size + 1 = w1.heap.size := by rw [hw1]; simp
  have hT1 := (hT.below hb1 (Nat.le_refl _)).more (show w.heap.size ≤ w1.heap.size by omega)
  have hB := both_any T h w1 hT1
  have hB2 : Calls Try.prog 15 #[.agg h.cells] w1 fun e w' => ∃ hl hr, e = .returned (.tuple #[.agg hl.cells, .agg hr.cells, .bool true]) ∧ TIn w1 w1.heap.size L hl ∧ TIn w1 w1.heap.size R hr ∧ Below w1.heap.size w1 w' := by
    refine hB.mono fun e w' ⟨v, h1, h2, h3⟩ => ?_
    rcases hT2 with ⟨_, rfl⟩ | ⟨_, rfl⟩
    · obtain ⟨hl, hr, rfl, h5, h6⟩ := h2
      exact ⟨hl, hr, h1, h5, h6, h3⟩
    · obtain ⟨hl, hr, rfl, h5, h6⟩ := h2
      exact ⟨hl, hr, h1, h5, h6, h3⟩
  have hsz : T.sz = L.sz + R.sz := by rcases hT2 with ⟨_, rfl⟩ | ⟨_, rfl⟩ <;> rfl
  obtain ⟨xl, hxl⟩ : ∃ xl, xl = L.wd := ⟨_, rfl⟩
  obtain ⟨xr, hxr⟩ : ∃ xr, xr = R.wd := ⟨_, rfl⟩
  have hwd : ((T.wd : Nat) : Int) = if sq then max (xl : Int) (xr : Int) else (xl : Int) + (xr : Int) := by
    rw [hxl, hxr]
    rcases hT2 with ⟨rfl, rfl⟩ | ⟨rfl, rfl⟩
    · rw [Tm.wd_seq, if_pos rfl]; omega
    · rw [Tm.wd_par, if_neg (by simp)]; omega
  rw [hwd]
  have hxs : xl + xr ≤ 1048576 := by
    have a1 : L.wd ≤ L.sz := L.ms_le _ _
    have a2 : R.wd ≤ R.sz := R.ms_le _ _
    omega
  have e1 : IntKind.i64.wrap ((xl : Int) + (xr : Int)) = (xl : Int) + (xr : Int) := by rw [IntKind.wrap_i64]; omega
  obtain ⟨k, c, x, l, A, m, cap⟩ := h
  have HC := Lib.hid hB2
  dsimp only [Hd.cells] at hw1 HC hT ⊢
  have hk : k = (if sq then 2 else 3) := by
    rcases hT2 with ⟨rfl, rfl⟩ | ⟨rfl, rfl⟩
    · exact hT.1
    · exact hT.1
  have HK := Lib.hid hk
  have c0 := ht1.c0
  clear hk
  dsimp only at c0
  have hlt0 : w.heap.size < w1.heap.size := ht1.lt
  have HXL := Lib.hid hxl
  have HXR := Lib.hid hxr
  clear hB hB2 hT1 ht1 hT hT2 hwd hxl hxr hxs
  go_enter Try.func11, Try.ntmps11
  have hk := HK.out
  clear HK
  cases sq
  all_goals
    simp only [Bool.false_eq_true, if_true, if_false] at hk ⊢
    subst hk
    go_wp2_with (first
      | (rw [← hw1]; refine HC.out.mono ?_; rintro e w2 ⟨ha, hb, rfl, hta, htb, hb2⟩; obtain ⟨ka, ca, xa, la, Aa, ma, capa⟩ := ha; obtain ⟨kb, cb, xb, lb, Ab, mb, capb⟩ := hb; dsimp only [Hd.cells]; have hb3' := (hb2.alloc hb2.size (.cells #[.int .i64 ka, .int .i64 ca, .bool xa, .int .i64 la, .slice Aa ma capa] 26)).alloc (by have := hb2.size; simp; omega) (.cells #[.int .i64 kb, .int .i64 cb, .bool xb, .int .i64 lb, .slice Ab mb capb] 26); have q0 := (hb3'.cell (p := ⟨w.heap.size, 0, none⟩) hlt0).trans c0)
      | fail)
    have hb12 : Below w.heap.size w w2 := hb1.trans (hb2.mono (by omega))
    have hs2 : w1.heap.size ≤ w2.heap.size := hb2.size
    have hta2 := (hta.below hb2 (Nat.le_refl _)).more hs2
    have htb2 := (htb.below hb2 (Nat.le_refl _)).more hs2
    obtain ⟨w3, hw3⟩ : ∃ w3, w3 = (w2.alloc (.cells #[.int .i64 ka, .int .i64 ca, .bool xa, .int .i64 la, .slice Aa ma capa] 26)).alloc (.cells #[.int .i64 kb, .int .i64 cb, .bool xb, .int .i64 lb, .slice Ab mb capb] 26) := ⟨_, rfl⟩
    obtain ⟨ta, tb⟩ : TB 26 w3 w2.heap.size ⟨ka, ca, xa, la, Aa, ma, capa⟩ ∧ TB 26 w3 (w2.heap.size + 1) ⟨kb, cb, xb, lb, Ab, mb, capb⟩ := by rw [hw3]; exact two_boxes (a := ⟨ka, ca, xa, la, Aa, ma, capa⟩) (b := ⟨kb, cb, xb, lb, Ab, mb, capb⟩)
    have hb23 : Below w2.heap.size w2 w3 := by rw [hw3]; exact ((Below.refl _ _).alloc (Nat.le_refl _) _).alloc (by simp) _
    have hta3 := (hta2.below hb23 (Nat.le_refl _)).more hb23.size
    have htb3 := (htb2.below hb23 (Nat.le_refl _)).more hb23.size
    rw [← hw3]
    obtain ⟨D, hD⟩ : ∃ D, D = w3.heap.size := ⟨_, rfl⟩
    obtain ⟨Ba, hBa⟩ : ∃ Ba, Ba = w2.heap.size := ⟨_, rfl⟩
    rw [← hBa] at ta tb ⊢
    rw [← hD] at hta3 htb3
    have hBD : w.heap.size ≤ D := by have := hb12.size; have := hb23.size; omega
    have hb03 : Below w.heap.size w w3 := hb12.trans (hb23.mono hb12.size)
    have HL : Hid (∀ W, Below D w3 W → Calls Try.prog 11 #[.agg #[.int .i64 ka, .int .i64 ca, .bool xa, .int .i64 la, .slice Aa ma capa]] W fun e w' => e = .returned (.int .i64 (xl : Int)) ∧ S3 w3 D Ba (Ba + 1) ⟨ka, ca, xa, la, Aa, ma, capa⟩ ⟨kb, cb, xb, lb, Ab, mb, capb⟩ w') := Lib.hid fun W hW => by
      have hDW : D ≤ W.heap.size := by rw [hD]; exact hW.size
      rw [HXL.out]
      exact (hl ⟨ka, ca, xa, la, Aa, ma, capa⟩ W ((hta3.below hW (Nat.le_refl _)).more hDW) (by omega)).mono fun e w' ⟨h1, h3⟩ => ⟨h1, S3.mk ta tb hD (hW.trans (h3.mono hDW))⟩
    have HR : Hid (∀ W, Below D w3 W → Calls Try.prog 11 #[.agg #[.int .i64 kb, .int .i64 cb, .bool xb, .int .i64 lb, .slice Ab mb capb]] W fun e w' => e = .returned (.int .i64 (xr : Int)) ∧ S3 w3 D Ba (Ba + 1) ⟨ka, ca, xa, la, Aa, ma, capa⟩ ⟨kb, cb, xb, lb, Ab, mb, capb⟩ w') := Lib.hid fun W hW => by
      have hDW : D ≤ W.heap.size := by rw [hD]; exact hW.size
      rw [HXR.out]
      exact (hr ⟨kb, cb, xb, lb, Ab, mb, capb⟩ W ((htb3.below hW (Nat.le_refl _)).more hDW) (by omega)).mono fun e w' ⟨h1, h3⟩ => ⟨h1, S3.mk ta tb hD (hW.trans (h3.mono hDW))⟩
    have HS : Hid (∀ W, Below D w3 W → S3 w3 D Ba (Ba + 1) ⟨ka, ca, xa, la, Aa, ma, capa⟩ ⟨kb, cb, xb, lb, Ab, mb, capb⟩ W) := Lib.hid fun W hW => S3.mk ta tb hD hW
    obtain ⟨z0, z00, z1, z2, z3, z4, z5, z6, z7, z8, z9, z10⟩ := HS.out w3 (Below.refl _ _)
    dsimp only at z1 z2 z3 z4 z5 z6 z7 z8 z9 z10
    have HB3 := Lib.hid hb03
    have HBDD := Lib.hid hBD
    clear hta htb hta2 htb2 hta3 htb3 ta tb hw3 hD hBa hb23 hb12 hs2 hb2 hw1 hb03 hBD hb3' q0 c0 hlt0
    go_region_held3 (S3 w3 D Ba (Ba + 1) ⟨ka, ca, xa, la, Aa, ma, capa⟩ ⟨kb, cb, xb, lb, Ab, mb, capb⟩)
      (first
        | (go_split_ands; refine ⟨?_, ?_, ?_, ?_, ?_, ?_, ?_, ?_, ?_, ?_, ?_, ?_⟩ <;> assumption)
        | (go_split_ands; exact HS.out _ (by first | assumption | (refine Below.drew ?_; assumption))))
      (first
        | (go_at_call_of 11 (Value.int IntKind.i64 ka); (try go_split_ands); refine (HL.out _ (by assumption)).mono ?_; rintro e w5 ⟨rfl, hS5⟩; obtain ⟨y0, y00, y1, y2, y3, y4, y5, y6, y7, y8, y9, y10⟩ := hS5; dsimp only at y1 y2 y3 y4 y5 y6 y7 y8 y9 y10)
        | (go_at_call_of 11 (Value.int IntKind.i64 kb); (try go_split_ands); refine (HR.out _ (by assumption)).mono ?_; rintro e w7 ⟨rfl, hS7⟩; obtain ⟨u0, u00, u1, u2, u3, u4, u5, u6, u7, u8, u9, u10⟩ := hS7; dsimp only at u1 u2 u3 u4 u5 u6 u7 u8 u9 u10)
        | fail)
  all_goals
    go_wp2_with fail
    go_ret
    exact ⟨rfl, HB3.out.trans (u0.mono HBDD.out)⟩

theorem ewid_any (T : Tm) : EWidS T := by
  induction T with
  | nil => exact ewid_none _ (.inl rfl)
  | one a => exact ewid_none _ (.inr ⟨a, rfl⟩)
  | seq l r il ir => exact ewid_two true _ l r (.inl ⟨rfl, rfl⟩) il ir
  | par l r il ir => exact ewid_two false _ l r (.inr ⟨rfl, rfl⟩) il ir
end Go.Proofs.Ytidgibkiacbgfaa
