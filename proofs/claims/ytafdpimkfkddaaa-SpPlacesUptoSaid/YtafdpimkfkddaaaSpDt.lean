/-
  Contract of the reference's DTurned.
-/
import Derived.Test.YtafdpimkfkddaaaSpDb
import Derived.Test.YtafdpimkfkddaaaSpMs
namespace Go.Proofs.Ytafdpimkfkddaaa
open Go.RowKit
set_option maxRecDepth 100000

theorem zVals_app (xs ys : List Int) : zVals (xs ++ ys) = zVals xs ++ zVals ys := by simp [zVals]
theorem zVals_one (xs : List Int) : ∀ u ∈ zVals xs, u.oneCell' = true := by
  intro u hu
  simp only [zVals, List.mem_map] at hu
  obtain ⟨a, _, rfl⟩ := hu
  rfl

/-- what DTurned answers -/
def DTurnedS (T : Tm) : Prop := ∀ (h : Hd) (w : World) (f : Nat), TIn w w.heap.size T h → f + T.sz ≤ 1048576 →
  Calls Try.prog 23 #[.agg h.cells, .int .i64 f] w fun e w' => ∃ v, e = .returned v ∧ w'.ownsRow w.heap.size 3 1 v T.sz (zVals (T.turned f)) ∧ Below w.heap.size w w'

theorem dturn_none (T : Tm) (hn : T = .nil ∨ ∃ a, T = .one a) : DTurnedS T := by
  intro h w f hT hs
  have key : ∃ w1, w1 = w.alloc (.cells h.cells 26) ∧ Below w.heap.size w w1 ∧ TB 26 w1 w.heap.size h := ⟨_, rfl, (Below.refl _ _).alloc (Nat.le_refl _) _, TB.new _ _ _⟩
  obtain ⟨w1, hw1, hb1, ht1⟩ := key
  have hs1 : w.heap.size + 1 = w1.heap.size := by rw [hw1]; simp
  have hT1 := (hT.below hb1 (Nat.le_refl _)).more (show w.heap.size ≤ w1.heap.size by omega)
  have hB := both_any T h w1 hT1
  have hB2 : Calls Try.prog 22 #[.agg h.cells] w1 fun e w' => e = .returned (.tuple #[.agg Hd.zero.cells, .agg Hd.zero.cells, .bool false]) ∧ Below w1.heap.size w1 w' := by
    refine hB.mono fun e w' ⟨v, h1, h2, h3⟩ => ⟨?_, h3⟩
    rcases hn with rfl | ⟨a, rfl⟩
    · rw [h1, h2]
    · rw [h1, h2]
  obtain ⟨k, c, x, l, A, m, cap⟩ := h
  have HC := Lib.hid hB2
  have c0 := ht1.c0
  dsimp only [Hd.cells, Hd.zero] at hw1 c0 HC ⊢
  have hlt : w.heap.size < w1.heap.size := by omega
  clear hB hB2 hT1 ht1
  rcases hn with rfl | ⟨a, rfl⟩
  · obtain ⟨h1, _⟩ := hT
    dsimp only at h1
    go_enter Try.func23, Try.ntmps23
    go_wp2_with (first
      | (rw [← hw1]; refine HC.out.mono ?_; rintro e w2 ⟨rfl, hb2⟩; have d0 := (hb2.cell (p := ⟨w.heap.size, 0, none⟩) hlt).trans c0; have hlt2 : w.heap.size < w2.heap.size := Nat.lt_of_lt_of_le hlt hb2.size)
      | fail)
    go_ret
    exact ⟨_, rfl, World.ownsRow_nil _ _ _ _, ((hb1.trans (hb2.mono (by omega))).alloc (by omega) _).alloc (by simp; omega) _⟩
  · obtain ⟨h1, rfl⟩ := hT
    dsimp only at h1
    subst h1
    go_enter Try.func23, Try.ntmps23
    go_wp2_with (first
      | (rw [← hw1]; refine HC.out.mono ?_; rintro e w2 ⟨rfl, hb2⟩; have d0 := (hb2.cell (p := ⟨w.heap.size, 0, none⟩) hlt).trans c0; have hlt2 : w.heap.size < w2.heap.size := Nat.lt_of_lt_of_le hlt hb2.size)
      | fail)
    go_ret
    refine ⟨_, rfl, ?_, (((hb1.trans (hb2.mono (by omega))).alloc (by omega) _).alloc (by simp; omega) _).alloc (by simp; omega) _⟩
    refine own_row1 (.cells #[.int .i64 f] 3) rfl ?_ ?_
    · simp; omega
    · exact ⟨by simp, rfl, by simp [maxLen]⟩

set_option maxHeartbeats 2000000 in
theorem dturn_two (sq : Bool) (T L R : Tm) (hT2 : (sq = true ∧ T = .seq L R) ∨ (sq = false ∧ T = .par L R)) (hl : DTurnedS L) (hr : DTurnedS R) : DTurnedS T := by
  intro h w f hT hs
  have key : ∃ w1, w1 = w.alloc (.cells h.cells 26) ∧ Below w.heap.size w w1 ∧ TB 26 w1 w.heap.size h := ⟨_, rfl, (Below.refl _ _).alloc (Nat.le_refl _) _, TB.new _ _ _⟩
  obtain ⟨w1, hw1, hb1, ht1⟩ := key
  have hs1 : w.heap.size + 1 = w1.heap.size := by rw [hw1]; simp
  have hT1 := (hT.below hb1 (Nat.le_refl _)).more (show w.heap.size ≤ w1.heap.size by omega)
  have hB := both_any T h w1 hT1
  have hB2 : Calls Try.prog 22 #[.agg h.cells] w1 fun e w' => ∃ hl hr, e = .returned (.tuple #[.agg hl.cells, .agg hr.cells, .bool true]) ∧ TIn w1 w1.heap.size L hl ∧ TIn w1 w1.heap.size R hr ∧ Below w1.heap.size w1 w' := by
    refine hB.mono fun e w' ⟨v, h1, h2, h3⟩ => ?_
    rcases hT2 with ⟨_, rfl⟩ | ⟨_, rfl⟩
    · obtain ⟨hl, hr, rfl, h5, h6⟩ := h2
      exact ⟨hl, hr, h1, h5, h6, h3⟩
    · obtain ⟨hl, hr, rfl, h5, h6⟩ := h2
      exact ⟨hl, hr, h1, h5, h6, h3⟩
  have hlv : T.lv = L.lv ++ R.lv := by rcases hT2 with ⟨_, rfl⟩ | ⟨_, rfl⟩ <;> rfl
  have hsz : T.sz = L.sz + R.sz := by rcases hT2 with ⟨_, rfl⟩ | ⟨_, rfl⟩ <;> rfl
  have hll := L.lv_len
  have hrl := R.lv_len
  obtain ⟨k, c, x, l, A, m, cap⟩ := h
  have HC := Lib.hid hB2
  dsimp only [Hd.cells] at hw1 HC hT ⊢
  have hk : k = (if sq then 2 else 3) := by
    rcases hT2 with ⟨rfl, rfl⟩ | ⟨rfl, rfl⟩
    · exact hT.1
    · exact hT.1
  have htu : T.turned f = if sq then L.turned f ++ R.turned ((f + L.sz : Nat) : Int) else R.turned ((f + L.sz : Nat) : Int) ++ L.turned f := by
    rcases hT2 with ⟨rfl, rfl⟩ | ⟨rfl, rfl⟩ <;> simp [Tm.turned]
  have HTU := Lib.hid htu
  clear htu
  have HK := Lib.hid hk
  have c0 := ht1.c0
  clear hk
  dsimp only at c0
  have hlt0 : w.heap.size < w1.heap.size := ht1.lt
  clear hB hB2 hT1 ht1 hT hT2
  cases sq with
  | false =>
    have hk : k = 3 := HK.out
    subst hk
    go_enter Try.func23, Try.ntmps23
    go_wp2_with (first
      | (rw [← hw1]; refine HC.out.mono ?_; rintro e w2 ⟨ha, hb, rfl, hta, htb, hb2⟩; obtain ⟨ka, ca, xa, la, Aa, ma, capa⟩ := ha; obtain ⟨kb, cb, xb, lb, Ab, mb, capb⟩ := hb; dsimp only [Hd.cells]; have d0 := (hb2.cell (p := ⟨w.heap.size, 0, none⟩) hlt0).trans c0; have hlt2 : w.heap.size < w2.heap.size := Nat.lt_of_lt_of_le hlt0 hb2.size)
      | fail)
    have hb12 : Below w.heap.size w w2 := hb1.trans (hb2.mono (by omega))
    have hs2 : w1.heap.size ≤ w2.heap.size := hb2.size
    have hta2 := (hta.below hb2 (Nat.le_refl _)).more hs2
    have htb2 := (htb.below hb2 (Nat.le_refl _)).more hs2
    obtain ⟨w3, hw3⟩ : ∃ w3, w3 = (w2.alloc (.cells #[.int .i64 ka, .int .i64 ca, .bool xa, .int .i64 la, .slice Aa ma capa] 26)).alloc (.cells #[.int .i64 kb, .int .i64 cb, .bool xb, .int .i64 lb, .slice Ab mb capb] 26) := ⟨_, rfl⟩
    obtain ⟨ta, tb⟩ : TB 26 w3 w2.heap.size ⟨ka, ca, xa, la, Aa, ma, capa⟩ ∧ TB 26 w3 (w2.heap.size + 1) ⟨kb, cb, xb, lb, Ab, mb, capb⟩ := by rw [hw3]; exact two_boxes (a := ⟨ka, ca, xa, la, Aa, ma, capa⟩) (b := ⟨kb, cb, xb, lb, Ab, mb, capb⟩)
    have hb23 : Below w2.heap.size w2 w3 := by rw [hw3]; exact ((Below.refl _ _).alloc (Nat.le_refl _) _).alloc (by simp) _
    have hta3 := (hta2.below hb23 (Nat.le_refl _)).more hb23.size
    have htb3 := (htb2.below hb23 (Nat.le_refl _)).more hb23.size
    rw [← hw3]
    obtain ⟨D, hD⟩ : ∃ D, D = w3.heap.size := ⟨_, rfl⟩
    obtain ⟨Ba, hBa⟩ : ∃ Ba, Ba = w2.heap.size := ⟨_, rfl⟩
    rw [← hBa] at ta tb ⊢
    rw [← hD] at hta3 htb3
    have hBD : w.heap.size ≤ D := by have := hb12.size; have := hb23.size; omega
    have hb03 : Below w.heap.size w w3 := hb12.trans (hb23.mono hb12.size)
    have HL : Hid (∀ W, Below D w3 W → Calls Try.prog 11 #[.agg #[.int .i64 ka, .int .i64 ca, .bool xa, .int .i64 la, .slice Aa ma capa]] W fun e w' => ∃ v, e = .returned v ∧ w'.ownsRow D 23 3 v L.lv.length (accs L.lv) ∧ Below W.heap.size W w' ∧ S3 w3 D Ba (Ba + 1) ⟨ka, ca, xa, la, Aa, ma, capa⟩ ⟨kb, cb, xb, lb, Ab, mb, capb⟩ w') := Lib.hid fun W hW => by
      have hDW : D ≤ W.heap.size := by rw [hD]; exact hW.size
      refine (dleaves_any L ⟨ka, ca, xa, la, Aa, ma, capa⟩ W ((hta3.below hW (Nat.le_refl _)).more hDW) (by omega)).mono fun e w' ⟨v, h1, h2, h3⟩ => ⟨v, h1, own_more h2 hDW, h3, S3.mk ta tb hD (hW.trans (h3.mono hDW))⟩
    have HR : Hid (∀ W, Below D w3 W → Calls Try.prog 11 #[.agg #[.int .i64 kb, .int .i64 cb, .bool xb, .int .i64 lb, .slice Ab mb capb]] W fun e w' => ∃ v, e = .returned v ∧ w'.ownsRow D 23 3 v R.lv.length (accs R.lv) ∧ Below W.heap.size W w' ∧ S3 w3 D Ba (Ba + 1) ⟨ka, ca, xa, la, Aa, ma, capa⟩ ⟨kb, cb, xb, lb, Ab, mb, capb⟩ w') := Lib.hid fun W hW => by
      have hDW : D ≤ W.heap.size := by rw [hD]; exact hW.size
      refine (dleaves_any R ⟨kb, cb, xb, lb, Ab, mb, capb⟩ W ((htb3.below hW (Nat.le_refl _)).more hDW) (by omega)).mono fun e w' ⟨v, h1, h2, h3⟩ => ⟨v, h1, own_more h2 hDW, h3, S3.mk ta tb hD (hW.trans (h3.mono hDW))⟩
    have HDL : Hid (∀ W, Below D w3 W → Calls Try.prog 23 #[.agg #[.int .i64 ka, .int .i64 ca, .bool xa, .int .i64 la, .slice Aa ma capa], .int .i64 f] W fun e w' => ∃ v, e = .returned v ∧ w'.ownsRow D 3 1 v L.sz (zVals (L.turned f)) ∧ Below W.heap.size W w' ∧ S3 w3 D Ba (Ba + 1) ⟨ka, ca, xa, la, Aa, ma, capa⟩ ⟨kb, cb, xb, lb, Ab, mb, capb⟩ w') := Lib.hid fun W hW => by
      have hDW : D ≤ W.heap.size := by rw [hD]; exact hW.size
      exact (hl ⟨ka, ca, xa, la, Aa, ma, capa⟩ W f ((hta3.below hW (Nat.le_refl _)).more hDW) (by omega)).mono fun e w' ⟨v, h1, h2, h3⟩ => ⟨v, h1, own_more h2 hDW, h3, S3.mk ta tb hD (hW.trans (h3.mono hDW))⟩
    have HDR : Hid (∀ W, Below D w3 W → Calls Try.prog 23 #[.agg #[.int .i64 kb, .int .i64 cb, .bool xb, .int .i64 lb, .slice Ab mb capb], .int .i64 (f + L.sz : Nat)] W fun e w' => ∃ v, e = .returned v ∧ w'.ownsRow D 3 1 v R.sz (zVals (R.turned ((f + L.sz : Nat) : Int))) ∧ Below W.heap.size W w' ∧ S3 w3 D Ba (Ba + 1) ⟨ka, ca, xa, la, Aa, ma, capa⟩ ⟨kb, cb, xb, lb, Ab, mb, capb⟩ w') := Lib.hid fun W hW => by
      have hDW : D ≤ W.heap.size := by rw [hD]; exact hW.size
      exact (hr ⟨kb, cb, xb, lb, Ab, mb, capb⟩ W (f + L.sz) ((htb3.below hW (Nat.le_refl _)).more hDW) (by omega)).mono fun e w' ⟨v, h1, h2, h3⟩ => ⟨v, h1, own_more h2 hDW, h3, S3.mk ta tb hD (hW.trans (h3.mono hDW))⟩
    have HS : Hid (∀ W, Below D w3 W → S3 w3 D Ba (Ba + 1) ⟨ka, ca, xa, la, Aa, ma, capa⟩ ⟨kb, cb, xb, lb, Ab, mb, capb⟩ W) := Lib.hid fun W hW => S3.mk ta tb hD hW
    have c1 := (hb23.cell (p := ⟨w.heap.size, 0, none⟩) (Nat.lt_of_lt_of_le hlt0 hs2)).trans ((hb2.cell (p := ⟨w.heap.size, 0, none⟩) hlt0).trans c0)
    have h0 := HS.out w3 (Below.refl _ _)
    obtain ⟨z0, z00, z1, z2, z3, z4, z5, z6, z7, z8, z9, z10⟩ := h0
    dsimp only at z1 z2 z3 z4 z5 z6 z7 z8 z9 z10
    have hin1 : L.sz + R.sz ≤ maxLen := by unfold maxLen; omega
    have hin2 : (L.sz + R.sz) * 8 ≤ 140737488355328 := by omega
    have hin3 : R.sz + L.sz ≤ maxLen := by unfold maxLen; omega
    have hin4 : (R.sz + L.sz) * 8 ≤ 140737488355328 := by omega
    have HSZ := Lib.hid hsz
    have HB3 := Lib.hid hb03
    have HBD := Lib.hid hBD
    have hwD : w.heap.size < D := by have := hb23.size; omega
    rw [hll] at HL
    rw [hrl] at HR
    have HTL := Lib.hid (L.turned_len f)
    have HTR := Lib.hid (R.turned_len ((f + L.sz : Nat) : Int))
    obtain ⟨nl, hnl⟩ : ∃ nl, nl = L.sz := ⟨_, rfl⟩
    obtain ⟨nr, hnr⟩ : ∃ nr, nr = R.sz := ⟨_, rfl⟩
    obtain ⟨TL, hTL⟩ : ∃ TL, TL = L.turned f := ⟨_, rfl⟩
    obtain ⟨TR, hTR⟩ : ∃ TR, TR = R.turned ((f + L.sz : Nat) : Int) := ⟨_, rfl⟩
    rw [← hTL] at HDL HTL HTU
    rw [← hTR] at HDR HTR HTU
    rw [← hnl] at hin1 hin2 hin3 hin4 HL HDL HDR HTL HSZ
    rw [← hnr] at hin1 hin2 hin3 hin4 HR HDR HTR HSZ
    have hfn : f + nl ≤ 1048576 := by omega
    have hwx : IntKind.i64.wrap ((f : Int) + (nl : Int)) = ((f + nl : Nat) : Int) := by rw [IntKind.wrap_i64]; omega
    have hlz : (zVals TL).length = nl * 1 := by rw [zVals_len, HTL.out, Nat.mul_one]
    have hrz : (zVals TR).length = nr * 1 := by rw [zVals_len, HTR.out, Nat.mul_one]
    obtain ⟨F, hF⟩ : ∃ F, F = f + nl := ⟨_, rfl⟩
    rw [← hF] at hwx HDR
    obtain ⟨i0, hi, hz0, hz1, hz2⟩ := Try.infoIntP
    clear hl hr hta htb hta2 htb2 hta3 htb3 ta tb hw3 hD hBa hb23 hb12 hs2 hb2 hw1 hs1 hb1 hll hrl hsz hs hb03 hnl hnr hBD hTL hTR hfn hF
    clear hlv
    go_region_held3 (S3 w3 D Ba (Ba + 1) ⟨ka, ca, xa, la, Aa, ma, capa⟩ ⟨kb, cb, xb, lb, Ab, mb, capb⟩)
      (first
        | (go_split_ands; refine ⟨?_, ?_, ?_, ?_, ?_, ?_, ?_, ?_, ?_, ?_, ?_, ?_⟩ <;> assumption)
        | (go_split_ands; exact HS.out _ (by first | assumption | (refine Below.drew ?_; assumption))))
      (first
        | (go_at_call_of 11 (Value.int IntKind.i64 ka); go_split_ands; refine (HL.out _ (by assumption)).mono ?_; rintro e w5 ⟨v5, rfl, ho5, hb5, hS5⟩; obtain ⟨A5, cp5, rfl⟩ := own_form ho5; obtain ⟨y0, y00, y1, y2, y3, y4, y5, y6, y7, y8, y9, y10⟩ := hS5; dsimp only at y1 y2 y3 y4 y5 y6 y7 y8 y9 y10)
        | (go_at_call_of 23 (Value.int IntKind.i64 kb); go_split_ands; refine (HDR.out _ (by assumption)).mono ?_; rintro e w6 ⟨v6, rfl, ho6, hb6, hS6⟩; obtain ⟨x0, x00, x1, x2, x3, x4, x5, x6, x7, x8, x9, x10⟩ := hS6; dsimp only at x1 x2 x3 x4 x5 x6 x7 x8 x9 x10)
        | (go_at_call_of 23 (Value.int IntKind.i64 ka); go_split_ands; refine (HDL.out _ (by assumption)).mono ?_; rintro e w7 ⟨v7, rfl, ho7, hb7, hS7⟩; have ho67 := own_step ho6 hb7 (Nat.le_refl _); obtain ⟨u0, u00, u1, u2, u3, u4, u5, u6, u7, u8, u9, u10⟩ := hS7; dsimp only at u1 u2 u3 u4 u5 u6 u7 u8 u9 u10)
        | (go_split_ands; refine step_append_rows _ (by rfl) _ _ _ (by rfl) D 3 i0 _ 1 8 Try.underlying39 hi hz0 hz1 hz2 rfl (by omega) v6 nr (zVals TR) (by rfl) (by assumption) v7 nl (zVals TL) (by rfl) (lies_of_own (by assumption)) hlz (zVals_one _) hin3 hin4 (by assumption) ?_; intro v8 w8 ho8 hg hbG; have hB := hbG D w3 (Nat.le_refl _) (by assumption); obtain ⟨t0, t00, t1, t2, t3, t4, t5, t6, t7, t8, t9, t10⟩ := HS.out _ hB; dsimp only at t1 t2 t3 t4 t5 t6 t7 t8 t9 t10; clear hg hbG hB)
        | fail)
    all_goals
      go_wp2_with fail
      go_ret
      refine ⟨_, rfl, ?_, HB3.out.trans (t0.mono HBD.out)⟩
      rw [HSZ.out, HTU.out, if_neg (by decide), zVals_app, Nat.add_comm nl nr]
      exact own_more ho8 HBD.out
  | true =>
    have hk : k = 2 := HK.out
    subst hk
    go_enter Try.func23, Try.ntmps23
    go_wp2_with (first
      | (rw [← hw1]; refine HC.out.mono ?_; rintro e w2 ⟨ha, hb, rfl, hta, htb, hb2⟩; obtain ⟨ka, ca, xa, la, Aa, ma, capa⟩ := ha; obtain ⟨kb, cb, xb, lb, Ab, mb, capb⟩ := hb; dsimp only [Hd.cells]; have d0 := (hb2.cell (p := ⟨w.heap.size, 0, none⟩) hlt0).trans c0; have hlt2 : w.heap.size < w2.heap.size := Nat.lt_of_lt_of_le hlt0 hb2.size)
      | fail)
    have hb12 : Below w.heap.size w w2 := hb1.trans (hb2.mono (by omega))
    have hs2 : w1.heap.size ≤ w2.heap.size := hb2.size
    have hta2 := (hta.below hb2 (Nat.le_refl _)).more hs2
    have htb2 := (htb.below hb2 (Nat.le_refl _)).more hs2
    obtain ⟨w3, hw3⟩ : ∃ w3, w3 = (w2.alloc (.cells #[.int .i64 ka, .int .i64 ca, .bool xa, .int .i64 la, .slice Aa ma capa] 26)).alloc (.cells #[.int .i64 kb, .int .i64 cb, .bool xb, .int .i64 lb, .slice Ab mb capb] 26) := ⟨_, rfl⟩
    obtain ⟨ta, tb⟩ : TB 26 w3 w2.heap.size ⟨ka, ca, xa, la, Aa, ma, capa⟩ ∧ TB 26 w3 (w2.heap.size + 1) ⟨kb, cb, xb, lb, Ab, mb, capb⟩ := by rw [hw3]; exact two_boxes (a := ⟨ka, ca, xa, la, Aa, ma, capa⟩) (b := ⟨kb, cb, xb, lb, Ab, mb, capb⟩)
    have hb23 : Below w2.heap.size w2 w3 := by rw [hw3]; exact ((Below.refl _ _).alloc (Nat.le_refl _) _).alloc (by simp) _
    have hta3 := (hta2.below hb23 (Nat.le_refl _)).more hb23.size
    have htb3 := (htb2.below hb23 (Nat.le_refl _)).more hb23.size
    rw [← hw3]
    obtain ⟨D, hD⟩ : ∃ D, D = w3.heap.size := ⟨_, rfl⟩
    obtain ⟨Ba, hBa⟩ : ∃ Ba, Ba = w2.heap.size := ⟨_, rfl⟩
    rw [← hBa] at ta tb ⊢
    rw [← hD] at hta3 htb3
    have hBD : w.heap.size ≤ D := by have := hb12.size; have := hb23.size; omega
    have hb03 : Below w.heap.size w w3 := hb12.trans (hb23.mono hb12.size)
    have HL : Hid (∀ W, Below D w3 W → Calls Try.prog 11 #[.agg #[.int .i64 ka, .int .i64 ca, .bool xa, .int .i64 la, .slice Aa ma capa]] W fun e w' => ∃ v, e = .returned v ∧ w'.ownsRow D 23 3 v L.lv.length (accs L.lv) ∧ Below W.heap.size W w' ∧ S3 w3 D Ba (Ba + 1) ⟨ka, ca, xa, la, Aa, ma, capa⟩ ⟨kb, cb, xb, lb, Ab, mb, capb⟩ w') := Lib.hid fun W hW => by
      have hDW : D ≤ W.heap.size := by rw [hD]; exact hW.size
      refine (dleaves_any L ⟨ka, ca, xa, la, Aa, ma, capa⟩ W ((hta3.below hW (Nat.le_refl _)).more hDW) (by omega)).mono fun e w' ⟨v, h1, h2, h3⟩ => ⟨v, h1, own_more h2 hDW, h3, S3.mk ta tb hD (hW.trans (h3.mono hDW))⟩
    have HR : Hid (∀ W, Below D w3 W → Calls Try.prog 11 #[.agg #[.int .i64 kb, .int .i64 cb, .bool xb, .int .i64 lb, .slice Ab mb capb]] W fun e w' => ∃ v, e = .returned v ∧ w'.ownsRow D 23 3 v R.lv.length (accs R.lv) ∧ Below W.heap.size W w' ∧ S3 w3 D Ba (Ba + 1) ⟨ka, ca, xa, la, Aa, ma, capa⟩ ⟨kb, cb, xb, lb, Ab, mb, capb⟩ w') := Lib.hid fun W hW => by
      have hDW : D ≤ W.heap.size := by rw [hD]; exact hW.size
      refine (dleaves_any R ⟨kb, cb, xb, lb, Ab, mb, capb⟩ W ((htb3.below hW (Nat.le_refl _)).more hDW) (by omega)).mono fun e w' ⟨v, h1, h2, h3⟩ => ⟨v, h1, own_more h2 hDW, h3, S3.mk ta tb hD (hW.trans (h3.mono hDW))⟩
    have HDL : Hid (∀ W, Below D w3 W → Calls Try.prog 23 #[.agg #[.int .i64 ka, .int .i64 ca, .bool xa, .int .i64 la, .slice Aa ma capa], .int .i64 f] W fun e w' => ∃ v, e = .returned v ∧ w'.ownsRow D 3 1 v L.sz (zVals (L.turned f)) ∧ Below W.heap.size W w' ∧ S3 w3 D Ba (Ba + 1) ⟨ka, ca, xa, la, Aa, ma, capa⟩ ⟨kb, cb, xb, lb, Ab, mb, capb⟩ w') := Lib.hid fun W hW => by
      have hDW : D ≤ W.heap.size := by rw [hD]; exact hW.size
      exact (hl ⟨ka, ca, xa, la, Aa, ma, capa⟩ W f ((hta3.below hW (Nat.le_refl _)).more hDW) (by omega)).mono fun e w' ⟨v, h1, h2, h3⟩ => ⟨v, h1, own_more h2 hDW, h3, S3.mk ta tb hD (hW.trans (h3.mono hDW))⟩
    have HDR : Hid (∀ W, Below D w3 W → Calls Try.prog 23 #[.agg #[.int .i64 kb, .int .i64 cb, .bool xb, .int .i64 lb, .slice Ab mb capb], .int .i64 (f + L.sz : Nat)] W fun e w' => ∃ v, e = .returned v ∧ w'.ownsRow D 3 1 v R.sz (zVals (R.turned ((f + L.sz : Nat) : Int))) ∧ Below W.heap.size W w' ∧ S3 w3 D Ba (Ba + 1) ⟨ka, ca, xa, la, Aa, ma, capa⟩ ⟨kb, cb, xb, lb, Ab, mb, capb⟩ w') := Lib.hid fun W hW => by
      have hDW : D ≤ W.heap.size := by rw [hD]; exact hW.size
      exact (hr ⟨kb, cb, xb, lb, Ab, mb, capb⟩ W (f + L.sz) ((htb3.below hW (Nat.le_refl _)).more hDW) (by omega)).mono fun e w' ⟨v, h1, h2, h3⟩ => ⟨v, h1, own_more h2 hDW, h3, S3.mk ta tb hD (hW.trans (h3.mono hDW))⟩
    have HS : Hid (∀ W, Below D w3 W → S3 w3 D Ba (Ba + 1) ⟨ka, ca, xa, la, Aa, ma, capa⟩ ⟨kb, cb, xb, lb, Ab, mb, capb⟩ W) := Lib.hid fun W hW => S3.mk ta tb hD hW
    have c1 := (hb23.cell (p := ⟨w.heap.size, 0, none⟩) (Nat.lt_of_lt_of_le hlt0 hs2)).trans ((hb2.cell (p := ⟨w.heap.size, 0, none⟩) hlt0).trans c0)
    have h0 := HS.out w3 (Below.refl _ _)
    obtain ⟨z0, z00, z1, z2, z3, z4, z5, z6, z7, z8, z9, z10⟩ := h0
    dsimp only at z1 z2 z3 z4 z5 z6 z7 z8 z9 z10
    have hin1 : L.sz + R.sz ≤ maxLen := by unfold maxLen; omega
    have hin2 : (L.sz + R.sz) * 8 ≤ 140737488355328 := by omega
    have hin3 : R.sz + L.sz ≤ maxLen := by unfold maxLen; omega
    have hin4 : (R.sz + L.sz) * 8 ≤ 140737488355328 := by omega
    have HSZ := Lib.hid hsz
    have HB3 := Lib.hid hb03
    have HBD := Lib.hid hBD
    have hwD : w.heap.size < D := by have := hb23.size; omega
    rw [hll] at HL
    rw [hrl] at HR
    have HTL := Lib.hid (L.turned_len f)
    have HTR := Lib.hid (R.turned_len ((f + L.sz : Nat) : Int))
    obtain ⟨nl, hnl⟩ : ∃ nl, nl = L.sz := ⟨_, rfl⟩
    obtain ⟨nr, hnr⟩ : ∃ nr, nr = R.sz := ⟨_, rfl⟩
    obtain ⟨TL, hTL⟩ : ∃ TL, TL = L.turned f := ⟨_, rfl⟩
    obtain ⟨TR, hTR⟩ : ∃ TR, TR = R.turned ((f + L.sz : Nat) : Int) := ⟨_, rfl⟩
    rw [← hTL] at HDL HTL HTU
    rw [← hTR] at HDR HTR HTU
    rw [← hnl] at hin1 hin2 hin3 hin4 HL HDL HDR HTL HSZ
    rw [← hnr] at hin1 hin2 hin3 hin4 HR HDR HTR HSZ
    have hfn : f + nl ≤ 1048576 := by omega
    have hwx : IntKind.i64.wrap ((f : Int) + (nl : Int)) = ((f + nl : Nat) : Int) := by rw [IntKind.wrap_i64]; omega
    have hlz : (zVals TL).length = nl * 1 := by rw [zVals_len, HTL.out, Nat.mul_one]
    have hrz : (zVals TR).length = nr * 1 := by rw [zVals_len, HTR.out, Nat.mul_one]
    obtain ⟨F, hF⟩ : ∃ F, F = f + nl := ⟨_, rfl⟩
    rw [← hF] at hwx HDR
    obtain ⟨i0, hi, hz0, hz1, hz2⟩ := Try.infoIntP
    clear hl hr hta htb hta2 htb2 hta3 htb3 ta tb hw3 hD hBa hb23 hb12 hs2 hb2 hw1 hs1 hb1 hll hrl hsz hs hb03 hnl hnr hBD hTL hTR hfn hF
    clear hlv
    go_region_held3 (S3 w3 D Ba (Ba + 1) ⟨ka, ca, xa, la, Aa, ma, capa⟩ ⟨kb, cb, xb, lb, Ab, mb, capb⟩)
      (first
        | (go_split_ands; refine ⟨?_, ?_, ?_, ?_, ?_, ?_, ?_, ?_, ?_, ?_, ?_, ?_⟩ <;> assumption)
        | (go_split_ands; exact HS.out _ (by first | assumption | (refine Below.drew ?_; assumption))))
      (first
        | (go_at_call_of 23 (Value.int IntKind.i64 ka); go_split_ands; refine (HDL.out _ (by assumption)).mono ?_; rintro e w6 ⟨v6, rfl, ho6, hb6, hS6⟩; obtain ⟨x0, x00, x1, x2, x3, x4, x5, x6, x7, x8, x9, x10⟩ := hS6; dsimp only at x1 x2 x3 x4 x5 x6 x7 x8 x9 x10)
        | (go_at_call_of 11 (Value.int IntKind.i64 ka); go_split_ands; refine (HL.out _ (by assumption)).mono ?_; rintro e w5 ⟨v5, rfl, ho5, hb5, hS5⟩; obtain ⟨A5, cp5, rfl⟩ := own_form ho5; obtain ⟨y0, y00, y1, y2, y3, y4, y5, y6, y7, y8, y9, y10⟩ := hS5; dsimp only at y1 y2 y3 y4 y5 y6 y7 y8 y9 y10; have ho65 := own_step ho6 hb5 (Nat.le_refl _))
        | (go_at_call_of 23 (Value.int IntKind.i64 kb); go_split_ands; refine (HDR.out _ (by assumption)).mono ?_; rintro e w7 ⟨v7, rfl, ho7, hb7, hS7⟩; have ho67 := own_step ho65 hb7 (Nat.le_refl _); obtain ⟨u0, u00, u1, u2, u3, u4, u5, u6, u7, u8, u9, u10⟩ := hS7; dsimp only at u1 u2 u3 u4 u5 u6 u7 u8 u9 u10)
        | (go_split_ands; refine step_append_rows _ (by rfl) _ _ _ (by rfl) D 3 i0 _ 1 8 Try.underlying39 hi hz0 hz1 hz2 rfl (by omega) v6 nl (zVals TL) (by rfl) (by assumption) v7 nr (zVals TR) (by rfl) (lies_of_own (by assumption)) hrz (zVals_one _) hin1 hin2 (by assumption) ?_; intro v8 w8 ho8 hg hbG; have hB := hbG D w3 (Nat.le_refl _) (by assumption); obtain ⟨t0, t00, t1, t2, t3, t4, t5, t6, t7, t8, t9, t10⟩ := HS.out _ hB; dsimp only at t1 t2 t3 t4 t5 t6 t7 t8 t9 t10; clear hg hbG hB)
        | fail)
    all_goals
      go_wp2_with fail
      go_ret
      refine ⟨_, rfl, ?_, HB3.out.trans (t0.mono HBD.out)⟩
      rw [HSZ.out, HTU.out, if_pos (by trivial), zVals_app]
      exact own_more ho8 HBD.out

theorem dturn_any (T : Tm) : DTurnedS T := by
  induction T with
  | nil => exact dturn_none _ (.inl rfl)
  | one a => exact dturn_none _ (.inr ⟨a, rfl⟩)
  | seq l r il ir => exact dturn_two true _ l r (.inl ⟨rfl, rfl⟩) il ir
  | par l r il ir => exact dturn_two false _ l r (.inr ⟨rfl, rfl⟩) il ir
end Go.Proofs.Ytafdpimkfkddaaa
