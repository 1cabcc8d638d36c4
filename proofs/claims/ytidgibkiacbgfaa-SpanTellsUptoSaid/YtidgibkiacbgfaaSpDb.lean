/-
  Contract of the reference's DBefore.
-/
import Derived.Test.YtidgibkiacbgfaaSpDl
namespace Go.Proofs.Ytidgibkiacbgfaa
open Go.RowKit
set_option maxRecDepth 100000

/-- what DBefore answers -/
def DBeforeS (T : Tm) : Prop := ∀ (h : Hd) (w : World) (i j : Int), TIn w w.heap.size T h → T.sz ≤ 1048576 →
  Calls Try.prog 17 #[.agg h.cells, .int .i64 i, .int .i64 j] w fun e w' => e = .returned (.bool (T.bef i j)) ∧ Below w.heap.size w w'

theorem bef_code (sq : Bool) (T L R : Tm) (hT2 : (sq = true ∧ T = .seq L R) ∨ (sq = false ∧ T = .par L R)) (i j : Int) :
    T.bef i j = if i < 0 ∨ j < 0 ∨ (L.sz : Int) + R.sz ≤ i ∨ (L.sz : Int) + R.sz ≤ j then false else if i < L.sz ∧ j < L.sz then L.bef i j else if (L.sz : Int) ≤ i ∧ (L.sz : Int) ≤ j then R.bef (i - L.sz) (j - L.sz) else (sq && decide (i < j)) := by
  have hsz : T.sz = L.sz + R.sz := by rcases hT2 with ⟨_, rfl⟩ | ⟨_, rfl⟩ <;> rfl
  split
  · exact T.bef_out i j (by rw [hsz]; omega)
  · split
    · rename_i h
      rcases hT2 with ⟨_, rfl⟩ | ⟨_, rfl⟩
      · exact Tm.seq_left L R i j h.1 h.2
      · exact Tm.par_left L R i j h.1 h.2
    · split
      · rename_i h
        rcases hT2 with ⟨_, rfl⟩ | ⟨_, rfl⟩
        · exact Tm.seq_right L R i j h.1 h.2
        · exact Tm.par_right L R i j h.1 h.2
      · by_cases hij : i < L.sz
        · rcases hT2 with ⟨rfl, rfl⟩ | ⟨rfl, rfl⟩
          · rw [Tm.seq_cross L R i j (by omega) hij (by omega) (by omega), decide_eq_true (by omega)]; rfl
          · rw [Tm.par_cross L R i j hij (by omega)]; rfl
        · rw [T.bef_out i j (by omega), decide_eq_false (by omega), Bool.and_false]

theorem own_form {w : World} {base size n : Nat} {e : TypeId} {v : Value} {xs : List Value} (h : w.ownsRow base e size v n xs) : ∃ A cap, v = .slice A n cap := by
  rcases h.2 with ⟨rfl, rfl⟩ | ⟨g, cap, cur, hv, _⟩
  · exact ⟨_, _, rfl⟩
  · exact ⟨_, _, hv⟩

theorem dbef_none (T : Tm) (hn : T = .nil ∨ ∃ a, T = .one a) : DBeforeS T := by
  intro h w i j hT hs
  have key : ∃ w1, w1 = w.alloc (.cells h.cells 26) ∧ Below w.heap.size w w1 ∧ TB 26 w1 w.heap.size h := ⟨_, rfl, (Below.refl _ _).alloc (Nat.le_refl _) _, TB.new _ _ _⟩
  obtain ⟨w1, hw1, hb1, ht1⟩ := key
  have hs1 : w.heap.size + 1 = w1.heap.size := by rw [hw1]; simp
  have hT1 := (hT.below hb1 (Nat.le_refl _)).more (show w.heap.size ≤ w1.heap.size by omega)
  have hB := both_any T h w1 hT1
  have hB2 : Calls Try.prog 15 #[.agg h.cells] w1 fun e w' => e = .returned (.tuple #[.agg Hd.zero.cells, .agg Hd.zero.cells, .bool false]) ∧ Below w1.heap.size w1 w' := by
    refine hB.mono fun e w' ⟨v, h1, h2, h3⟩ => ⟨?_, h3⟩
    rcases hn with rfl | ⟨a, rfl⟩
    · rw [h1, h2]
    · rw [h1, h2]
  have hbf : T.bef i j = false := by rcases hn with rfl | ⟨a, rfl⟩ <;> rfl
  rw [hbf]
  obtain ⟨k, c, x, l, A, m, cap⟩ := h
  have HC := Lib.hid hB2
  dsimp only [Hd.cells, Hd.zero] at hw1 HC ⊢
  have hlt : w.heap.size < w1.heap.size := by omega
  clear hB hB2 hT1 ht1
  go_enter Try.func17, Try.ntmps17
  go_wp2_with (first
    | (rw [← hw1]; refine HC.out.mono ?_; rintro e w2 ⟨rfl, hb2⟩; have hlt2 : w.heap.size < w2.heap.size := Nat.lt_of_lt_of_le hlt hb2.size)
    | fail)
  go_ret
  exact ⟨rfl, ((hb1.trans (hb2.mono (by omega))).alloc (by omega) _).alloc (by simp; omega) _⟩

set_option maxHeartbeats 2000000 in
theorem dbef_two (sq : Bool) (T L R : Tm) (hT2 : (sq = true ∧ T = .seq L R) ∨ (sq = false ∧ T = .par L R)) (hl : DBeforeS L) (hr : DBeforeS R) : DBeforeS T := by
  intro h w i j hT hs
  have key : ∃ w1, w1 = w.alloc (.cells h.cells 26) ∧ Below w.heap.size w w1 ∧ TB 26 w1 w.heap.size h := ⟨_, rfl, (Below.refl _ _).alloc (Nat.le_refl _) _, TB.new _ _ _⟩
  obtain ⟨w1, hw1, hb1, ht1⟩ := key
  have hs1 : w.heap.size + 1 = w1.heap.size := by rw [hw1]; simp
  have hT1 := (hT.below hb1 (Nat.le_refl _)).more (show w.heap.size ≤ w1.heap.size by omega)
  have hB := both_any T h w1 hT1
  have hB2 : Calls Try.prog 15 #[.agg h.cells] w1 fun e w' => ∃ hl hr, e = .returned (.tuple #[.agg hl.cells, .agg hr.cells, .bool true]) ∧ TIn w1 w1.heap.size L hl ∧ TIn w1 w1.heap.size R hr ∧ Below w1.heap.size w1 w' := by
    refine hB.mono fun e w' ⟨v, h1, h2, h3⟩ => ?_
    rcases hT2 with ⟨_, rfl⟩ | ⟨_, rfl⟩
    · obtain ⟨hl, hr, rfl, h5, h6⟩ := h2
      exact ⟨hl, hr, h1, h5, h6, h3⟩
    · obtain ⟨hl, hr, rfl, h5, h6⟩ := h2
      exact ⟨hl, hr, h1, h5, h6, h3⟩
  have hlv : T.lv = L.lv ++ R.lv := by rcases hT2 with ⟨_, rfl⟩ | ⟨_, rfl⟩ <;> rfl
  have hsz : T.sz = L.sz + R.sz := by rcases hT2 with ⟨_, rfl⟩ | ⟨_, rfl⟩ <;> rfl
  have hll := L.lv_len
  have hrl := R.lv_len
  obtain ⟨k, c, x, l, A, m, cap⟩ := h
  have HC := Lib.hid hB2
  dsimp only [Hd.cells] at hw1 HC hT ⊢
  have hk : k = (if sq then 2 else 3) := by
    rcases hT2 with ⟨rfl, rfl⟩ | ⟨rfl, rfl⟩
    · exact hT.1
    · exact hT.1
  have HBF : Hid (T.bef i j = if i < 0 ∨ j < 0 ∨ (L.sz : Int) + R.sz ≤ i ∨ (L.sz : Int) + R.sz ≤ j then false else if i < L.sz ∧ j < L.sz then L.bef i j else if (L.sz : Int) ≤ i ∧ (L.sz : Int) ≤ j then R.bef (i - L.sz) (j - L.sz) else (sq && decide (i < j))) := Lib.hid (bef_code sq T L R hT2 i j)
  have HK := Lib.hid hk
  have c0 := ht1.c0
  clear hk
  dsimp only at c0
  have hlt0 : w.heap.size < w1.heap.size := ht1.lt
  clear hB hB2 hT1 ht1 hT hT2
  go_enter Try.func17, Try.ntmps17
  go_wp2_with (first
    | (rw [← hw1]; refine HC.out.mono ?_; rintro e w2 ⟨ha, hb, rfl, hta, htb, hb2⟩; obtain ⟨ka, ca, xa, la, Aa, ma, capa⟩ := ha; obtain ⟨kb, cb, xb, lb, Ab, mb, capb⟩ := hb; dsimp only [Hd.cells])
    | fail)
  have hb12 : Below w.heap.size w w2 := hb1.trans (hb2.mono (by omega))
  have hs2 : w1.heap.size ≤ w2.heap.size := hb2.size
  have hta2 := (hta.below hb2 (Nat.le_refl _)).more hs2
  have htb2 := (htb.below hb2 (Nat.le_refl _)).more hs2
  obtain ⟨w3, hw3⟩ : ∃ w3, w3 = (w2.alloc (.cells #[.int .i64 ka, .int .i64 ca, .bool xa, .int .i64 la, .slice Aa ma capa] 26)).alloc (.cells #[.int .i64 kb, .int .i64 cb, .bool xb, .int .i64 lb, .slice Ab mb capb] 26) := ⟨_, rfl⟩
  obtain ⟨ta, tb⟩ : TB 26 w3 w2.heap.size ⟨ka, ca, xa, la, Aa, ma, capa⟩ ∧ TB 26 w3 (w2.heap.size + 1) ⟨kb, cb, xb, lb, Ab, mb, capb⟩ := by rw [hw3]; exact two_boxes (a := ⟨ka, ca, xa, la, Aa, ma, capa⟩) (b := ⟨kb, cb, xb, lb, Ab, mb, capb⟩)
  have hb23 : Below w2.heap.size w2 w3 := by rw [hw3]; exact ((Below.refl _ _).alloc (Nat.le_refl _) _).alloc (by simp) _
  have hta3 := (hta2.below hb23 (Nat.le_refl _)).more hb23.size
  have htb3 := (htb2.below hb23 (Nat.le_refl _)).more hb23.size
  rw [← hw3]
  obtain ⟨D, hD⟩ : ∃ D, D = w3.heap.size := ⟨_, rfl⟩
  obtain ⟨Ba, hBa⟩ : ∃ Ba, Ba = w2.heap.size := ⟨_, rfl⟩
  rw [← hBa] at ta tb ⊢
  rw [← hD] at hta3 htb3
  have hBD : w.heap.size ≤ D := by have := hb12.size; have := hb23.size; omega
  have hb03 : Below w.heap.size w w3 := hb12.trans (hb23.mono hb12.size)
  have HL : Hid (∀ W, Below D w3 W → Calls Try.prog 7 #[.agg #[.int .i64 ka, .int .i64 ca, .bool xa, .int .i64 la, .slice Aa ma capa]] W fun e w' => ∃ v, e = .returned v ∧ w'.ownsRow D 23 3 v L.lv.length (accs L.lv) ∧ Below W.heap.size W w' ∧ S3 w3 D Ba (Ba + 1) ⟨ka, ca, xa, la, Aa, ma, capa⟩ ⟨kb, cb, xb, lb, Ab, mb, capb⟩ w') := Lib.hid fun W hW => by
    have hDW : D ≤ W.heap.size := by rw [hD]; exact hW.size
    refine (dleaves_any L ⟨ka, ca, xa, la, Aa, ma, capa⟩ W ((hta3.below hW (Nat.le_refl _)).more hDW) (by omega)).mono fun e w' ⟨v, h1, h2, h3⟩ => ⟨v, h1, own_more h2 hDW, h3, S3.mk ta tb hD (hW.trans (h3.mono hDW))⟩
  have HR : Hid (∀ W, Below D w3 W → Calls Try.prog 7 #[.agg #[.int .i64 kb, .int .i64 cb, .bool xb, .int .i64 lb, .slice Ab mb capb]] W fun e w' => ∃ v, e = .returned v ∧ w'.ownsRow D 23 3 v R.lv.length (accs R.lv) ∧ Below W.heap.size W w' ∧ S3 w3 D Ba (Ba + 1) ⟨ka, ca, xa, la, Aa, ma, capa⟩ ⟨kb, cb, xb, lb, Ab, mb, capb⟩ w') := Lib.hid fun W hW => by
    have hDW : D ≤ W.heap.size := by rw [hD]; exact hW.size
    refine (dleaves_any R ⟨kb, cb, xb, lb, Ab, mb, capb⟩ W ((htb3.below hW (Nat.le_refl _)).more hDW) (by omega)).mono fun e w' ⟨v, h1, h2, h3⟩ => ⟨v, h1, own_more h2 hDW, h3, S3.mk ta tb hD (hW.trans (h3.mono hDW))⟩
  have HDL : Hid (∀ W i j, Below D w3 W → Calls Try.prog 17 #[.agg #[.int .i64 ka, .int .i64 ca, .bool xa, .int .i64 la, .slice Aa ma capa], .int .i64 i, .int .i64 j] W fun e w' => e = .returned (.bool (L.bef i j)) ∧ Below W.heap.size W w') := Lib.hid fun W i j hW => by
    have hDW : D ≤ W.heap.size := by rw [hD]; exact hW.size
    exact hl ⟨ka, ca, xa, la, Aa, ma, capa⟩ W i j ((hta3.below hW (Nat.le_refl _)).more hDW) (by omega)
  have HDR : Hid (∀ W i j, Below D w3 W → Calls Try.prog 17 #[.agg #[.int .i64 kb, .int .i64 cb, .bool xb, .int .i64 lb, .slice Ab mb capb], .int .i64 i, .int .i64 j] W fun e w' => e = .returned (.bool (R.bef i j)) ∧ Below W.heap.size W w') := Lib.hid fun W i j hW => by
    have hDW : D ≤ W.heap.size := by rw [hD]; exact hW.size
    exact hr ⟨kb, cb, xb, lb, Ab, mb, capb⟩ W i j ((htb3.below hW (Nat.le_refl _)).more hDW) (by omega)
  have HS : Hid (∀ W, Below D w3 W → S3 w3 D Ba (Ba + 1) ⟨ka, ca, xa, la, Aa, ma, capa⟩ ⟨kb, cb, xb, lb, Ab, mb, capb⟩ W) := Lib.hid fun W hW => S3.mk ta tb hD hW
  have c1 := (hb23.cell (p := ⟨w.heap.size, 0, none⟩) (Nat.lt_of_lt_of_le hlt0 hs2)).trans ((hb2.cell (p := ⟨w.heap.size, 0, none⟩) hlt0).trans c0)
  have h0 := HS.out w3 (Below.refl _ _)
  obtain ⟨z0, z00, z1, z2, z3, z4, z5, z6, z7, z8, z9, z10⟩ := h0
  dsimp only at z1 z2 z3 z4 z5 z6 z7 z8 z9 z10
  have hin1 : L.lv.length + R.lv.length ≤ maxLen := by unfold maxLen; omega
  have hin2 : (L.lv.length + R.lv.length) * 24 ≤ 140737488355328 := by omega
  have HSZ := Lib.hid hs
  have HB3 := Lib.hid hb03
  have HBD := Lib.hid hBD
  have hLn : L.lv.length ≤ 1048576 := by omega
  obtain ⟨nl, hnl⟩ : ∃ nl, nl = L.lv.length := ⟨_, rfl⟩
  obtain ⟨nr, hnr⟩ : ∃ nr, nr = R.lv.length := ⟨_, rfl⟩
  rw [← hnl] at hin1 hin2 HL hLn
  rw [← hnr] at hin1 hin2 HR
  rw [← hll, ← hrl, ← hnl, ← hnr] at HBF
  have hwD : w.heap.size < D := by have := hb23.size; omega
  clear hl hr hta htb hta2 htb2 hta3 htb3 ta tb hw3 hD hBa hb23 hb12 hs2 hb2 hw1 hs1 hb1 hll hrl hsz hlv hs hb03 hnl hnr hBD
  have hwx : IntKind.i64.wrap ((nl : Int) + (nr : Int)) = (nl : Int) + (nr : Int) := by rw [IntKind.wrap_i64]; omega
  go_region_held3 (S3 w3 D Ba (Ba + 1) ⟨ka, ca, xa, la, Aa, ma, capa⟩ ⟨kb, cb, xb, lb, Ab, mb, capb⟩)
    (first
      | (go_split_ands; refine ⟨?_, ?_, ?_, ?_, ?_, ?_, ?_, ?_, ?_, ?_, ?_, ?_⟩ <;> assumption)
      | (go_split_ands; exact HS.out _ (by first | assumption | (refine Below.drew ?_; assumption))))
    (first
      | (go_at_call_of 7 (Value.int IntKind.i64 ka); go_split_ands; refine (HL.out _ (by assumption)).mono ?_; rintro e w5 ⟨v5, rfl, ho5, hb5, hS5⟩; obtain ⟨A5, cp5, rfl⟩ := own_form ho5; obtain ⟨y0, y00, y1, y2, y3, y4, y5, y6, y7, y8, y9, y10⟩ := hS5; dsimp only at y1 y2 y3 y4 y5 y6 y7 y8 y9 y10)
      | (go_at_call_of 7 (Value.int IntKind.i64 kb); go_split_ands; refine (HR.out _ (by assumption)).mono ?_; rintro e w7 ⟨v7, rfl, ho7, hb7, hS7⟩; obtain ⟨A7, cp7, rfl⟩ := own_form ho7; obtain ⟨u0, u00, u1, u2, u3, u4, u5, u6, u7, u8, u9, u10⟩ := hS7; dsimp only at u1 u2 u3 u4 u5 u6 u7 u8 u9 u10; have hc7 := (u0.cell (p := ⟨w.heap.size, 0, none⟩) hwD).trans c1)
      | fail)
  have HB4 := Lib.hid (HB3.out.trans (u0.mono HBD.out))
  have hD7 : D ≤ w7.heap.size := u00
  have HD7 := Lib.hid hD7
  have HB7 := Lib.hid u0
  have HDW := Lib.hid hwD
  clear hb5 hb7 ho5 ho7 y0 y00 y1 y2 y3 y4 y5 y6 y7 y8 y9 y10 u0 u00 hD7 z0 z00 z1 z2 z3 z4 z5 z6 z7 z8 z9 z10 c0 c1 hlt0 hwD
  by_cases q1 : i < 0
  · have e : T.bef i j = false := by rw [HBF.out, if_pos (.inl q1)]
    have HE := Lib.hid e
    clear e
    go_wp2_with fail
    go_ret
    rw [HE.out]
    exact ⟨rfl, HB4.out⟩
  by_cases q2 : j < 0
  · have e : T.bef i j = false := by rw [HBF.out, if_pos (.inr (.inl q2))]
    have HE := Lib.hid e
    clear e
    go_wp2_with fail
    go_ret
    rw [HE.out]
    exact ⟨rfl, HB4.out⟩
  by_cases q3 : (nl : Int) + (nr : Int) ≤ i
  · have e : T.bef i j = false := by rw [HBF.out, if_pos (.inr (.inr (.inl q3)))]
    have HE := Lib.hid e
    clear e
    go_wp2_with fail
    go_ret
    rw [HE.out]
    exact ⟨rfl, HB4.out⟩
  by_cases q4 : (nl : Int) + (nr : Int) ≤ j
  · have e : T.bef i j = false := by rw [HBF.out, if_pos (.inr (.inr (.inr q4)))]
    have HE := Lib.hid e
    clear e
    go_wp2_with fail
    go_ret
    rw [HE.out]
    exact ⟨rfl, HB4.out⟩
  have HN : Hid (¬ (i < 0 ∨ j < 0 ∨ (nl : Int) + nr ≤ i ∨ (nl : Int) + nr ≤ j)) := Lib.hid (by omega)
  have e1 : IntKind.i64.wrap (i - (nl : Int)) = i - (nl : Int) := by rw [IntKind.wrap_i64]; omega
  have e2 : IntKind.i64.wrap (j - (nl : Int)) = j - (nl : Int) := by rw [IntKind.wrap_i64]; omega
  by_cases q5 : i < (nl : Int)
  · by_cases q6 : j < (nl : Int)
    · have e : T.bef i j = L.bef i j := by rw [HBF.out, if_neg HN.out, if_pos ⟨q5, q6⟩]
      have HE := Lib.hid e
      clear e
      go_wp2_with (first
        | (refine (HDL.out _ _ _ HB7.out).mono ?_; rintro e w8 ⟨rfl, hb8⟩)
        | fail)
      go_ret
      rw [HE.out]
      exact ⟨rfl, HB4.out.trans (hb8.mono (by have := HD7.out; have := HBD.out; omega))⟩
    · have e : T.bef i j = (sq && decide (i < j)) := by rw [HBF.out, if_neg HN.out, if_neg (by omega), if_neg (by omega)]
      have hij : i < j := by omega
      have HE := Lib.hid e
      clear e
      cases sq with
      | false =>
        have hk : k = 3 := HK.out
        subst hk
        go_wp2_with fail
        go_ret
        rw [HE.out]
        exact ⟨rfl, HB4.out⟩
      | true =>
        have hk : k = 2 := HK.out
        subst hk
        go_wp2_with fail
        go_ret
        rw [HE.out, decide_eq_true hij]
        exact ⟨rfl, HB4.out⟩
  · by_cases q6 : j < (nl : Int)
    · have e : T.bef i j = false := by rw [HBF.out, if_neg HN.out, if_neg (by omega), if_neg (by omega), decide_eq_false (by omega), Bool.and_false]
      have hij : ¬ i < j := by omega
      have HE := Lib.hid e
      clear e
      cases sq with
      | false =>
        have hk : k = 3 := HK.out
        subst hk
        go_wp2_with fail
        go_ret
        rw [HE.out]
        exact ⟨rfl, HB4.out⟩
      | true =>
        have hk : k = 2 := HK.out
        subst hk
        go_wp2_with fail
        go_ret
        rw [HE.out]
        exact ⟨by simp, HB4.out⟩
    · have e : T.bef i j = R.bef (i - (nl : Int)) (j - (nl : Int)) := by rw [HBF.out, if_neg HN.out, if_neg (by omega), if_pos (by omega)]
      have HE := Lib.hid e
      clear e
      go_wp2_with (first
        | (refine (HDR.out _ _ _ HB7.out).mono ?_; rintro e w8 ⟨rfl, hb8⟩)
        | fail)
      go_ret
      rw [HE.out]
      exact ⟨rfl, HB4.out.trans (hb8.mono (by have := HD7.out; have := HBD.out; omega))⟩

theorem dbef_any (T : Tm) : DBeforeS T := by
  induction T with
  | nil => exact dbef_none _ (.inl rfl)
  | one a => exact dbef_none _ (.inr ⟨a, rfl⟩)
  | seq l r il ir => exact dbef_two true _ l r (.inl ⟨rfl, rfl⟩) il ir
  | par l r il ir => exact dbef_two false _ l r (.inr ⟨rfl, rfl⟩) il ir
end Go.Proofs.Ytidgibkiacbgfaa
