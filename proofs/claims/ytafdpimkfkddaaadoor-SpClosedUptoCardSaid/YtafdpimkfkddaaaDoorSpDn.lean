/-
  Contract of the reference's DCount.
-/
import Derived.Test.YtafdpimkfkddaaaDoorSpCt
import Derived.Test.YtafdpimkfkddaaaDoorSpDl
import Derived.Test.YtafdpimkfkddaaaDoorSpEd
namespace Go.Proofs.YtafdpimkfkddaaaDoor
open Go.RowKit
set_option maxRecDepth 100000

theorem dc_mul (a b : Nat) : Ending.returned (.int .u64 (IntKind.u64.wrap (((a % 18446744073709551616 : Nat) : Int) * ((b % 18446744073709551616 : Nat) : Int)))) = .returned (.int .u64 ((a * b % 18446744073709551616 : Nat) : Int)) := by
  rw [u64_wrap, hM64, ← Int.natCast_mul, ← Int.natCast_emod, ← Nat.mul_mod]
theorem dc_mul3 (a b c : Nat) : Ending.returned (.int .u64 (IntKind.u64.wrap (IntKind.u64.wrap (((a % 18446744073709551616 : Nat) : Int) * ((b % 18446744073709551616 : Nat) : Int)) * ((c % 18446744073709551616 : Nat) : Int)))) = .returned (.int .u64 ((a * b * c % 18446744073709551616 : Nat) : Int)) := by
  rw [u64_wrap, u64_wrap, hM64, ← Int.natCast_mul, ← Int.natCast_emod, ← Int.natCast_mul, ← Int.natCast_emod, ← Nat.mul_mod, Nat.mul_mod (a % 18446744073709551616 * (b % 18446744073709551616)), ← Nat.mul_mod a b, ← Nat.mul_mod]

/-- what DCount answers -/
def DCountS (T : Tm) : Prop := ∀ (h : Hd) (w : World), TIn w w.heap.size T h → T.sz ≤ 1048576 → Tab w →
  Calls Tryd.prog 10 #[.agg h.cells] w fun e w' => e = .returned (.int .u64 ((T.cnt % 18446744073709551616 : Nat) : Int)) ∧ Below w.heap.size w w'

theorem dcount_none (T : Tm) (hn : T = .nil ∨ ∃ a, T = .one a) : DCountS T := by
  intro h w hT hs _
  have key : ∃ w1, w1 = w.alloc (.cells h.cells 26) ∧ Below w.heap.size w w1 ∧ TB 26 w1 w.heap.size h := ⟨_, rfl, (Below.refl _ _).alloc (Nat.le_refl _) _, TB.new _ _ _⟩
  obtain ⟨w1, hw1, hb1, ht1⟩ := key
  have hs1 : w.heap.size + 1 = w1.heap.size := by rw [hw1]; simp
  have hT1 := (hT.below hb1 (Nat.le_refl _)).more (show w.heap.size ≤ w1.heap.size by omega)
  have hB := both_any T h w1 hT1
  have hB2 : Calls Tryd.prog 20 #[.agg h.cells] w1 fun e w' => e = .returned (.tuple #[.agg Hd.zero.cells, .agg Hd.zero.cells, .bool false]) ∧ Below w1.heap.size w1 w' := by
    refine hB.mono fun e w' ⟨v, h1, h2, h3⟩ => ⟨?_, h3⟩
    rcases hn with rfl | ⟨a, rfl⟩
    · rw [h1, h2]
    · rw [h1, h2]
  have hcn : T.cnt % 18446744073709551616 = 1 := by rcases hn with rfl | ⟨a, rfl⟩ <;> rfl
  rw [hcn]
  obtain ⟨k, c, x, l, A, m, cap⟩ := h
  have HC := Lib.hid hB2
  dsimp only [Hd.cells, Hd.zero] at hw1 HC ⊢
  have hlt : w.heap.size < w1.heap.size := by omega
  clear hB hB2 hT1 ht1
  go_enter Tryd.func10, Tryd.ntmps10
  go_wp2_with (first
    | (rw [← hw1]; refine HC.out.mono ?_; rintro e w2 ⟨rfl, hb2⟩; have hlt2 : w.heap.size < w2.heap.size := Nat.lt_of_lt_of_le hlt hb2.size)
    | fail)
  go_ret
  exact ⟨rfl, ((hb1.trans (hb2.mono (by omega))).alloc (by omega) _).alloc (by simp; omega) _⟩

set_option maxHeartbeats 2000000 in
theorem dcount_two (sq : Bool) (T L R : Tm) (hT2 : (sq = true ∧ T = .seq L R) ∨ (sq = false ∧ T = .par L R)) (hl : DCountS L) (hr : DCountS R) : DCountS T := by
  intro h w hT hs hTab
  have key : ∃ w1, w1 = w.alloc (.cells h.cells 26) ∧ Below w.heap.size w w1 ∧ TB 26 w1 w.heap.size h := ⟨_, rfl, (Below.refl _ _).alloc (Nat.le_refl _) _, TB.new _ _ _⟩
  obtain ⟨w1, hw1, hb1, ht1⟩ := key
  have hs1 : w.heap.size + 1 = w1.heap.size := by rw [hw1]; simp
  have hT1 := (hT.below hb1 (Nat.le_refl _)).more (show w.heap.size ≤ w1.heap.size by omega)
  have hB := both_any T h w1 hT1
  have hB2 : Calls Tryd.prog 20 #[.agg h.cells] w1 fun e w' => ∃ hl hr, e = .returned (.tuple #[.agg hl.cells, .agg hr.cells, .bool true]) ∧ TIn w1 w1.heap.size L hl ∧ TIn w1 w1.heap.size R hr ∧ Below w1.heap.size w1 w' := by
    refine hB.mono fun e w' ⟨v, h1, h2, h3⟩ => ?_
    rcases hT2 with ⟨_, rfl⟩ | ⟨_, rfl⟩
    · obtain ⟨hl, hr, rfl, h5, h6⟩ := h2
      exact ⟨hl, hr, h1, h5, h6, h3⟩
    · obtain ⟨hl, hr, rfl, h5, h6⟩ := h2
      exact ⟨hl, hr, h1, h5, h6, h3⟩
  have hlv : T.lv = L.lv ++ R.lv := by rcases hT2 with ⟨_, rfl⟩ | ⟨_, rfl⟩ <;> rfl
  have hsz : T.sz = L.sz + R.sz := by rcases hT2 with ⟨_, rfl⟩ | ⟨_, rfl⟩ <;> rfl
  have hll := L.lv_len
  have hrl := R.lv_len
  obtain ⟨k, c, x, l, A, m, cap⟩ := h
  have HC := Lib.hid hB2
  dsimp only [Hd.cells] at hw1 HC hT ⊢
  have hk : k = (if sq then 2 else 3) := by
    rcases hT2 with ⟨rfl, rfl⟩ | ⟨rfl, rfl⟩
    · exact hT.1
    · exact hT.1
  have hcn : T.cnt = if sq then L.cnt * R.cnt else L.cnt * R.cnt * ch L.sz R.sz := by
    rcases hT2 with ⟨rfl, rfl⟩ | ⟨rfl, rfl⟩ <;> rfl
  have HCN := Lib.hid hcn
  clear hcn
  have HK := Lib.hid hk
  have c0 := ht1.c0
  clear hk
  dsimp only at c0
  have hlt0 : w.heap.size < w1.heap.size := ht1.lt
  clear hB hB2 hT1 ht1 hT hT2
  go_enter Tryd.func10, Tryd.ntmps10
  go_wp2_with (first
    | (rw [← hw1]; refine HC.out.mono ?_; rintro e w2 ⟨ha, hb, rfl, hta, htb, hb2⟩; obtain ⟨ka, ca, xa, la, Aa, ma, capa⟩ := ha; obtain ⟨kb, cb, xb, lb, Ab, mb, capb⟩ := hb; dsimp only [Hd.cells])
    | fail)
  have hb12 : Below w.heap.size w w2 := hb1.trans (hb2.mono (by omega))
  have hs2 : w1.heap.size ≤ w2.heap.size := hb2.size
  have hta2 := (hta.below hb2 (Nat.le_refl _)).more hs2
  have htb2 := (htb.below hb2 (Nat.le_refl _)).more hs2
  obtain ⟨w3, hw3⟩ : ∃ w3, w3 = (w2.alloc (.cells #[.int .i64 ka, .int .i64 ca, .bool xa, .int .i64 la, .slice Aa ma capa] 26)).alloc (.cells #[.int .i64 kb, .int .i64 cb, .bool xb, .int .i64 lb, .slice Ab mb capb] 26) := ⟨_, rfl⟩
  obtain ⟨ta, tb⟩ : TB 26 w3 w2.heap.size ⟨ka, ca, xa, la, Aa, ma, capa⟩ ∧ TB 26 w3 (w2.heap.size + 1) ⟨kb, cb, xb, lb, Ab, mb, capb⟩ := by rw [hw3]; exact two_boxes (a := ⟨ka, ca, xa, la, Aa, ma, capa⟩) (b := ⟨kb, cb, xb, lb, Ab, mb, capb⟩)
  have hb23 : Below w2.heap.size w2 w3 := by rw [hw3]; exact ((Below.refl _ _).alloc (Nat.le_refl _) _).alloc (by simp) _
  have hta3 := (hta2.below hb23 (Nat.le_refl _)).more hb23.size
  have htb3 := (htb2.below hb23 (Nat.le_refl _)).more hb23.size
  rw [← hw3]
  obtain ⟨D, hD⟩ : ∃ D, D = w3.heap.size := ⟨_, rfl⟩
  obtain ⟨Ba, hBa⟩ : ∃ Ba, Ba = w2.heap.size := ⟨_, rfl⟩
  rw [← hBa] at ta tb ⊢
  rw [← hD] at hta3 htb3
  have hBD : w.heap.size ≤ D := by have := hb12.size; have := hb23.size; omega
  have hb03 : Below w.heap.size w w3 := hb12.trans (hb23.mono hb12.size)
  have HL : Hid (∀ W, Below D w3 W → Calls Tryd.prog 17 #[.agg #[.int .i64 ka, .int .i64 ca, .bool xa, .int .i64 la, .slice Aa ma capa]] W fun e w' => ∃ v, e = .returned v ∧ w'.ownsRow D 23 3 v L.lv.length (accs L.lv) ∧ Below W.heap.size W w' ∧ S3 w3 D Ba (Ba + 1) ⟨ka, ca, xa, la, Aa, ma, capa⟩ ⟨kb, cb, xb, lb, Ab, mb, capb⟩ w') := Lib.hid fun W hW => by
    have hDW : D ≤ W.heap.size := by rw [hD]; exact hW.size
    refine (dleaves_any L ⟨ka, ca, xa, la, Aa, ma, capa⟩ W ((hta3.below hW (Nat.le_refl _)).more hDW) (by omega)).mono fun e w' ⟨v, h1, h2, h3⟩ => ⟨v, h1, own_more h2 hDW, h3, S3.mk ta tb hD (hW.trans (h3.mono hDW))⟩
  have HR : Hid (∀ W, Below D w3 W → Calls Tryd.prog 17 #[.agg #[.int .i64 kb, .int .i64 cb, .bool xb, .int .i64 lb, .slice Ab mb capb]] W fun e w' => ∃ v, e = .returned v ∧ w'.ownsRow D 23 3 v R.lv.length (accs R.lv) ∧ Below W.heap.size W w' ∧ S3 w3 D Ba (Ba + 1) ⟨ka, ca, xa, la, Aa, ma, capa⟩ ⟨kb, cb, xb, lb, Ab, mb, capb⟩ w') := Lib.hid fun W hW => by
    have hDW : D ≤ W.heap.size := by rw [hD]; exact hW.size
    refine (dleaves_any R ⟨kb, cb, xb, lb, Ab, mb, capb⟩ W ((htb3.below hW (Nat.le_refl _)).more hDW) (by omega)).mono fun e w' ⟨v, h1, h2, h3⟩ => ⟨v, h1, own_more h2 hDW, h3, S3.mk ta tb hD (hW.trans (h3.mono hDW))⟩
  have hTab3 : Tab w3 := hTab.step (hb12.trans (hb23.mono hb12.size))
  have htD : 0 < D := by have := hTab3.pos; omega
  have HTW : Hid (∀ W, Below D w3 W → Tab W) := Lib.hid fun W hW => hTab3.below htD hW
  have HDL : Hid (∀ W, Below D w3 W → Calls Tryd.prog 10 #[.agg #[.int .i64 ka, .int .i64 ca, .bool xa, .int .i64 la, .slice Aa ma capa]] W fun e w' => e = .returned (.int .u64 ((L.cnt % 18446744073709551616 : Nat) : Int)) ∧ S3 w3 D Ba (Ba + 1) ⟨ka, ca, xa, la, Aa, ma, capa⟩ ⟨kb, cb, xb, lb, Ab, mb, capb⟩ w') := Lib.hid fun W hW => by
    have hDW : D ≤ W.heap.size := by rw [hD]; exact hW.size
    exact (hl ⟨ka, ca, xa, la, Aa, ma, capa⟩ W ((hta3.below hW (Nat.le_refl _)).more hDW) (by omega) (HTW.out W hW)).mono fun e w' ⟨h1, h3⟩ => ⟨h1, S3.mk ta tb hD (hW.trans (h3.mono hDW))⟩
  have HDR : Hid (∀ W, Below D w3 W → Calls Tryd.prog 10 #[.agg #[.int .i64 kb, .int .i64 cb, .bool xb, .int .i64 lb, .slice Ab mb capb]] W fun e w' => e = .returned (.int .u64 ((R.cnt % 18446744073709551616 : Nat) : Int)) ∧ S3 w3 D Ba (Ba + 1) ⟨ka, ca, xa, la, Aa, ma, capa⟩ ⟨kb, cb, xb, lb, Ab, mb, capb⟩ w') := Lib.hid fun W hW => by
    have hDW : D ≤ W.heap.size := by rw [hD]; exact hW.size
    exact (hr ⟨kb, cb, xb, lb, Ab, mb, capb⟩ W ((htb3.below hW (Nat.le_refl _)).more hDW) (by omega) (HTW.out W hW)).mono fun e w' ⟨h1, h3⟩ => ⟨h1, S3.mk ta tb hD (hW.trans (h3.mono hDW))⟩
  have HDC : Hid (∀ W, Below D w3 W → Calls Tryd.prog 21 #[.int .i64 L.sz, .int .i64 R.sz] W fun e w' => e = .returned (.int .u64 ((ch L.sz R.sz % 18446744073709551616 : Nat) : Int)) ∧ S3 w3 D Ba (Ba + 1) ⟨ka, ca, xa, la, Aa, ma, capa⟩ ⟨kb, cb, xb, lb, Ab, mb, capb⟩ w') := Lib.hid fun W hW => by
    have hDW : D ≤ W.heap.size := by rw [hD]; exact hW.size
    exact (dchoose_any L.sz R.sz W (by omega) (HTW.out W hW)).mono fun e w' ⟨h1, h3⟩ => ⟨h1, S3.mk ta tb hD (hW.trans (h3.mono hDW))⟩
  have HS : Hid (∀ W, Below D w3 W → S3 w3 D Ba (Ba + 1) ⟨ka, ca, xa, la, Aa, ma, capa⟩ ⟨kb, cb, xb, lb, Ab, mb, capb⟩ W) := Lib.hid fun W hW => S3.mk ta tb hD hW
  have c1 := (hb23.cell (p := ⟨w.heap.size, 0, none⟩) (Nat.lt_of_lt_of_le hlt0 hs2)).trans ((hb2.cell (p := ⟨w.heap.size, 0, none⟩) hlt0).trans c0)
  have h0 := HS.out w3 (Below.refl _ _)
  obtain ⟨z0, z00, z1, z2, z3, z4, z5, z6, z7, z8, z9, z10⟩ := h0
  dsimp only at z1 z2 z3 z4 z5 z6 z7 z8 z9 z10
  have HB3 := Lib.hid hb03
  have HBD := Lib.hid hBD
  have hwD : w.heap.size < D := by have := hb23.size; omega
  rw [hll] at HL
  rw [hrl] at HR
  have HWD := Lib.hid hwD
  obtain ⟨nl, hnl⟩ : ∃ nl, nl = L.sz := ⟨_, rfl⟩
  obtain ⟨nr, hnr⟩ : ∃ nr, nr = R.sz := ⟨_, rfl⟩
  rw [← hnl] at HL HDC HCN
  rw [← hnr] at HR HDC HCN
  have HC1 := Lib.hid c1
  obtain ⟨cl, hcl⟩ : ∃ cl, cl = L.cnt % 18446744073709551616 := ⟨_, rfl⟩
  obtain ⟨cr, hcr⟩ : ∃ cr, cr = R.cnt % 18446744073709551616 := ⟨_, rfl⟩
  obtain ⟨cc, hcc⟩ : ∃ cc, cc = ch nl nr % 18446744073709551616 := ⟨_, rfl⟩
  rw [← hcl] at HDL
  rw [← hcr] at HDR
  rw [← hcc] at HDC
  have HCL := Lib.hid hcl
  have HCR := Lib.hid hcr
  have HCC := Lib.hid hcc
  clear hl hr hta htb hta2 htb2 hta3 htb3 ta tb hw3 hD hBa hb23 hb12 hs2 hb2 hw1 hs1 hb1 hll hrl hsz hs hb03 hnl hnr hBD hlv hTab hTab3 htD hcl hcr hcc hwD c0 c1
  go_region_held3 (S3 w3 D Ba (Ba + 1) ⟨ka, ca, xa, la, Aa, ma, capa⟩ ⟨kb, cb, xb, lb, Ab, mb, capb⟩)
    (first
      | (go_split_ands; refine ⟨?_, ?_, ?_, ?_, ?_, ?_, ?_, ?_, ?_, ?_, ?_, ?_⟩ <;> assumption)
      | (go_split_ands; exact HS.out _ (by first | assumption | (refine Below.drew ?_; assumption))))
    (first
      | (go_at_call_of 10 (Value.int IntKind.i64 ka); go_split_ands; refine (HDL.out _ (by assumption)).mono ?_; rintro e w5 ⟨rfl, hS5⟩; obtain ⟨y0, y00, y1, y2, y3, y4, y5, y6, y7, y8, y9, y10⟩ := hS5; dsimp only at y1 y2 y3 y4 y5 y6 y7 y8 y9 y10)
      | (go_at_call_of 10 (Value.int IntKind.i64 kb); go_split_ands; refine (HDR.out _ (by assumption)).mono ?_; rintro e w7 ⟨rfl, hS7⟩; obtain ⟨u0, u00, u1, u2, u3, u4, u5, u6, u7, u8, u9, u10⟩ := hS7; dsimp only at u1 u2 u3 u4 u5 u6 u7 u8 u9 u10)
      | fail)
  have hc7 := (u0.cell (p := ⟨w.heap.size, 0, none⟩) HWD.out).trans HC1.out
  clear y0 y00 y1 y2 y3 y4 y5 y6 y7 y8 y9 y10 z0 z00 z1 z2 z3 z4 z5 z6 z7 z8 z9 z10
  cases sq with
  | true =>
    have hk : k = 2 := HK.out
    subst hk
    go_wp2_with fail
    go_ret
    refine ⟨?_, HB3.out.trans (u0.mono HBD.out)⟩
    rw [HCN.out, if_pos (by trivial), HCL.out, HCR.out]
    exact dc_mul _ _
  | false =>
    have hk : k = 3 := HK.out
    subst hk
    go_wp2_with fail
    go_region_held3 (S3 w3 D Ba (Ba + 1) ⟨ka, ca, xa, la, Aa, ma, capa⟩ ⟨kb, cb, xb, lb, Ab, mb, capb⟩)
      (first
        | (go_split_ands; refine ⟨?_, ?_, ?_, ?_, ?_, ?_, ?_, ?_, ?_, ?_, ?_, ?_⟩ <;> assumption)
        | (go_split_ands; exact HS.out _ (by first | assumption | (refine Below.drew ?_; assumption))))
      (first
        | (go_at_call_of 17 (Value.int IntKind.i64 ka); go_split_ands; refine (HL.out _ (by assumption)).mono ?_; rintro e w5 ⟨v5, rfl, ho5, hb5, hS5⟩; obtain ⟨A5, cp5, rfl⟩ := own_form2 ho5; obtain ⟨y0, y00, y1, y2, y3, y4, y5, y6, y7, y8, y9, y10⟩ := hS5; dsimp only at y1 y2 y3 y4 y5 y6 y7 y8 y9 y10)
        | (go_at_call_of 17 (Value.int IntKind.i64 kb); go_split_ands; refine (HR.out _ (by assumption)).mono ?_; rintro e w8 ⟨v8, rfl, ho8, hb8, hS8⟩; obtain ⟨A8, cp8, rfl⟩ := own_form2 ho8; obtain ⟨x0, x00, x1, x2, x3, x4, x5, x6, x7, x8, x9, x10⟩ := hS8; dsimp only at x1 x2 x3 x4 x5 x6 x7 x8 x9 x10)
        | (go_at_call 21; go_split_ands; refine (HDC.out _ (by assumption)).mono ?_; rintro e w9 ⟨rfl, hS9⟩; obtain ⟨t0, t00, t1, t2, t3, t4, t5, t6, t7, t8, t9, t10⟩ := hS9; dsimp only at t1 t2 t3 t4 t5 t6 t7 t8 t9 t10)
        | fail)
    go_wp2_with fail
    go_ret
    refine ⟨?_, HB3.out.trans (t0.mono HBD.out)⟩
    rw [HCN.out, if_neg (by decide), HCL.out, HCR.out, HCC.out]
    exact dc_mul3 _ _ _

theorem dcount_any (T : Tm) : DCountS T := by
  induction T with
  | nil => exact dcount_none _ (.inl rfl)
  | one a => exact dcount_none _ (.inr ⟨a, rfl⟩)
  | seq l r il ir => exact dcount_two true _ l r (.inl ⟨rfl, rfl⟩) il ir
  | par l r il ir => exact dcount_two false _ l r (.inr ⟨rfl, rfl⟩) il ir
end Go.Proofs.YtafdpimkfkddaaaDoor
