/-
  Contract of the reference's dmark: what each term adds to what is within it.
-/
import Derived.Test.YtafdpimkfkddaaaDoorSpBm
import Derived.Test.YtafdpimkfkddaaaDoorSpDl
import Derived.Deep.CutRange
namespace Go.Proofs.YtafdpimkfkddaaaDoor
open Go.RowKit
set_option maxRecDepth 100000

/-- the answer of Both, the kids below block m -/
theorem both_anyM (T : Tm) (h : Hd) (w : World) (m : Nat) (hm : m ≤ w.heap.size) (hT : TIn w m T h) :
    Calls Tryd.prog 20 #[.agg h.cells] w fun e w' => ∃ v, e = .returned v ∧ T.two w m v ∧ Below w.heap.size w w' := by
  obtain ⟨k, c, x, l, A, n, cap⟩ := h
  cases T with
  | nil => exact (both_no k c l x A n cap w hT.2).mono fun e w' ⟨h1, h2⟩ => ⟨_, h1, rfl, h2⟩
  | one a =>
    have h1 : k = 1 := hT.1
    exact (both_no k c l x A n cap w (.inl ⟨by omega, by omega⟩)).mono fun e w' ⟨h1, h2⟩ => ⟨_, h1, rfl, h2⟩
  | seq l' r' =>
    obtain ⟨h1, h2, b, o, hl, hr, h3, h4, h5, h6, h7, h8⟩ := hT
    dsimp only at h1 h2 h3
    subst h3
    exact (both_yes k c l x b o n cap hl hr w (.inl h1) h2 (by omega) h5 h6).mono fun e w' ⟨g1, g2⟩ => ⟨_, g1, ⟨hl, hr, rfl, h7, h8⟩, g2⟩
  | par l' r' =>
    obtain ⟨h1, h2, b, o, hl, hr, h3, h4, h5, h6, h7, h8⟩ := hT
    dsimp only at h1 h2 h3
    subst h3
    exact (both_yes k c l x b o n cap hl hr w (.inr h1) h2 (by omega) h5 h6).mono fun e w' ⟨g1, g2⟩ => ⟨_, g1, ⟨hl, hr, rfl, h7, h8⟩, g2⟩

/-- who is ahead of whom in T, whose leaves are numbered from f -/
def Tm.befF (T : Tm) (f x y : Nat) : Bool := T.bef ((x : Int) - f) ((y : Int) - f)
theorem Tm.befF_seq (L R : Tm) (f x y : Nat) : (Tm.seq L R).befF f x y = (L.befF f x y || R.befF (f + L.sz) x y || (decide (f ≤ x ∧ x < f + L.sz) && decide (f + L.sz ≤ y ∧ y < f + L.sz + R.sz))) := by
  unfold Tm.befF
  simp only [Tm.bef]
  rw [show (x : Int) - ((f + L.sz : Nat) : Int) = (x : Int) - f - L.sz by omega, show (y : Int) - ((f + L.sz : Nat) : Int) = (y : Int) - f - L.sz by omega]
  generalize L.bef ((x : Int) - f) ((y : Int) - f) = p
  generalize R.bef ((x : Int) - f - L.sz) ((y : Int) - f - L.sz) = q
  have e : (decide (0 ≤ (x : Int) - f) && decide ((x : Int) - f < (L.sz : Int)) && decide ((L.sz : Int) ≤ (y : Int) - f) && decide ((y : Int) - f < (L.sz : Int) + R.sz)) = (decide (f ≤ x ∧ x < f + L.sz) && decide (f + L.sz ≤ y ∧ y < f + L.sz + R.sz)) := by
    rw [Bool.eq_iff_iff]
    simp only [Bool.and_eq_true, decide_eq_true_eq]
    omega
  rw [e]
  generalize (decide (f ≤ x ∧ x < f + L.sz) && decide (f + L.sz ≤ y ∧ y < f + L.sz + R.sz)) = z
  cases p <;> cases q <;> cases z <;> rfl
theorem Tm.befF_par (L R : Tm) (f x y : Nat) : (Tm.par L R).befF f x y = (L.befF f x y || R.befF (f + L.sz) x y) := by
  unfold Tm.befF
  simp only [Tm.bef]
  rw [show (x : Int) - ((f + L.sz : Nat) : Int) = (x : Int) - f - L.sz by omega, show (y : Int) - ((f + L.sz : Nat) : Int) = (y : Int) - f - L.sz by omega]

theorem ret_int {a b : Int} (h : a = b) : Ending.returned (.int .i64 a) = .returned (.int .i64 b) := by rw [h]
/-- the walk stands still here -/
def Halted (p : Prop) : Prop := p
theorem Halted.mk {p : Prop} (h : Halted p) : p := h

/-- what dmark does -/
def DMarkS (T : Tm) : Prop := ∀ (h : Hd) (w : World) (f g n E : Nat) (F : Nat → Nat → Bool), TIn w E T h → E ≤ g → SM 58 4 w g n F → f + T.sz ≤ n → n ≤ 200 →
  Calls Tryd.prog 18 #[.agg h.cells, .int .i64 f, .slice (some ⟨g, 0, none⟩) n n] w fun e w' => e = .returned (.int .i64 (f + T.sz : Nat)) ∧ SM 58 4 w' g n (fun x y => F x y || T.befF f x y) ∧ FrM g n w w'

theorem dmark_none (T : Tm) (hn : T = .nil ∨ ∃ a, T = .one a) : DMarkS T := by
  intro h w f g n E F hT hE hM hs hn2
  have hg : g < w.heap.size := hM.row.lt
  have key : ∃ w1, w1 = w.alloc (.cells h.cells 26) ∧ Below w.heap.size w w1 ∧ TB 26 w1 w.heap.size h := ⟨_, rfl, (Below.refl _ _).alloc (Nat.le_refl _) _, TB.new _ _ _⟩
  obtain ⟨w1, hw1, hb1, ht1⟩ := key
  have hs1 : w.heap.size + 1 = w1.heap.size := by rw [hw1]; simp
  have hT1 := hT.below hb1 (show E ≤ w.heap.size by omega)
  have hB := both_anyM T h w1 E (by omega) hT1
  have hB2 : Calls Tryd.prog 20 #[.agg h.cells] w1 fun e w' => e = .returned (.tuple #[.agg Hd.zero.cells, .agg Hd.zero.cells, .bool false]) ∧ Below w1.heap.size w1 w' := by
    refine hB.mono fun e w' ⟨v, h1, h2, h3⟩ => ⟨?_, h3⟩
    rcases hn with rfl | ⟨a, rfl⟩
    · rw [h1, h2]
    · rw [h1, h2]
  have HD : Hid (∀ W, Below w1.heap.size w1 W → Calls Tryd.prog 17 #[.agg h.cells] W fun e w' => ∃ A c, e = .returned (.slice A T.sz c) ∧ Below W.heap.size W w') := Lib.hid fun W hW => by
    have hTW := (hT1.below hW (by omega)).more (show E ≤ W.heap.size by have := hW.size; omega)
    refine (dleaves_any T h W hTW (by omega)).mono fun e w' ⟨v, h1, h2, h3⟩ => ?_
    rw [T.lv_len] at h2
    obtain ⟨A, c, rfl⟩ := own_form2 h2
    exact ⟨A, c, h1, h3⟩
  have HBB : Hid (∀ W, Below w1.heap.size w1 W → ∀ o1 o2 : Obj, Below w1.heap.size w1 ((W.alloc o1).alloc o2)) := Lib.hid fun W hW o1 o2 => (hW.alloc hW.size o1).alloc (by have := hW.size; simp; omega) o2
  have HT1 := Lib.hid ht1
  have HC := Lib.hid hB2
  have hwx : IntKind.i64.wrap ((f : Int) + (T.sz : Int)) = ((f + T.sz : Nat) : Int) := by rw [IntKind.wrap_i64]; omega
  have hbz : ∀ x y, T.befF f x y = false := fun x y => by rcases hn with rfl | ⟨a, rfl⟩ <;> rfl
  have HBZ := Lib.hid hbz
  have HM := Lib.hid hM
  have HB1 := Lib.hid hb1
  obtain ⟨k, c, x, l, A, m, cap⟩ := h
  dsimp only [Hd.cells, Hd.zero] at hw1 HC HD HT1 ⊢
  have hlt : w.heap.size < w1.heap.size := by omega
  clear hB hB2 hT1 ht1 hbz hM hb1 hT hn
  go_enter Tryd.func18, Tryd.ntmps18
  go_wp2_with (first
    | (go_at_call 20; rw [← hw1]; refine HC.out.mono ?_; rintro e w2 ⟨rfl, hb2⟩; have ht2 : TB 26 w2 w.heap.size ⟨k, c, x, l, A, m, cap⟩ := (hb2.block _ hlt).trans HT1.out; have d0 := ht2.c0; have d1 := ht2.c1; have d2 := ht2.c2; have d3 := ht2.c3; have d4 := ht2.c4; dsimp only at d0 d1 d2 d3 d4; have hlt2 : w.heap.size < w2.heap.size := Nat.lt_of_lt_of_le hlt hb2.size)
    | (go_at_call 17; refine (HD.out _ (HBB.out _ hb2 _ _)).mono ?_; rintro e w5 ⟨A5, c5, rfl, hb5⟩)
    | fail)
  go_ret
  have hb15 : Below w.heap.size w w5 := HB1.out.trans (((HBB.out _ hb2 _ _).trans (hb5.mono (by have := hb2.size; simp; omega))).mono (by omega))
  exact ⟨rfl, (HM.out.step hb15).congr fun x y _ _ => by rw [HBZ.out, Bool.or_false], (FrM.refl _ _ _).below hb15 (by omega)⟩

set_option maxHeartbeats 2000000 in
theorem dmark_two (sq : Bool) (T L R : Tm) (hT2 : (sq = true ∧ T = .seq L R) ∨ (sq = false ∧ T = .par L R)) (hl : DMarkS L) (hr : DMarkS R) : DMarkS T := by
  intro h w f g n E F hT hE hM hs hn
  have key : ∃ w1, w1 = w.alloc (.cells h.cells 26) ∧ Below w.heap.size w w1 ∧ TB 26 w1 w.heap.size h := ⟨_, rfl, (Below.refl _ _).alloc (Nat.le_refl _) _, TB.new _ _ _⟩
  obtain ⟨w1, hw1, hb1, ht1⟩ := key
  have hs1 : w.heap.size + 1 = w1.heap.size := by rw [hw1]; simp
  have hEw : E ≤ w.heap.size := Nat.le_trans hE (Nat.le_of_lt hM.row.lt)
  have hT1 := hT.below hb1 hEw
  have hB := both_anyM T h w1 E (by omega) hT1
  have hB2 : Calls Tryd.prog 20 #[.agg h.cells] w1 fun e w' => ∃ hl hr, e = .returned (.tuple #[.agg hl.cells, .agg hr.cells, .bool true]) ∧ TIn w1 E L hl ∧ TIn w1 E R hr ∧ Below w1.heap.size w1 w' := by
    refine hB.mono fun e w' ⟨v, h1, h2, h3⟩ => ?_
    rcases hT2 with ⟨_, rfl⟩ | ⟨_, rfl⟩
    · obtain ⟨hl, hr, rfl, h5, h6⟩ := h2
      exact ⟨hl, hr, h1, h5, h6, h3⟩
    · obtain ⟨hl, hr, rfl, h5, h6⟩ := h2
      exact ⟨hl, hr, h1, h5, h6, h3⟩
  have hlv : T.lv = L.lv ++ R.lv := by rcases hT2 with ⟨_, rfl⟩ | ⟨_, rfl⟩ <;> rfl
  have hsz : T.sz = L.sz + R.sz := by rcases hT2 with ⟨_, rfl⟩ | ⟨_, rfl⟩ <;> rfl
  have hll := L.lv_len
  have hrl := R.lv_len
  obtain ⟨k, c, x, l, A, m, cap⟩ := h
  have HC := Lib.hid hB2
  dsimp only [Hd.cells] at hw1 HC hT ⊢
  have hk : k = (if sq then 2 else 3) := by
    rcases hT2 with ⟨rfl, rfl⟩ | ⟨rfl, rfl⟩
    · exact hT.1
    · exact hT.1
  have HK := Lib.hid hk
  have hbf : ∀ F : Nat → Nat → Bool, ∀ x y : Nat, F x y = F x y → True := fun _ _ _ _ => trivial
  have HT2 := Lib.hid hT2
  clear hbf hk hlv
  clear hB hB2 hT1 hT hT2
  go_enter Tryd.func18, Tryd.ntmps18
  go_wp2_with (first
    | (rw [← hw1]; refine HC.out.mono ?_; rintro e w2 ⟨ha, hb, rfl, hta, htb, hb2⟩; obtain ⟨ka, ca, xa, la, Aa, ma, capa⟩ := ha; obtain ⟨kb, cb, xb, lb, Ab, mb, capb⟩ := hb; dsimp only [Hd.cells])
    | (go_at_call 18; refine Halted.mk ?_)
    | fail)
  have hb12 : Below w.heap.size w w2 := hb1.trans (hb2.mono (by omega))
  have hs2 : w1.heap.size ≤ w2.heap.size := hb2.size
  have hta2 := hta.below hb2 (show E ≤ w1.heap.size by omega)
  have htb2 := htb.below hb2 (show E ≤ w1.heap.size by omega)
  obtain ⟨w3, hw3⟩ : ∃ w3, w3 = (w2.alloc (.cells #[.int .i64 ka, .int .i64 ca, .bool xa, .int .i64 la, .slice Aa ma capa] 26)).alloc (.cells #[.int .i64 kb, .int .i64 cb, .bool xb, .int .i64 lb, .slice Ab mb capb] 26) := ⟨_, rfl⟩
  obtain ⟨ta, tb⟩ : TB 26 w3 w2.heap.size ⟨ka, ca, xa, la, Aa, ma, capa⟩ ∧ TB 26 w3 (w2.heap.size + 1) ⟨kb, cb, xb, lb, Ab, mb, capb⟩ := by rw [hw3]; exact two_boxes (a := ⟨ka, ca, xa, la, Aa, ma, capa⟩) (b := ⟨kb, cb, xb, lb, Ab, mb, capb⟩)
  have hb23 : Below w2.heap.size w2 w3 := by rw [hw3]; exact ((Below.refl _ _).alloc (Nat.le_refl _) _).alloc (by simp) _
  have hta3 := hta2.below hb23 (show E ≤ w2.heap.size by omega)
  have htb3 := htb2.below hb23 (show E ≤ w2.heap.size by omega)
  rw [← hw3]
  obtain ⟨Ba, hBa⟩ : ∃ Ba, Ba = w2.heap.size := ⟨_, rfl⟩
  rw [← hBa] at ta tb ⊢
  have hb03 : Below w.heap.size w w3 := hb12.trans (hb23.mono hb12.size)
  have hgw : g < w.heap.size := hM.row.lt
  have hb03 : Below w.heap.size w w3 := hb12.trans (hb23.mono hb12.size)
  have hM3 := hM.step hb03
  have hFr3 : FrM g n w w3 := (FrM.refl _ _ _).below hb03 (by omega)
  have hnb : g + n < w.heap.size := by
    rcases Nat.eq_zero_or_pos n with h0 | h0
    · omega
    · have := hM.lt (show n - 1 < n by omega); omega
  have ht3 : TB 26 w3 w.heap.size ⟨k, c, x, l, A, m, cap⟩ := (hb23.block _ (Nat.lt_of_lt_of_le ht1.lt hs2)).trans ((hb2.block _ ht1.lt).trans ht1)
  have hBa2 : w.heap.size < Ba := by have := ht1.lt; omega
  have HMB : Hid (∀ W, FrM g n w3 W → TIn W E L ⟨ka, ca, xa, la, Aa, ma, capa⟩ ∧ TIn W E R ⟨kb, cb, xb, lb, Ab, mb, capb⟩ ∧ TB 26 W Ba ⟨ka, ca, xa, la, Aa, ma, capa⟩ ∧ TB 26 W (Ba + 1) ⟨kb, cb, xb, lb, Ab, mb, capb⟩ ∧ TB 26 W w.heap.size ⟨k, c, x, l, A, m, cap⟩) := Lib.hid fun W hW =>
    ⟨hta3.below hW.low hE, htb3.below hW.low hE, hW.tb ta (by omega), hW.tb tb (by omega), hW.tb ht3 hnb⟩
  have HL : Hid (∀ (W : World) (F : Nat → Nat → Bool), FrM g n w3 W → SM 58 4 W g n F → Calls Tryd.prog 18 #[.agg #[.int .i64 ka, .int .i64 ca, .bool xa, .int .i64 la, .slice Aa ma capa], .int .i64 f, .slice (some ⟨g, 0, none⟩) n n] W fun e w' => e = .returned (.int .i64 (f + L.sz : Nat)) ∧ SM 58 4 w' g n (fun x y => F x y || L.befF f x y) ∧ FrM g n w3 w') := Lib.hid fun W F hW hF =>
    (hl ⟨ka, ca, xa, la, Aa, ma, capa⟩ W f g n E F (HMB.out W hW).1 hE hF (by omega) hn).mono fun e w' ⟨h1, h2, h3⟩ => ⟨h1, h2, hW.trans h3⟩
  have HR : Hid (∀ (W : World) (F : Nat → Nat → Bool), FrM g n w3 W → SM 58 4 W g n F → Calls Tryd.prog 18 #[.agg #[.int .i64 kb, .int .i64 cb, .bool xb, .int .i64 lb, .slice Ab mb capb], .int .i64 (f + L.sz : Nat), .slice (some ⟨g, 0, none⟩) n n] W fun e w' => e = .returned (.int .i64 (f + L.sz + R.sz : Nat)) ∧ SM 58 4 w' g n (fun x y => F x y || R.befF (f + L.sz) x y) ∧ FrM g n w3 w') := Lib.hid fun W F hW hF =>
    (hr ⟨kb, cb, xb, lb, Ab, mb, capb⟩ W (f + L.sz) g n E F (HMB.out W hW).2.1 hE hF (by omega) hn).mono fun e w' ⟨h1, h2, h3⟩ => ⟨h1, h2, hW.trans h3⟩
  have HM3 := Lib.hid hM3
  have HF3 := Lib.hid hFr3
  obtain ⟨mid, hmid⟩ : ∃ mid, mid = f + L.sz := ⟨_, rfl⟩
  obtain ⟨fin, hfin⟩ : ∃ fin, fin = mid + R.sz := ⟨_, rfl⟩
  rw [← hmid] at HL HR
  rw [← hfin] at HR
  have hfm : f ≤ mid := by omega
  have hmf : mid ≤ fin := by omega
  have hfn : fin ≤ n := by omega
  have hend : f + T.sz = fin := by omega
  have HEND := Lib.hid hend
  have HMID := Lib.hid hmid
  have HFIN := Lib.hid hfin
  have HEQ : Hid (∀ x y, T.befF f x y = (L.befF f x y || R.befF mid x y || (sq && (decide (f ≤ x ∧ x < mid) && decide (mid ≤ y ∧ y < fin))))) := Lib.hid fun x y => by
    rcases HT2.out with ⟨rfl, rfl⟩ | ⟨rfl, rfl⟩
    · rw [hfin, hmid, Tm.befF_seq, Bool.true_and]
    · rw [hmid, Tm.befF_par, Bool.false_and, Bool.or_false]
  obtain ⟨z0, z1, z2, z3, z4⟩ := ta.at
  obtain ⟨hz5, hz6, hz7, hz8, hz9⟩ := tb.at
  have y0 := ta.c0
  have y1 := ta.c1
  have y2 := ta.c2
  have y3 := ta.c3
  have y4 := ta.c4
  dsimp only at y0 y1 y2 y3 y4
  have HW3 : Hid (FrM g n w3 w3) := Lib.hid (FrM.refl _ _ _)
  clear hl hr hta htb hta2 htb2 hta3 htb3 ta tb hw3 hb23 hb12 hs2 hb2 hw1 hs1 hb1 hll hrl hsz hs hM hM3 hFr3 hb03 ht3 ht1 hmid hfin hend hgw hBa hBa2 z0 z1 z2 z3 z4 hz5 hz6 hz7 hz8 hz9
  unfold Halted
  refine (HL.out _ F HW3.out HM3.out).mono ?_
  rintro e w5 ⟨rfl, hS5, hf5⟩
  obtain ⟨_, _, _, tb5, _⟩ := HMB.out w5 hf5
  have x0 := tb5.c0
  have x1 := tb5.c1
  have x2 := tb5.c2
  have x3 := tb5.c3
  have x4 := tb5.c4
  dsimp only at x0 x1 x2 x3 x4
  go_wp2_with (first
    | (go_at_call 18; refine (HR.out _ _ hf5 hS5).mono ?_; rintro e w6 ⟨rfl, hS6, hf6⟩; have k6 := (HMB.out w6 hf6).2.2.2.2.c0; dsimp only at k6)
    | fail)
  have HS6 := Lib.hid hS6
  have HF6 := Lib.hid hf6
  have hmn : mid ≤ 200 := by omega
  have hfn2 : fin ≤ 200 := by omega
  clear hS5 hf5 hS6 hf6 x0 x1 x2 x3 x4 y0 y1 y2 y3 y4 k6
  cases sq with
  | false =>
    have hk : k = 3 := HK.out
    subst hk
    have e12 : ∀ x y, ((F x y || L.befF f x y) || R.befF mid x y) = (F x y || T.befF f x y) := fun x y => by rw [HEQ.out, Bool.false_and, Bool.or_false, Bool.or_assoc]
    have HE12 := Lib.hid e12
    clear e12
    go_loopw [12] (fun i wr => i = .int .i64 f ∧ Hid (SM 58 4 wr g n (fun x y => (F x y || L.befF f x y) || R.befF mid x y)) ∧ Hid (FrM g n w3 wr)) (fun _ _ => 0)
    case atStart => exact ⟨rfl, HS6, HF6⟩
    case round =>
      obtain ⟨rfl, hS7, hf7⟩ := hrel
      have k7 := (HMB.out wr hf7.out).2.2.2.2.c0
      dsimp only at k7
      by_cases hlt : (f : Int) < (mid : Int)
      · go_wp2_with fail
        go_ret
        exact ⟨ret_int (by have := HEND.out; omega), hS7.out.congr fun x y _ _ => HE12.out x y, HF3.out.trans hf7.out⟩
      · go_wp2_with fail
        go_ret
        exact ⟨ret_int (by have := HEND.out; omega), hS7.out.congr fun x y _ _ => HE12.out x y, HF3.out.trans hf7.out⟩
  | true =>
    have hk : k = 2 := HK.out
    subst hk
    obtain ⟨F6, hF6⟩ : ∃ F6, F6 = fun x y => (F x y || L.befF f x y) || R.befF mid x y := ⟨_, rfl⟩
    have e12 : ∀ x y, (F6 x y || (decide (f ≤ x ∧ x < mid) && decide (mid ≤ y ∧ y < fin))) = (F x y || T.befF f x y) := fun x y => by
      rw [HEQ.out, hF6, Bool.true_and]
      dsimp only
      generalize F x y = p
      generalize L.befF f x y = q
      generalize R.befF mid x y = r
      generalize (decide (f ≤ x ∧ x < mid) && decide (mid ≤ y ∧ y < fin)) = z
      cases p <;> cases q <;> cases r <;> cases z <;> rfl
    have HE12 := Lib.hid e12
    rw [← hF6] at HS6
    clear e12 hF6
    have HS7 : Hid (SM 58 4 w6 g n (fun x y => F6 x y || (decide (f ≤ x ∧ x < f) && decide (mid ≤ y ∧ y < fin)))) := Lib.hid (HS6.out.congr fun x y _ _ => by rw [decide_eq_false (show ¬ (f ≤ x ∧ x < f) by omega), Bool.false_and, Bool.or_false])
    go_loopw [12] (fun i wr => ∃ a : Nat, f ≤ a ∧ a ≤ mid ∧ i = .int .i64 a ∧ Hid (SM 58 4 wr g n (fun x y => F6 x y || (decide (f ≤ x ∧ x < a) && decide (mid ≤ y ∧ y < fin)))) ∧ Hid (FrM g n w3 wr)) (fun i _ => mid - (intOf i).toNat)
    case atStart => exact ⟨f, Nat.le_refl _, hfm, rfl, HS7, HF6⟩
    case round =>
      obtain ⟨a, ha0, ha1, rfl, hS8, hf8⟩ := hrel
      have k7 := (HMB.out wr hf8.out).2.2.2.2.c0
      dsimp only at k7
      by_cases hlt : a < mid
      · have n1 : (a : Int) < (mid : Int) := by omega
        have HS9 : Hid (SM 58 4 wr g n (fun x y => (F6 x y || (decide (f ≤ x ∧ x < a) && decide (mid ≤ y ∧ y < fin))) || (decide (x = a) && decide (mid ≤ y ∧ y < mid)))) := Lib.hid (hS8.out.congr fun x y _ _ => by rw [decide_eq_false (show ¬ (mid ≤ y ∧ y < mid) by omega), Bool.and_false, Bool.or_false])
        have HF8 := Lib.hid hf8.out
        clear hS8 hf8
        go_wp2_with fail
        clear k7
        go_loopw [13] (fun i wr => ∃ b : Nat, mid ≤ b ∧ b ≤ fin ∧ i = .int .i64 b ∧ Hid (SM 58 4 wr g n (fun x y => (F6 x y || (decide (f ≤ x ∧ x < a) && decide (mid ≤ y ∧ y < fin))) || (decide (x = a) && decide (mid ≤ y ∧ y < b)))) ∧ Hid (FrM g n w3 wr)) (fun i _ => fin - (intOf i).toNat)
        case atStart => exact ⟨mid, Nat.le_refl _, hmf, rfl, HS9, HF8⟩
        case round =>
          obtain ⟨b, hb0, hb1, rfl, hS10, hf10⟩ := hrel
          by_cases hlt2 : b < fin
          · have n2 : (b : Int) < (fin : Int) := by omega
            have n3 : (0 : Int) ≤ (a : Int) := by omega
            have n4 : (a : Int) < (n : Int) := by omega
            have n5 : (0 : Int) ≤ (b : Int) := by omega
            have n6 : (b : Int) < (n : Int) := by omega
            have c1 := hS10.out.c1 (show a < n by omega)
            have c2 := hS10.out.c2 (show a < n by omega) (show b < n by omega)
            have cf := hS10.out.f2 (show a < n by omega) b
            have HS11 : Hid (SM 58 4 (wr.setCell ⟨g + 1 + a, b, none⟩ (.bool true)) g n (fun x y => (F6 x y || (decide (f ≤ x ∧ x < a) && decide (mid ≤ y ∧ y < fin))) || (decide (x = a) && decide (mid ≤ y ∧ y < b + 1)))) := Lib.hid ((hS10.out.set a b true).congr fun x y _ _ => by
              by_cases e : x = a ∧ y = b
              · obtain ⟨rfl, rfl⟩ := e
                rw [if_pos ⟨rfl, rfl⟩, decide_eq_true rfl, decide_eq_true (show mid ≤ y ∧ y < y + 1 by omega)]
                simp
              · rw [if_neg e]
                congr 1
                rw [Bool.eq_iff_iff]
                simp only [Bool.and_eq_true, decide_eq_true_eq]
                omega)
            have HF11 := Lib.hid (hf10.out.set (show a < n by omega) (j := b) (.bool true))
            clear hS10 hf10
            go_wp2_with fail
            go_roundw
            case rel => exact ⟨b + 1, by omega, by omega, by go_num, HS11, HF11⟩
            case measure => simp [intOf]; omega
          · obtain rfl : b = fin := by omega
            have HS12 : Hid (SM 58 4 wr g n (fun x y => F6 x y || (decide (f ≤ x ∧ x < a + 1) && decide (mid ≤ y ∧ y < b)))) := Lib.hid (hS10.out.congr fun x y _ _ => by
              rw [Bool.or_assoc]
              congr 1
              rw [Bool.eq_iff_iff]
              simp only [Bool.or_eq_true, Bool.and_eq_true, decide_eq_true_eq]
              omega)
            have HF12 := Lib.hid hf10.out
            clear hS10 hf10
            go_wp2_with fail
            go_roundw
            case rel => exact ⟨a + 1, by omega, by omega, by go_num, HS12, HF12⟩
            case measure => simp [intOf]; omega
      · obtain rfl : a = mid := by omega
        go_wp2_with fail
        go_ret
        exact ⟨ret_int (by have := HEND.out; omega), hS8.out.congr fun x y _ _ => HE12.out x y, HF3.out.trans hf8.out⟩

theorem dmark_any (T : Tm) : DMarkS T := by
  induction T with
  | nil => exact dmark_none _ (.inl rfl)
  | one a => exact dmark_none _ (.inr ⟨a, rfl⟩)
  | seq l r il ir => exact dmark_two true _ l r (.inl ⟨rfl, rfl⟩) il ir
  | par l r il ir => exact dmark_two false _ l r (.inr ⟨rfl, rfl⟩) il ir
end Go.Proofs.YtafdpimkfkddaaaDoor
