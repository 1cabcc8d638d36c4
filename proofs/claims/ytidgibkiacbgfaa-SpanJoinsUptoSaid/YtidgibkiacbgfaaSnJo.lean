/-
  The law SpanJoins, as a walk: it answers true and leaves the memory of before as it was.
-/
import Derived.Test.YtidgibkiacbgfaaSnAl
namespace Go.Proofs.Ytidgibkiacbgfaa
open Go.RowKit
set_option maxRecDepth 100000

/-- the header of a composition whose kids lie in block b -/
def hSq (k : Int) (b : Nat) : Hd := ⟨k, 0, false, 0, some ⟨b, 0, none⟩, 2, 2⟩

theorem blk_al {w : World} {B : Nat} {o o' : Obj} (h : w.heap[B]? = some o) : (w.alloc o').heap[B]? = some o := by
  have hlt : B < w.heap.size := (Array.getElem?_eq_some_iff.1 h).1
  exact ((World.grownBy_alloc w o' none).block B hlt (by simp)).trans h

/-- a composition of a and b in a box of its own -/
theorem one_in (k : Int) (T : Tm) (w2 : World) (ha hb : Hd) (A B : Tm) (Ba Bb : Nat) (hk : (k = 2 ∧ T = .seq A B) ∨ (k = 3 ∧ T = .par A B)) (hA : TIn w2 w2.heap.size A ha) (hB : TIn w2 w2.heap.size B hb) (ta : TB 26 w2 Ba ha) (tb : TB 26 w2 Bb hb) :
    ∃ W, W = (w2.alloc (.cells (two5 ha hb) 26)).alloc (.cells (hSq k w2.heap.size).cells 26) ∧
      Below w2.heap.size w2 W ∧ W.heap.size = w2.heap.size + 2 ∧ TB 26 W Ba ha ∧ TB 26 W Bb hb ∧ TB 26 W (w2.heap.size + 1) (hSq k w2.heap.size) ∧
      TIn W W.heap.size A ha ∧ TIn W W.heap.size B hb ∧ TIn W W.heap.size T (hSq k w2.heap.size) := by
  obtain ⟨W, hW⟩ : ∃ W, W = (w2.alloc (.cells (two5 ha hb) 26)).alloc (.cells (hSq k w2.heap.size).cells 26) := ⟨_, rfl⟩
  have hbl : Below w2.heap.size w2 W := by
    rw [hW]
    exact ((Below.refl _ _).alloc (Nat.le_refl _) _).alloc (by simp) _
  have hsz : W.heap.size = w2.heap.size + 2 := by rw [hW]; simp
  have e0 : W.heap[w2.heap.size]? = some (.cells (two5 ha hb) 26 (0, 0)) := by
    rw [hW]; exact blk_al (World.alloc_heap_new w2 _)
  have e1 : W.heap[w2.heap.size + 1]? = some (.cells (hSq k w2.heap.size).cells 26 (0, 0)) := by
    rw [hW]
    have := World.alloc_heap_new (w2.alloc (.cells (two5 ha hb) 26)) (.cells (hSq k w2.heap.size).cells 26)
    rw [World.size_alloc] at this
    exact this
  have hA' : TIn W W.heap.size A ha := (hA.below hbl (Nat.le_refl _)).more hbl.size
  have hB' : TIn W W.heap.size B hb := (hB.below hbl (Nat.le_refl _)).more hbl.size
  have a0 := two5_at e0
  refine ⟨W, hW, hbl, hsz, (hbl.block _ ta.lt).trans ta, (hbl.block _ tb.lt).trans tb, e1, hA', hB', ?_⟩
  rcases hk with ⟨rfl, rfl⟩ | ⟨rfl, rfl⟩
  · exact ⟨rfl, Nat.le_refl 2, w2.heap.size, 0, ha, hb, rfl, by omega, a0.1, a0.2, hA', hB'⟩
  · exact ⟨rfl, Nat.le_refl 2, w2.heap.size, 0, ha, hb, rfl, by omega, a0.1, a0.2, hA', hB'⟩

/-- what is held while the four terms are asked -/
@[reducible] def Sj (w1 : World) (D Ba Bb Bs Bp : Nat) (ha hb hs hp : Hd) (W : World) : Prop :=
  Below D w1 W ∧ D ≤ W.heap.size ∧
  W.cell? ⟨Ba, 0, none⟩ = some (.int .i64 ha.k) ∧ W.cell? ⟨Ba, 1, none⟩ = some (.int .i64 ha.c) ∧ W.cell? ⟨Ba, 2, none⟩ = some (.bool ha.x) ∧ W.cell? ⟨Ba, 3, none⟩ = some (.int .i64 ha.l) ∧ W.cell? ⟨Ba, 4, none⟩ = some (.slice ha.A ha.n ha.cap) ∧
  W.cell? ⟨Bb, 0, none⟩ = some (.int .i64 hb.k) ∧ W.cell? ⟨Bb, 1, none⟩ = some (.int .i64 hb.c) ∧ W.cell? ⟨Bb, 2, none⟩ = some (.bool hb.x) ∧ W.cell? ⟨Bb, 3, none⟩ = some (.int .i64 hb.l) ∧ W.cell? ⟨Bb, 4, none⟩ = some (.slice hb.A hb.n hb.cap) ∧
  W.cell? ⟨Bs, 0, none⟩ = some (.int .i64 hs.k) ∧ W.cell? ⟨Bs, 1, none⟩ = some (.int .i64 hs.c) ∧ W.cell? ⟨Bs, 2, none⟩ = some (.bool hs.x) ∧ W.cell? ⟨Bs, 3, none⟩ = some (.int .i64 hs.l) ∧ W.cell? ⟨Bs, 4, none⟩ = some (.slice hs.A hs.n hs.cap) ∧
  W.cell? ⟨Bp, 0, none⟩ = some (.int .i64 hp.k) ∧ W.cell? ⟨Bp, 1, none⟩ = some (.int .i64 hp.c) ∧ W.cell? ⟨Bp, 2, none⟩ = some (.bool hp.x) ∧ W.cell? ⟨Bp, 3, none⟩ = some (.int .i64 hp.l) ∧ W.cell? ⟨Bp, 4, none⟩ = some (.slice hp.A hp.n hp.cap)
theorem Sj.mk {w1 W : World} {D Ba Bb Bs Bp : Nat} {ha hb hs hp : Hd} {T : TypeId} (ta : TB T w1 Ba ha) (tb : TB T w1 Bb hb) (ts : TB T w1 Bs hs) (tp : TB T w1 Bp hp) (hD : D = w1.heap.size) (hq : Below D w1 W) : Sj w1 D Ba Bb Bs Bp ha hb hs hp W := by
  have la : Ba < D := hD ▸ ta.lt
  have lb : Bb < D := hD ▸ tb.lt
  have ls : Bs < D := hD ▸ ts.lt
  have lp : Bp < D := hD ▸ tp.lt
  exact ⟨hq, hD ▸ hq.size, (hq.cell (p := ⟨Ba, 0, none⟩) la).trans ta.c0, (hq.cell (p := ⟨Ba, 1, none⟩) la).trans ta.c1, (hq.cell (p := ⟨Ba, 2, none⟩) la).trans ta.c2, (hq.cell (p := ⟨Ba, 3, none⟩) la).trans ta.c3, (hq.cell (p := ⟨Ba, 4, none⟩) la).trans ta.c4, (hq.cell (p := ⟨Bb, 0, none⟩) lb).trans tb.c0, (hq.cell (p := ⟨Bb, 1, none⟩) lb).trans tb.c1, (hq.cell (p := ⟨Bb, 2, none⟩) lb).trans tb.c2, (hq.cell (p := ⟨Bb, 3, none⟩) lb).trans tb.c3, (hq.cell (p := ⟨Bb, 4, none⟩) lb).trans tb.c4, (hq.cell (p := ⟨Bs, 0, none⟩) ls).trans ts.c0, (hq.cell (p := ⟨Bs, 1, none⟩) ls).trans ts.c1, (hq.cell (p := ⟨Bs, 2, none⟩) ls).trans ts.c2, (hq.cell (p := ⟨Bs, 3, none⟩) ls).trans ts.c3, (hq.cell (p := ⟨Bs, 4, none⟩) ls).trans ts.c4, (hq.cell (p := ⟨Bp, 0, none⟩) lp).trans tp.c0, (hq.cell (p := ⟨Bp, 1, none⟩) lp).trans tp.c1, (hq.cell (p := ⟨Bp, 2, none⟩) lp).trans tp.c2, (hq.cell (p := ⟨Bp, 3, none⟩) lp).trans tp.c3, (hq.cell (p := ⟨Bp, 4, none⟩) lp).trans tp.c4⟩

set_option maxHeartbeats 8000000 in
theorem spanJoinsLaw_any (A : Tm) (ha : Hd) (B : Tm) (hb : Hd) (w : World) (hTa : TIn w w.heap.size A ha) (hTb : TIn w w.heap.size B hb) (hs : A.sz + B.sz ≤ 1048576) :
    Calls Try.prog 5 #[.agg ha.cells, .agg hb.cells] w fun e w' => e = .returned (.bool true) ∧ Below w.heap.size w w' := by
  obtain ⟨w1, hw1, hb1, ht1, hu1⟩ : ∃ w1, w1 = (w.alloc (.cells ha.cells 26)).alloc (.cells hb.cells 26) ∧ Below w.heap.size w w1 ∧ TB 26 w1 w.heap.size ha ∧ TB 26 w1 (w.heap.size + 1) hb := by
    refine ⟨_, rfl, ((Below.refl _ _).alloc (Nat.le_refl _) _).alloc (by simp) _, (TB.new _ _ _).alloc _, ?_⟩
    have := TB.new (w.alloc (.cells ha.cells 26)) 26 hb
    rwa [World.size_alloc] at this
  have hs1 : w.heap.size + 2 = w1.heap.size := by rw [hw1]; simp
  have hTa1 := (hTa.below hb1 (Nat.le_refl _)).more (show w.heap.size ≤ w1.heap.size by omega)
  have hTb1 := (hTb.below hb1 (Nat.le_refl _)).more (show w.heap.size ≤ w1.heap.size by omega)
  have HAl : Hid (Calls Try.prog 12 #[] w1 fun e w' => e = .returned (.bool true) ∧ Below w1.heap.size w1 w' ∧ TIn w' w'.heap.size A ha ∧ TIn w' w'.heap.size B hb ∧ TB 26 w' w.heap.size ha ∧ TB 26 w' (w.heap.size + 1) hb) :=
    Lib.hid ((alive5_any w1).mono fun e w' ⟨h1, h2⟩ => ⟨h1, h2, (hTa1.below h2 (Nat.le_refl _)).more h2.size, (hTb1.below h2 (Nat.le_refl _)).more h2.size, (h2.block _ (by omega)).trans ht1, (h2.block _ (by omega)).trans hu1⟩)
  have HB1 := Lib.hid hb1
  have HLT : Hid (w.heap.size < w1.heap.size) := Lib.hid (by omega)
  obtain ⟨ka, ca, xa, la, Aa, na, pa⟩ := ha
  obtain ⟨kb, cb, xb, lb, Ab, nb, pb⟩ := hb
  dsimp only [Hd.cells] at hw1 HAl ⊢
  have HSZ := Lib.hid hs
  clear hTa hTb hTa1 hTb1 hb1 ht1 hu1 hs1 hs
  go_enter Try.func5, Try.ntmps5
  go_wp2_with (first
    | (rw [← hw1]; refine HAl.out.mono ?_; rintro e w2 ⟨rfl, hb2, hTa2, hTb2, hBa2, hBb2⟩; obtain ⟨w4, hw4, hb4, hsz4, ta4, tb4, ts4, iA4, iB4, iS4⟩ := one_in 2 _ w2 _ _ A B _ _ (.inl ⟨rfl, rfl⟩) hTa2 hTb2 hBa2 hBb2; dsimp only [two5, hSq, Hd.cells] at hw4; have y0 := hBa2.c0; have x0 := hBb2.c0; have v0 := ta4.c0; have u0 := tb4.c0; have y1 := hBa2.c1; have x1 := hBb2.c1; have v1 := ta4.c1; have u1 := tb4.c1; have y2 := hBa2.c2; have x2 := hBb2.c2; have v2 := ta4.c2; have u2 := tb4.c2; have y3 := hBa2.c3; have x3 := hBb2.c3; have v3 := ta4.c3; have u3 := tb4.c3; have y4 := hBa2.c4; have x4 := hBb2.c4; have v4 := ta4.c4; have u4 := tb4.c4; dsimp only at y0 x0 y1 x1 y2 x2 y3 x3 y4 x4 v0 u0 v1 u1 v2 u2 v3 u3 v4 u4; rw [hw4] at v0 u0 v1 u1 v2 u2 v3 u3 v4 u4; replace hw4 := Lib.hid hw4; replace hsz4 := Lib.hid hsz4)
    | fail)
  have HB2 : Hid (Below w.heap.size w w2) := Lib.hid (HB1.out.trans (hb2.mono (Nat.le_of_lt HLT.out)))
  obtain ⟨w3, hw3, hb3, hsz3, ta, tb, tp, iA, iB, iP⟩ := one_in 3 _ w4 _ _ A B _ _ (.inr ⟨rfl, rfl⟩) iA4 iB4 ta4 tb4
  have ts := (hb3.block _ ts4.lt).trans ts4
  have iS := (iS4.below hb3 (Nat.le_refl _)).more hb3.size
  have hq4 : w4.heap.size = w2.heap.size + 1 + 1 := hsz4.out
  replace hb3 := hb4.trans (hb3.mono hb4.size)
  rw [hq4] at hw3 tp iP
  dsimp only [two5, hSq, Hd.cells] at hw3
  rw [hw4.out] at hw3
  rw [← hw3]
  obtain ⟨Q, hQ⟩ : ∃ Q, Q = w2.heap.size := ⟨_, rfl⟩
  rw [← hQ] at ts tp iS iP ⊢
  obtain ⟨D, hD⟩ : ∃ D, D = w3.heap.size := ⟨_, rfl⟩
  have HBF : Hid (∀ W, Below D w3 W → Below w.heap.size w W) := Lib.hid fun W hW => (HB2.out.trans (hb3.mono HB2.out.size)).trans (hW.mono (by have := HB2.out.size; have := hb3.size; omega))
  have HS : Hid (∀ W, Below D w3 W → Sj w3 D w.heap.size (w.heap.size + 1) (Q + 1) (Q + 1 + 1 + 1) ⟨ka, ca, xa, la, Aa, na, pa⟩ ⟨kb, cb, xb, lb, Ab, nb, pb⟩ ⟨2, 0, false, 0, some ⟨Q, 0, none⟩, 2, 2⟩ ⟨3, 0, false, 0, some ⟨Q + 1 + 1, 0, none⟩, 2, 2⟩ W) := Lib.hid fun W hW => Sj.mk ta tb ts tp hD hW
  have hTW : ∀ (T : Tm) (h : Hd), TIn w3 w3.heap.size T h → ∀ W, Below D w3 W → TIn W W.heap.size T h := fun T h hT W hW => by subst hD; exact (hT.below hW (Nat.le_refl _)).more hW.size
  obtain ⟨za, qza⟩ : ∃ za, za = A.sz := ⟨_, rfl⟩
  obtain ⟨zb, qzb⟩ : ∃ zb, zb = B.sz := ⟨_, rfl⟩
  obtain ⟨sa, qsa⟩ : ∃ sa, sa = A.sn := ⟨_, rfl⟩
  obtain ⟨sb, qsb⟩ : ∃ sb, sb = B.sn := ⟨_, rfl⟩
  obtain ⟨da, qda⟩ : ∃ da, da = A.wd := ⟨_, rfl⟩
  obtain ⟨db, qdb⟩ : ∃ db, db = B.wd := ⟨_, rfl⟩
  have m1 : A.sn ≤ A.sz := A.ms_le _ _
  have m2 : B.sn ≤ B.sz := B.ms_le _ _
  have m3 : A.wd ≤ A.sz := A.ms_le _ _
  have m4 : B.wd ≤ B.sz := B.ms_le _ _
  have hs := HSZ.out
  have HWa : Hid (∀ W, Below D w3 W → Calls Try.prog 6 #[.agg #[.int .i64 ka, .int .i64 ca, .bool xa, .int .i64 la, .slice Aa na pa]] W fun e w' => e = .returned (.int .i64 ((za : Int))) ∧ Sj w3 D w.heap.size (w.heap.size + 1) (Q + 1) (Q + 1 + 1 + 1) ⟨ka, ca, xa, la, Aa, na, pa⟩ ⟨kb, cb, xb, lb, Ab, nb, pb⟩ ⟨2, 0, false, 0, some ⟨Q, 0, none⟩, 2, 2⟩ ⟨3, 0, false, 0, some ⟨Q + 1 + 1, 0, none⟩, 2, 2⟩ w') := Lib.hid fun W hW => by
    have hDW : D ≤ W.heap.size := by subst hD; exact hW.size
    have e : (((A.sz : Nat)) : Int) = (za : Int) := by
      rw [qza]

    rw [← e]
    exact (work_any A ⟨ka, ca, xa, la, Aa, na, pa⟩ W (hTW _ _ iA W hW) (by omega)).mono fun e w' ⟨h1, h2⟩ => ⟨h1, HS.out w' (hW.trans (h2.mono hDW))⟩
  have HWb : Hid (∀ W, Below D w3 W → Calls Try.prog 6 #[.agg #[.int .i64 kb, .int .i64 cb, .bool xb, .int .i64 lb, .slice Ab nb pb]] W fun e w' => e = .returned (.int .i64 ((zb : Int))) ∧ Sj w3 D w.heap.size (w.heap.size + 1) (Q + 1) (Q + 1 + 1 + 1) ⟨ka, ca, xa, la, Aa, na, pa⟩ ⟨kb, cb, xb, lb, Ab, nb, pb⟩ ⟨2, 0, false, 0, some ⟨Q, 0, none⟩, 2, 2⟩ ⟨3, 0, false, 0, some ⟨Q + 1 + 1, 0, none⟩, 2, 2⟩ w') := Lib.hid fun W hW => by
    have hDW : D ≤ W.heap.size := by subst hD; exact hW.size
    have e : (((B.sz : Nat)) : Int) = (zb : Int) := by
      rw [qzb]

    rw [← e]
    exact (work_any B ⟨kb, cb, xb, lb, Ab, nb, pb⟩ W (hTW _ _ iB W hW) (by omega)).mono fun e w' ⟨h1, h2⟩ => ⟨h1, HS.out w' (hW.trans (h2.mono hDW))⟩
  have HWs : Hid (∀ W, Below D w3 W → Calls Try.prog 6 #[.agg #[.int .i64 2, .int .i64 0, .bool false, .int .i64 0, .slice (some ⟨Q, 0, none⟩) 2 2]] W fun e w' => e = .returned (.int .i64 ((za : Int) + (zb : Int))) ∧ Sj w3 D w.heap.size (w.heap.size + 1) (Q + 1) (Q + 1 + 1 + 1) ⟨ka, ca, xa, la, Aa, na, pa⟩ ⟨kb, cb, xb, lb, Ab, nb, pb⟩ ⟨2, 0, false, 0, some ⟨Q, 0, none⟩, 2, 2⟩ ⟨3, 0, false, 0, some ⟨Q + 1 + 1, 0, none⟩, 2, 2⟩ w') := Lib.hid fun W hW => by
    have hDW : D ≤ W.heap.size := by subst hD; exact hW.size
    have e : ((((Tm.seq A B).sz : Nat)) : Int) = (za : Int) + (zb : Int) := by
      rw [qza, qzb]
      simp [Tm.sz]
    rw [← e]
    exact (work_any (Tm.seq A B) ⟨2, 0, false, 0, some ⟨Q, 0, none⟩, 2, 2⟩ W (hTW _ _ iS W hW) (by simp only [Tm.sz]; omega)).mono fun e w' ⟨h1, h2⟩ => ⟨h1, HS.out w' (hW.trans (h2.mono hDW))⟩
  have HWp : Hid (∀ W, Below D w3 W → Calls Try.prog 6 #[.agg #[.int .i64 3, .int .i64 0, .bool false, .int .i64 0, .slice (some ⟨Q + 1 + 1, 0, none⟩) 2 2]] W fun e w' => e = .returned (.int .i64 ((za : Int) + (zb : Int))) ∧ Sj w3 D w.heap.size (w.heap.size + 1) (Q + 1) (Q + 1 + 1 + 1) ⟨ka, ca, xa, la, Aa, na, pa⟩ ⟨kb, cb, xb, lb, Ab, nb, pb⟩ ⟨2, 0, false, 0, some ⟨Q, 0, none⟩, 2, 2⟩ ⟨3, 0, false, 0, some ⟨Q + 1 + 1, 0, none⟩, 2, 2⟩ w') := Lib.hid fun W hW => by
    have hDW : D ≤ W.heap.size := by subst hD; exact hW.size
    have e : ((((Tm.par A B).sz : Nat)) : Int) = (za : Int) + (zb : Int) := by
      rw [qza, qzb]
      simp [Tm.sz]
    rw [← e]
    exact (work_any (Tm.par A B) ⟨3, 0, false, 0, some ⟨Q + 1 + 1, 0, none⟩, 2, 2⟩ W (hTW _ _ iP W hW) (by simp only [Tm.sz]; omega)).mono fun e w' ⟨h1, h2⟩ => ⟨h1, HS.out w' (hW.trans (h2.mono hDW))⟩
  have HNa : Hid (∀ W, Below D w3 W → Calls Try.prog 8 #[.agg #[.int .i64 ka, .int .i64 ca, .bool xa, .int .i64 la, .slice Aa na pa]] W fun e w' => e = .returned (.int .i64 ((sa : Int))) ∧ Sj w3 D w.heap.size (w.heap.size + 1) (Q + 1) (Q + 1 + 1 + 1) ⟨ka, ca, xa, la, Aa, na, pa⟩ ⟨kb, cb, xb, lb, Ab, nb, pb⟩ ⟨2, 0, false, 0, some ⟨Q, 0, none⟩, 2, 2⟩ ⟨3, 0, false, 0, some ⟨Q + 1 + 1, 0, none⟩, 2, 2⟩ w') := Lib.hid fun W hW => by
    have hDW : D ≤ W.heap.size := by subst hD; exact hW.size
    have e : (((A.sn : Nat)) : Int) = (sa : Int) := by
      rw [qsa]

    rw [← e]
    exact (span_any A ⟨ka, ca, xa, la, Aa, na, pa⟩ W (hTW _ _ iA W hW) (by omega)).mono fun e w' ⟨h1, h2⟩ => ⟨h1, HS.out w' (hW.trans (h2.mono hDW))⟩
  have HNb : Hid (∀ W, Below D w3 W → Calls Try.prog 8 #[.agg #[.int .i64 kb, .int .i64 cb, .bool xb, .int .i64 lb, .slice Ab nb pb]] W fun e w' => e = .returned (.int .i64 ((sb : Int))) ∧ Sj w3 D w.heap.size (w.heap.size + 1) (Q + 1) (Q + 1 + 1 + 1) ⟨ka, ca, xa, la, Aa, na, pa⟩ ⟨kb, cb, xb, lb, Ab, nb, pb⟩ ⟨2, 0, false, 0, some ⟨Q, 0, none⟩, 2, 2⟩ ⟨3, 0, false, 0, some ⟨Q + 1 + 1, 0, none⟩, 2, 2⟩ w') := Lib.hid fun W hW => by
    have hDW : D ≤ W.heap.size := by subst hD; exact hW.size
    have e : (((B.sn : Nat)) : Int) = (sb : Int) := by
      rw [qsb]

    rw [← e]
    exact (span_any B ⟨kb, cb, xb, lb, Ab, nb, pb⟩ W (hTW _ _ iB W hW) (by omega)).mono fun e w' ⟨h1, h2⟩ => ⟨h1, HS.out w' (hW.trans (h2.mono hDW))⟩
  have HNs : Hid (∀ W, Below D w3 W → Calls Try.prog 8 #[.agg #[.int .i64 2, .int .i64 0, .bool false, .int .i64 0, .slice (some ⟨Q, 0, none⟩) 2 2]] W fun e w' => e = .returned (.int .i64 ((sa : Int) + (sb : Int))) ∧ Sj w3 D w.heap.size (w.heap.size + 1) (Q + 1) (Q + 1 + 1 + 1) ⟨ka, ca, xa, la, Aa, na, pa⟩ ⟨kb, cb, xb, lb, Ab, nb, pb⟩ ⟨2, 0, false, 0, some ⟨Q, 0, none⟩, 2, 2⟩ ⟨3, 0, false, 0, some ⟨Q + 1 + 1, 0, none⟩, 2, 2⟩ w') := Lib.hid fun W hW => by
    have hDW : D ≤ W.heap.size := by subst hD; exact hW.size
    have e : ((((Tm.seq A B).sn : Nat)) : Int) = (sa : Int) + (sb : Int) := by
      rw [qsa, qsb]
      rw [Tm.sn_seq]; simp
    rw [← e]
    exact (span_any (Tm.seq A B) ⟨2, 0, false, 0, some ⟨Q, 0, none⟩, 2, 2⟩ W (hTW _ _ iS W hW) (by simp only [Tm.sz]; omega)).mono fun e w' ⟨h1, h2⟩ => ⟨h1, HS.out w' (hW.trans (h2.mono hDW))⟩
  have HNp : Hid (∀ W, Below D w3 W → Calls Try.prog 8 #[.agg #[.int .i64 3, .int .i64 0, .bool false, .int .i64 0, .slice (some ⟨Q + 1 + 1, 0, none⟩) 2 2]] W fun e w' => e = .returned (.int .i64 (max (sa : Int) (sb : Int))) ∧ Sj w3 D w.heap.size (w.heap.size + 1) (Q + 1) (Q + 1 + 1 + 1) ⟨ka, ca, xa, la, Aa, na, pa⟩ ⟨kb, cb, xb, lb, Ab, nb, pb⟩ ⟨2, 0, false, 0, some ⟨Q, 0, none⟩, 2, 2⟩ ⟨3, 0, false, 0, some ⟨Q + 1 + 1, 0, none⟩, 2, 2⟩ w') := Lib.hid fun W hW => by
    have hDW : D ≤ W.heap.size := by subst hD; exact hW.size
    have e : ((((Tm.par A B).sn : Nat)) : Int) = max (sa : Int) (sb : Int) := by
      rw [qsa, qsb]
      rw [Tm.sn_par]; omega
    rw [← e]
    exact (span_any (Tm.par A B) ⟨3, 0, false, 0, some ⟨Q + 1 + 1, 0, none⟩, 2, 2⟩ W (hTW _ _ iP W hW) (by simp only [Tm.sz]; omega)).mono fun e w' ⟨h1, h2⟩ => ⟨h1, HS.out w' (hW.trans (h2.mono hDW))⟩
  have HDa : Hid (∀ W, Below D w3 W → Calls Try.prog 10 #[.agg #[.int .i64 ka, .int .i64 ca, .bool xa, .int .i64 la, .slice Aa na pa]] W fun e w' => e = .returned (.int .i64 ((da : Int))) ∧ Sj w3 D w.heap.size (w.heap.size + 1) (Q + 1) (Q + 1 + 1 + 1) ⟨ka, ca, xa, la, Aa, na, pa⟩ ⟨kb, cb, xb, lb, Ab, nb, pb⟩ ⟨2, 0, false, 0, some ⟨Q, 0, none⟩, 2, 2⟩ ⟨3, 0, false, 0, some ⟨Q + 1 + 1, 0, none⟩, 2, 2⟩ w') := Lib.hid fun W hW => by
    have hDW : D ≤ W.heap.size := by subst hD; exact hW.size
    have e : (((A.wd : Nat)) : Int) = (da : Int) := by
      rw [qda]

    rw [← e]
    exact (width_any A ⟨ka, ca, xa, la, Aa, na, pa⟩ W (hTW _ _ iA W hW) (by omega)).mono fun e w' ⟨h1, h2⟩ => ⟨h1, HS.out w' (hW.trans (h2.mono hDW))⟩
  have HDb : Hid (∀ W, Below D w3 W → Calls Try.prog 10 #[.agg #[.int .i64 kb, .int .i64 cb, .bool xb, .int .i64 lb, .slice Ab nb pb]] W fun e w' => e = .returned (.int .i64 ((db : Int))) ∧ Sj w3 D w.heap.size (w.heap.size + 1) (Q + 1) (Q + 1 + 1 + 1) ⟨ka, ca, xa, la, Aa, na, pa⟩ ⟨kb, cb, xb, lb, Ab, nb, pb⟩ ⟨2, 0, false, 0, some ⟨Q, 0, none⟩, 2, 2⟩ ⟨3, 0, false, 0, some ⟨Q + 1 + 1, 0, none⟩, 2, 2⟩ w') := Lib.hid fun W hW => by
    have hDW : D ≤ W.heap.size := by subst hD; exact hW.size
    have e : (((B.wd : Nat)) : Int) = (db : Int) := by
      rw [qdb]

    rw [← e]
    exact (width_any B ⟨kb, cb, xb, lb, Ab, nb, pb⟩ W (hTW _ _ iB W hW) (by omega)).mono fun e w' ⟨h1, h2⟩ => ⟨h1, HS.out w' (hW.trans (h2.mono hDW))⟩
  have HDs : Hid (∀ W, Below D w3 W → Calls Try.prog 10 #[.agg #[.int .i64 2, .int .i64 0, .bool false, .int .i64 0, .slice (some ⟨Q, 0, none⟩) 2 2]] W fun e w' => e = .returned (.int .i64 (max (da : Int) (db : Int))) ∧ Sj w3 D w.heap.size (w.heap.size + 1) (Q + 1) (Q + 1 + 1 + 1) ⟨ka, ca, xa, la, Aa, na, pa⟩ ⟨kb, cb, xb, lb, Ab, nb, pb⟩ ⟨2, 0, false, 0, some ⟨Q, 0, none⟩, 2, 2⟩ ⟨3, 0, false, 0, some ⟨Q + 1 + 1, 0, none⟩, 2, 2⟩ w') := Lib.hid fun W hW => by
    have hDW : D ≤ W.heap.size := by subst hD; exact hW.size
    have e : ((((Tm.seq A B).wd : Nat)) : Int) = max (da : Int) (db : Int) := by
      rw [qda, qdb]
      rw [Tm.wd_seq]; omega
    rw [← e]
    exact (width_any (Tm.seq A B) ⟨2, 0, false, 0, some ⟨Q, 0, none⟩, 2, 2⟩ W (hTW _ _ iS W hW) (by simp only [Tm.sz]; omega)).mono fun e w' ⟨h1, h2⟩ => ⟨h1, HS.out w' (hW.trans (h2.mono hDW))⟩
  have HDp : Hid (∀ W, Below D w3 W → Calls Try.prog 10 #[.agg #[.int .i64 3, .int .i64 0, .bool false, .int .i64 0, .slice (some ⟨Q + 1 + 1, 0, none⟩) 2 2]] W fun e w' => e = .returned (.int .i64 ((da : Int) + (db : Int))) ∧ Sj w3 D w.heap.size (w.heap.size + 1) (Q + 1) (Q + 1 + 1 + 1) ⟨ka, ca, xa, la, Aa, na, pa⟩ ⟨kb, cb, xb, lb, Ab, nb, pb⟩ ⟨2, 0, false, 0, some ⟨Q, 0, none⟩, 2, 2⟩ ⟨3, 0, false, 0, some ⟨Q + 1 + 1, 0, none⟩, 2, 2⟩ w') := Lib.hid fun W hW => by
    have hDW : D ≤ W.heap.size := by subst hD; exact hW.size
    have e : ((((Tm.par A B).wd : Nat)) : Int) = (da : Int) + (db : Int) := by
      rw [qda, qdb]
      rw [Tm.wd_par]; simp
    rw [← e]
    exact (width_any (Tm.par A B) ⟨3, 0, false, 0, some ⟨Q + 1 + 1, 0, none⟩, 2, 2⟩ W (hTW _ _ iP W hW) (by simp only [Tm.sz]; omega)).mono fun e w' ⟨h1, h2⟩ => ⟨h1, HS.out w' (hW.trans (h2.mono hDW))⟩
  have e1 : IntKind.i64.wrap ((za : Int) + (zb : Int)) = (za : Int) + (zb : Int) := by rw [IntKind.wrap_i64]; omega
  have e2 : IntKind.i64.wrap ((sa : Int) + (sb : Int)) = (sa : Int) + (sb : Int) := by rw [IntKind.wrap_i64]; omega
  have e3 : IntKind.i64.wrap ((da : Int) + (db : Int)) = (da : Int) + (db : Int) := by rw [IntKind.wrap_i64]; omega
  obtain ⟨z0, z00, za0, za1, za2, za3, za4, zb0, zb1, zb2, zb3, zb4, zs0, zs1, zs2, zs3, zs4, zp0, zp1, zp2, zp3, zp4⟩ := HS.out w3 (Below.refl _ _)
  dsimp only at za0 za1 za2 za3 za4 zb0 zb1 zb2 zb3 zb4 zs0 zs1 zs2 zs3 zs4 zp0 zp1 zp2 zp3 zp4
  clear hw1 hw3 hw4 hb2 hb3 hb4 hsz3 hsz4 hq4 ta4 tb4 ts4 iA4 iB4 iS4 hTa2 hTb2 hBa2 hBb2 y0 y1 y2 y3 y4 x0 x1 x2 x3 x4 v0 v1 v2 v3 v4 u0 u1 u2 u3 u4 ta tb ts tp iA iB iS iP hD hTW qza qzb qsa qsb qda qdb m1 m2 m3 m4 hs hQ HAl
  go_region_held3 (Sj w3 D w.heap.size (w.heap.size + 1) (Q + 1) (Q + 1 + 1 + 1) ⟨ka, ca, xa, la, Aa, na, pa⟩ ⟨kb, cb, xb, lb, Ab, nb, pb⟩ ⟨2, 0, false, 0, some ⟨Q, 0, none⟩, 2, 2⟩ ⟨3, 0, false, 0, some ⟨Q + 1 + 1, 0, none⟩, 2, 2⟩)
    (first
      | (go_split_ands; refine ⟨?_, ?_, ?_, ?_, ?_, ?_, ?_, ?_, ?_, ?_, ?_, ?_, ?_, ?_, ?_, ?_, ?_, ?_, ?_, ?_, ?_, ?_⟩ <;> assumption)
      | (go_split_ands; exact HS.out _ (by first | assumption | (refine Below.drew ?_; assumption))))
    (first
      | (go_at_call_of 6 (Value.int IntKind.i64 ka); (try go_split_ands); refine (HWa.out _ (by assumption)).mono ?_; rintro e w5 ⟨rfl, hS5⟩; clear z0 z00 za0 za1 za2 za3 za4 zb0 zb1 zb2 zb3 zb4 zs0 zs1 zs2 zs3 zs4 zp0 zp1 zp2 zp3 zp4; obtain ⟨z0, z00, za0, za1, za2, za3, za4, zb0, zb1, zb2, zb3, zb4, zs0, zs1, zs2, zs3, zs4, zp0, zp1, zp2, zp3, zp4⟩ := hS5; dsimp only at za0 za1 za2 za3 za4 zb0 zb1 zb2 zb3 zb4 zs0 zs1 zs2 zs3 zs4 zp0 zp1 zp2 zp3 zp4)
      | (go_at_call_of 6 (Value.int IntKind.i64 kb); (try go_split_ands); refine (HWb.out _ (by assumption)).mono ?_; rintro e w5 ⟨rfl, hS5⟩; clear z0 z00 za0 za1 za2 za3 za4 zb0 zb1 zb2 zb3 zb4 zs0 zs1 zs2 zs3 zs4 zp0 zp1 zp2 zp3 zp4; obtain ⟨z0, z00, za0, za1, za2, za3, za4, zb0, zb1, zb2, zb3, zb4, zs0, zs1, zs2, zs3, zs4, zp0, zp1, zp2, zp3, zp4⟩ := hS5; dsimp only at za0 za1 za2 za3 za4 zb0 zb1 zb2 zb3 zb4 zs0 zs1 zs2 zs3 zs4 zp0 zp1 zp2 zp3 zp4)
      | (go_at_call_of 6 (Value.int IntKind.i64 2); (try go_split_ands); refine (HWs.out _ (by assumption)).mono ?_; rintro e w5 ⟨rfl, hS5⟩; clear z0 z00 za0 za1 za2 za3 za4 zb0 zb1 zb2 zb3 zb4 zs0 zs1 zs2 zs3 zs4 zp0 zp1 zp2 zp3 zp4; obtain ⟨z0, z00, za0, za1, za2, za3, za4, zb0, zb1, zb2, zb3, zb4, zs0, zs1, zs2, zs3, zs4, zp0, zp1, zp2, zp3, zp4⟩ := hS5; dsimp only at za0 za1 za2 za3 za4 zb0 zb1 zb2 zb3 zb4 zs0 zs1 zs2 zs3 zs4 zp0 zp1 zp2 zp3 zp4)
      | (go_at_call_of 6 (Value.int IntKind.i64 3); (try go_split_ands); refine (HWp.out _ (by assumption)).mono ?_; rintro e w5 ⟨rfl, hS5⟩; clear z0 z00 za0 za1 za2 za3 za4 zb0 zb1 zb2 zb3 zb4 zs0 zs1 zs2 zs3 zs4 zp0 zp1 zp2 zp3 zp4; obtain ⟨z0, z00, za0, za1, za2, za3, za4, zb0, zb1, zb2, zb3, zb4, zs0, zs1, zs2, zs3, zs4, zp0, zp1, zp2, zp3, zp4⟩ := hS5; dsimp only at za0 za1 za2 za3 za4 zb0 zb1 zb2 zb3 zb4 zs0 zs1 zs2 zs3 zs4 zp0 zp1 zp2 zp3 zp4)
      | (go_at_call_of 8 (Value.int IntKind.i64 ka); (try go_split_ands); refine (HNa.out _ (by assumption)).mono ?_; rintro e w5 ⟨rfl, hS5⟩; clear z0 z00 za0 za1 za2 za3 za4 zb0 zb1 zb2 zb3 zb4 zs0 zs1 zs2 zs3 zs4 zp0 zp1 zp2 zp3 zp4; obtain ⟨z0, z00, za0, za1, za2, za3, za4, zb0, zb1, zb2, zb3, zb4, zs0, zs1, zs2, zs3, zs4, zp0, zp1, zp2, zp3, zp4⟩ := hS5; dsimp only at za0 za1 za2 za3 za4 zb0 zb1 zb2 zb3 zb4 zs0 zs1 zs2 zs3 zs4 zp0 zp1 zp2 zp3 zp4)
      | (go_at_call_of 8 (Value.int IntKind.i64 kb); (try go_split_ands); refine (HNb.out _ (by assumption)).mono ?_; rintro e w5 ⟨rfl, hS5⟩; clear z0 z00 za0 za1 za2 za3 za4 zb0 zb1 zb2 zb3 zb4 zs0 zs1 zs2 zs3 zs4 zp0 zp1 zp2 zp3 zp4; obtain ⟨z0, z00, za0, za1, za2, za3, za4, zb0, zb1, zb2, zb3, zb4, zs0, zs1, zs2, zs3, zs4, zp0, zp1, zp2, zp3, zp4⟩ := hS5; dsimp only at za0 za1 za2 za3 za4 zb0 zb1 zb2 zb3 zb4 zs0 zs1 zs2 zs3 zs4 zp0 zp1 zp2 zp3 zp4)
      | (go_at_call_of 8 (Value.int IntKind.i64 2); (try go_split_ands); refine (HNs.out _ (by assumption)).mono ?_; rintro e w5 ⟨rfl, hS5⟩; clear z0 z00 za0 za1 za2 za3 za4 zb0 zb1 zb2 zb3 zb4 zs0 zs1 zs2 zs3 zs4 zp0 zp1 zp2 zp3 zp4; obtain ⟨z0, z00, za0, za1, za2, za3, za4, zb0, zb1, zb2, zb3, zb4, zs0, zs1, zs2, zs3, zs4, zp0, zp1, zp2, zp3, zp4⟩ := hS5; dsimp only at za0 za1 za2 za3 za4 zb0 zb1 zb2 zb3 zb4 zs0 zs1 zs2 zs3 zs4 zp0 zp1 zp2 zp3 zp4)
      | (go_at_call_of 8 (Value.int IntKind.i64 3); (try go_split_ands); refine (HNp.out _ (by assumption)).mono ?_; rintro e w5 ⟨rfl, hS5⟩; clear z0 z00 za0 za1 za2 za3 za4 zb0 zb1 zb2 zb3 zb4 zs0 zs1 zs2 zs3 zs4 zp0 zp1 zp2 zp3 zp4; obtain ⟨z0, z00, za0, za1, za2, za3, za4, zb0, zb1, zb2, zb3, zb4, zs0, zs1, zs2, zs3, zs4, zp0, zp1, zp2, zp3, zp4⟩ := hS5; dsimp only at za0 za1 za2 za3 za4 zb0 zb1 zb2 zb3 zb4 zs0 zs1 zs2 zs3 zs4 zp0 zp1 zp2 zp3 zp4)
      | (go_at_call_of 10 (Value.int IntKind.i64 ka); (try go_split_ands); refine (HDa.out _ (by assumption)).mono ?_; rintro e w5 ⟨rfl, hS5⟩; clear z0 z00 za0 za1 za2 za3 za4 zb0 zb1 zb2 zb3 zb4 zs0 zs1 zs2 zs3 zs4 zp0 zp1 zp2 zp3 zp4; obtain ⟨z0, z00, za0, za1, za2, za3, za4, zb0, zb1, zb2, zb3, zb4, zs0, zs1, zs2, zs3, zs4, zp0, zp1, zp2, zp3, zp4⟩ := hS5; dsimp only at za0 za1 za2 za3 za4 zb0 zb1 zb2 zb3 zb4 zs0 zs1 zs2 zs3 zs4 zp0 zp1 zp2 zp3 zp4)
      | (go_at_call_of 10 (Value.int IntKind.i64 kb); (try go_split_ands); refine (HDb.out _ (by assumption)).mono ?_; rintro e w5 ⟨rfl, hS5⟩; clear z0 z00 za0 za1 za2 za3 za4 zb0 zb1 zb2 zb3 zb4 zs0 zs1 zs2 zs3 zs4 zp0 zp1 zp2 zp3 zp4; obtain ⟨z0, z00, za0, za1, za2, za3, za4, zb0, zb1, zb2, zb3, zb4, zs0, zs1, zs2, zs3, zs4, zp0, zp1, zp2, zp3, zp4⟩ := hS5; dsimp only at za0 za1 za2 za3 za4 zb0 zb1 zb2 zb3 zb4 zs0 zs1 zs2 zs3 zs4 zp0 zp1 zp2 zp3 zp4)
      | (go_at_call_of 10 (Value.int IntKind.i64 2); (try go_split_ands); refine (HDs.out _ (by assumption)).mono ?_; rintro e w5 ⟨rfl, hS5⟩; clear z0 z00 za0 za1 za2 za3 za4 zb0 zb1 zb2 zb3 zb4 zs0 zs1 zs2 zs3 zs4 zp0 zp1 zp2 zp3 zp4; obtain ⟨z0, z00, za0, za1, za2, za3, za4, zb0, zb1, zb2, zb3, zb4, zs0, zs1, zs2, zs3, zs4, zp0, zp1, zp2, zp3, zp4⟩ := hS5; dsimp only at za0 za1 za2 za3 za4 zb0 zb1 zb2 zb3 zb4 zs0 zs1 zs2 zs3 zs4 zp0 zp1 zp2 zp3 zp4)
      | (go_at_call_of 10 (Value.int IntKind.i64 3); (try go_split_ands); refine (HDp.out _ (by assumption)).mono ?_; rintro e w5 ⟨rfl, hS5⟩; clear z0 z00 za0 za1 za2 za3 za4 zb0 zb1 zb2 zb3 zb4 zs0 zs1 zs2 zs3 zs4 zp0 zp1 zp2 zp3 zp4; obtain ⟨z0, z00, za0, za1, za2, za3, za4, zb0, zb1, zb2, zb3, zb4, zs0, zs1, zs2, zs3, zs4, zp0, zp1, zp2, zp3, zp4⟩ := hS5; dsimp only at za0 za1 za2 za3 za4 zb0 zb1 zb2 zb3 zb4 zs0 zs1 zs2 zs3 zs4 zp0 zp1 zp2 zp3 zp4)
      | fail)
  all_goals
    have hbf := HBF.out _ z0
    go_wp2_with fail
    go_ret
    exact ⟨by simp, hbf⟩

theorem spanJoinsLaw_card (A : Tm) (ha : Hd) (B : Tm) (hb : Hd) (w : World) (hTa : TIn w w.heap.size A ha) (hs : A.sz + B.sz ≤ 1048576) (hTb : TIn w w.heap.size B hb) (_ : B.sz ≤ 1048576) :
    Calls Try.prog 5 #[.agg ha.cells, .agg hb.cells] w fun e w' => e = .returned (.bool true) ∧ Below w.heap.size w w' := spanJoinsLaw_any A ha B hb w hTa hTb hs
end Go.Proofs.Ytidgibkiacbgfaa
