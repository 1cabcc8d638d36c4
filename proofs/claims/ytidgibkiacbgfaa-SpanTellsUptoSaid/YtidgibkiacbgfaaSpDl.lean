/-
  Contract of the reference's DLeaves.
-/
import Derived.Test.YtidgibkiacbgfaaSpAp
namespace Go.Proofs.Ytidgibkiacbgfaa
open Go.RowKit
set_option maxRecDepth 100000

theorem accs_app (xs ys : List Acc) : accs (xs ++ ys) = accs xs ++ accs ys := by simp [accs]
theorem accs_len (xs : List Acc) : (accs xs).length = xs.length * 3 := by
  induction xs with
  | nil => rfl
  | cons a l ih => simp only [accs, List.flatMap_cons, List.length_append, List.length_cons, List.length_nil] at ih ⊢; omega
theorem accs_one (xs : List Acc) : ∀ u ∈ accs xs, u.oneCell' = true := by
  intro u hu
  simp only [accs, List.mem_flatMap] at hu
  obtain ⟨a, _, ha⟩ := hu
  simp at ha
  rcases ha with rfl | rfl | rfl <;> rfl

/-- what DLeaves answers -/
def DLeavesS (T : Tm) : Prop := ∀ (h : Hd) (w : World), TIn w w.heap.size T h → T.sz ≤ 1048576 →
  Calls Try.prog 7 #[.agg h.cells] w fun e w' => ∃ v, e = .returned v ∧ w'.ownsRow w.heap.size 23 3 v T.lv.length (accs T.lv) ∧ Below w.heap.size w w'

/-- the two boxes of a term's kids -/
theorem two_boxes {w : World} {T : TypeId} {a b : Hd} : TB T ((w.alloc (.cells a.cells T)).alloc (.cells b.cells T)) w.heap.size a ∧ TB T ((w.alloc (.cells a.cells T)).alloc (.cells b.cells T)) (w.heap.size + 1) b := by
  refine ⟨(TB.new _ _ _).alloc _, ?_⟩
  have := TB.new (w.alloc (.cells a.cells T)) T b
  rwa [World.size_alloc] at this

/-- a row that is laid whole -/
theorem own_row1 {w : World} {base size n : Nat} {e : TypeId} {cs : Array Value} {B : Nat} (o : Obj) (ho : o = .cells cs e) (hb : base ≤ w.heap.size) (hc : B = w.heap.size ∧ cs.size = n * size ∧ n ≤ maxLen) :
    (w.alloc o).ownsRow base e size (.slice (some ⟨B, 0, none⟩) n n) n cs.toList := by
  obtain ⟨rfl, hc, hm⟩ := hc
  subst ho
  exact ⟨by simpa using hc, .inr ⟨_, _, cs, rfl, hb, World.alloc_heap_new w _, Nat.le_refl _, hm, hc, by rw [List.take_of_length_le (by simp; omega)]⟩⟩

theorem dleaves_none (T : Tm) (hn : T = .nil ∨ ∃ a, T = .one a) : DLeavesS T := by
  intro h w hT hs
  have key : ∃ w1, w1 = w.alloc (.cells h.cells 26) ∧ Below w.heap.size w w1 ∧ TB 26 w1 w.heap.size h := ⟨_, rfl, (Below.refl _ _).alloc (Nat.le_refl _) _, TB.new _ _ _⟩
  obtain ⟨w1, hw1, hb1, ht1⟩ := key
  have hs1 : w.heap.size + 1 = w1.heap.size := by rw [hw1]; simp
  have hT1 := (hT.below hb1 (Nat.le_refl _)).more (show w.heap.size ≤ w1.heap.size by omega)
  have hB := both_any T h w1 hT1
  have hB2 : Calls Try.prog 15 #[.agg h.cells] w1 fun e w' => e = .returned (.tuple #[.agg Hd.zero.cells, .agg Hd.zero.cells, .bool false]) ∧ Below w1.heap.size w1 w' := by
    refine hB.mono fun e w' ⟨v, h1, h2, h3⟩ => ⟨?_, h3⟩
    rcases hn with rfl | ⟨a, rfl⟩
    · rw [h1, h2]
    · rw [h1, h2]
  obtain ⟨k, c, x, l, A, m, cap⟩ := h
  have HC := Lib.hid hB2
  have c0 := ht1.c0
  have c1 := ht1.c1
  have c2 := ht1.c2
  have c3 := ht1.c3
  have c4 := ht1.c4
  dsimp only [Hd.cells, Hd.zero] at hw1 c0 c1 c2 c3 c4 HC ⊢
  have hlt : w.heap.size < w1.heap.size := by omega
  clear hB hB2 hT1 ht1
  rcases hn with rfl | ⟨a, rfl⟩
  · obtain ⟨h1, _⟩ := hT
    dsimp only at h1
    go_enter Try.func7, Try.ntmps7
    go_wp2_with (first
      | (rw [← hw1]; refine HC.out.mono ?_; rintro e w2 ⟨rfl, hb2⟩; have d0 := (hb2.cell (p := ⟨w.heap.size, 0, none⟩) hlt).trans c0; have hlt2 : w.heap.size < w2.heap.size := Nat.lt_of_lt_of_le hlt hb2.size)
      | fail)
    go_ret
    exact ⟨_, rfl, World.ownsRow_nil _ _ _ _, ((hb1.trans (hb2.mono (by omega))).alloc (by omega) _).alloc (by simp; omega) _⟩
  · obtain ⟨h1, rfl⟩ := hT
    dsimp only at h1
    subst h1
    go_enter Try.func7, Try.ntmps7
    go_wp2_with (first
      | (rw [← hw1]; refine HC.out.mono ?_; rintro e w2 ⟨rfl, hb2⟩; have d0 := (hb2.cell (p := ⟨w.heap.size, 0, none⟩) hlt).trans c0; have d1 := (hb2.cell (p := ⟨w.heap.size, 1, none⟩) hlt).trans c1; have d2 := (hb2.cell (p := ⟨w.heap.size, 2, none⟩) hlt).trans c2; have d3 := (hb2.cell (p := ⟨w.heap.size, 3, none⟩) hlt).trans c3; have hlt2 : w.heap.size < w2.heap.size := Nat.lt_of_lt_of_le hlt hb2.size)
      | fail)
    go_ret
    refine ⟨_, rfl, ?_, (((hb1.trans (hb2.mono (by omega))).alloc (by omega) _).alloc (by simp; omega) _).alloc (by simp; omega) _⟩
    refine own_row1 (.cells #[.int .i64 c, .bool x, .int .i64 l] 23) rfl ?_ ?_
    · simp; omega
    · exact ⟨by simp, rfl, by unfold maxLen; omega⟩

theorem Try.infoAccP : ∃ i0, Try.prog.info? 23 = some i0 ∧ i0.zero = some (.agg #[.int .i64 0, .bool false, .int .i64 0]) ∧ i0.size = 3 ∧ i0.bytes = 24 := by
  obtain ⟨i0, hi, hii⟩ := Option.map_eq_some_iff.1 Try.infoAcc
  simp only [Prod.mk.injEq] at hii
  exact ⟨i0, hi, hii⟩

/-- what is held while the two kids are asked -/
@[reducible] def S3 (w3 : World) (D Ba Bb : Nat) (ha hb : Hd) (W : World) : Prop :=
  Below D w3 W ∧ D ≤ W.heap.size ∧
  W.cell? ⟨Ba, 0, none⟩ = some (.int .i64 ha.k) ∧ W.cell? ⟨Ba, 1, none⟩ = some (.int .i64 ha.c) ∧ W.cell? ⟨Ba, 2, none⟩ = some (.bool ha.x) ∧ W.cell? ⟨Ba, 3, none⟩ = some (.int .i64 ha.l) ∧ W.cell? ⟨Ba, 4, none⟩ = some (.slice ha.A ha.n ha.cap) ∧
  W.cell? ⟨Bb, 0, none⟩ = some (.int .i64 hb.k) ∧ W.cell? ⟨Bb, 1, none⟩ = some (.int .i64 hb.c) ∧ W.cell? ⟨Bb, 2, none⟩ = some (.bool hb.x) ∧ W.cell? ⟨Bb, 3, none⟩ = some (.int .i64 hb.l) ∧ W.cell? ⟨Bb, 4, none⟩ = some (.slice hb.A hb.n hb.cap)
theorem S3.mk {w3 W : World} {D Ba Bb : Nat} {ha hb : Hd} {T : TypeId} (ta : TB T w3 Ba ha) (tb : TB T w3 Bb hb) (hD : D = w3.heap.size) (h : Below D w3 W) : S3 w3 D Ba Bb ha hb W := by
  have la : Ba < D := hD ▸ ta.lt
  have lb : Bb < D := hD ▸ tb.lt
  exact ⟨h, hD ▸ h.size, (h.cell (p := ⟨Ba, 0, none⟩) la).trans ta.c0, (h.cell (p := ⟨Ba, 1, none⟩) la).trans ta.c1, (h.cell (p := ⟨Ba, 2, none⟩) la).trans ta.c2, (h.cell (p := ⟨Ba, 3, none⟩) la).trans ta.c3, (h.cell (p := ⟨Ba, 4, none⟩) la).trans ta.c4,
    (h.cell (p := ⟨Bb, 0, none⟩) lb).trans tb.c0, (h.cell (p := ⟨Bb, 1, none⟩) lb).trans tb.c1, (h.cell (p := ⟨Bb, 2, none⟩) lb).trans tb.c2, (h.cell (p := ⟨Bb, 3, none⟩) lb).trans tb.c3, (h.cell (p := ⟨Bb, 4, none⟩) lb).trans tb.c4⟩

set_option maxHeartbeats 2000000 in
theorem dleaves_two (T L R : Tm) (hT2 : T = .seq L R ∨ T = .par L R) (hl : DLeavesS L) (hr : DLeavesS R) : DLeavesS T := by
  intro h w hT hs
  have key : ∃ w1, w1 = w.alloc (.cells h.cells 26) ∧ Below w.heap.size w w1 ∧ TB 26 w1 w.heap.size h := ⟨_, rfl, (Below.refl _ _).alloc (Nat.le_refl _) _, TB.new _ _ _⟩
  obtain ⟨w1, hw1, hb1, ht1⟩ := key
  have hs1 : w.heap.size + 1 = w1.heap.size := by rw [hw1]; simp
  have hT1 := (hT.below hb1 (Nat.le_refl _)).more (show w.heap.size ≤ w1.heap.size by omega)
  have hB := both_any T h w1 hT1
  have hB2 : Calls Try.prog 15 #[.agg h.cells] w1 fun e w' => ∃ hl hr, e = .returned (.tuple #[.agg hl.cells, .agg hr.cells, .bool true]) ∧ TIn w1 w1.heap.size L hl ∧ TIn w1 w1.heap.size R hr ∧ Below w1.heap.size w1 w' := by
    refine hB.mono fun e w' ⟨v, h1, h2, h3⟩ => ?_
    rcases hT2 with rfl | rfl
    · obtain ⟨hl, hr, rfl, h5, h6⟩ := h2
      exact ⟨hl, hr, h1, h5, h6, h3⟩
    · obtain ⟨hl, hr, rfl, h5, h6⟩ := h2
      exact ⟨hl, hr, h1, h5, h6, h3⟩
  have hlv : T.lv = L.lv ++ R.lv := by rcases hT2 with rfl | rfl <;> rfl
  have hsz : T.sz = L.sz + R.sz := by rcases hT2 with rfl | rfl <;> rfl
  have hll := L.lv_len
  have hrl := R.lv_len
  obtain ⟨k, c, x, l, A, m, cap⟩ := h
  have HC := Lib.hid hB2
  dsimp only [Hd.cells] at hw1 HC ⊢
  obtain ⟨i0, hi, hz0, hz1, hz2⟩ := Try.infoAccP
  clear hB hB2 hT1 ht1 hT hT2
  go_enter Try.func7, Try.ntmps7
  go_wp2_with (first
    | (rw [← hw1]; refine HC.out.mono ?_; rintro e w2 ⟨ha, hb, rfl, hta, htb, hb2⟩; obtain ⟨ka, ca, xa, la, Aa, ma, capa⟩ := ha; obtain ⟨kb, cb, xb, lb, Ab, mb, capb⟩ := hb; dsimp only [Hd.cells])
    | fail)
  have hb12 : Below w.heap.size w w2 := hb1.trans (hb2.mono (by omega))
  have hs2 : w1.heap.size ≤ w2.heap.size := hb2.size
  have hta2 := (hta.below hb2 (Nat.le_refl _)).more hs2
  have htb2 := (htb.below hb2 (Nat.le_refl _)).more hs2
  obtain ⟨w3, hw3⟩ : ∃ w3, w3 = (w2.alloc (.cells #[.int .i64 ka, .int .i64 ca, .bool xa, .int .i64 la, .slice Aa ma capa] 26)).alloc (.cells #[.int .i64 kb, .int .i64 cb, .bool xb, .int .i64 lb, .slice Ab mb capb] 26) := ⟨_, rfl⟩
  obtain ⟨ta, tb⟩ : TB 26 w3 w2.heap.size ⟨ka, ca, xa, la, Aa, ma, capa⟩ ∧ TB 26 w3 (w2.heap.size + 1) ⟨kb, cb, xb, lb, Ab, mb, capb⟩ := by rw [hw3]; exact two_boxes (a := ⟨ka, ca, xa, la, Aa, ma, capa⟩) (b := ⟨kb, cb, xb, lb, Ab, mb, capb⟩)
  have hb23 : Below w2.heap.size w2 w3 := by rw [hw3]; exact ((Below.refl _ _).alloc (Nat.le_refl _) _).alloc (by simp) _
  have hta3 := (hta2.below hb23 (Nat.le_refl _)).more hb23.size
  have htb3 := (htb2.below hb23 (Nat.le_refl _)).more hb23.size
  rw [← hw3]
  obtain ⟨D, hD⟩ : ∃ D, D = w3.heap.size := ⟨_, rfl⟩
  obtain ⟨Ba, hBa⟩ : ∃ Ba, Ba = w2.heap.size := ⟨_, rfl⟩
  rw [← hBa] at ta tb ⊢
  rw [← hD] at hta3 htb3
  have hBD : w.heap.size ≤ D := by have := hb12.size; have := hb23.size; omega
  have hb03 : Below w.heap.size w w3 := hb12.trans (hb23.mono hb12.size)
  have HL : Hid (∀ W, Below D w3 W → Calls Try.prog 7 #[.agg #[.int .i64 ka, .int .i64 ca, .bool xa, .int .i64 la, .slice Aa ma capa]] W fun e w' => ∃ v, e = .returned v ∧ w'.ownsRow D 23 3 v L.lv.length (accs L.lv) ∧ Below W.heap.size W w' ∧ S3 w3 D Ba (Ba + 1) ⟨ka, ca, xa, la, Aa, ma, capa⟩ ⟨kb, cb, xb, lb, Ab, mb, capb⟩ w') := Lib.hid fun W hW => by
    have hDW : D ≤ W.heap.size := by rw [hD]; exact hW.size
    refine (hl ⟨ka, ca, xa, la, Aa, ma, capa⟩ W ((hta3.below hW (Nat.le_refl _)).more hDW) (by omega)).mono fun e w' ⟨v, h1, h2, h3⟩ => ⟨v, h1, own_more h2 hDW, h3, S3.mk ta tb hD (hW.trans (h3.mono hDW))⟩
  have HR : Hid (∀ W, Below D w3 W → Calls Try.prog 7 #[.agg #[.int .i64 kb, .int .i64 cb, .bool xb, .int .i64 lb, .slice Ab mb capb]] W fun e w' => ∃ v, e = .returned v ∧ w'.ownsRow D 23 3 v R.lv.length (accs R.lv) ∧ Below W.heap.size W w' ∧ S3 w3 D Ba (Ba + 1) ⟨ka, ca, xa, la, Aa, ma, capa⟩ ⟨kb, cb, xb, lb, Ab, mb, capb⟩ w') := Lib.hid fun W hW => by
    have hDW : D ≤ W.heap.size := by rw [hD]; exact hW.size
    refine (hr ⟨kb, cb, xb, lb, Ab, mb, capb⟩ W ((htb3.below hW (Nat.le_refl _)).more hDW) (by omega)).mono fun e w' ⟨v, h1, h2, h3⟩ => ⟨v, h1, own_more h2 hDW, h3, S3.mk ta tb hD (hW.trans (h3.mono hDW))⟩
  have HS : Hid (∀ W, Below D w3 W → S3 w3 D Ba (Ba + 1) ⟨ka, ca, xa, la, Aa, ma, capa⟩ ⟨kb, cb, xb, lb, Ab, mb, capb⟩ W) := Lib.hid fun W hW => S3.mk ta tb hD hW
  have h0 := HS.out w3 (Below.refl _ _)
  obtain ⟨z0, z00, z1, z2, z3, z4, z5, z6, z7, z8, z9, z10⟩ := h0
  dsimp only at z1 z2 z3 z4 z5 z6 z7 z8 z9 z10
  have hin1 : L.lv.length + R.lv.length ≤ maxLen := by unfold maxLen; omega
  have hin2 : (L.lv.length + R.lv.length) * 24 ≤ 140737488355328 := by omega
  have HSZ := Lib.hid hs
  have HLV := Lib.hid hlv
  have HB3 := Lib.hid hb03
  have HBD := Lib.hid hBD
  have hLn : L.lv.length ≤ 1048576 := by omega
  have HLl := Lib.hid (accs_len L.lv)
  have HRl := Lib.hid (accs_len R.lv)
  obtain ⟨nl, hnl⟩ : ∃ nl, nl = L.lv.length := ⟨_, rfl⟩
  obtain ⟨nr, hnr⟩ : ∃ nr, nr = R.lv.length := ⟨_, rfl⟩
  rw [← hnl] at hin1 hin2 HL hLn HLl
  rw [← hnr] at hin1 hin2 HR HRl
  have HNL := Lib.hid hnl
  have HNR := Lib.hid hnr
  clear hl hr hta htb hta2 htb2 hta3 htb3 ta tb hw3 hD hBa hb23 hb12 hs2 hb2 hw1 hs1 hb1 hll hrl hsz hlv hs hb03 hnl hnr hBD
  go_region_held3 (S3 w3 D Ba (Ba + 1) ⟨ka, ca, xa, la, Aa, ma, capa⟩ ⟨kb, cb, xb, lb, Ab, mb, capb⟩)
    (first
      | (go_split_ands; refine ⟨?_, ?_, ?_, ?_, ?_, ?_, ?_, ?_, ?_, ?_, ?_, ?_⟩ <;> assumption)
      | (go_split_ands; exact HS.out _ (by first | assumption | (refine Below.drew ?_; assumption) | (refine Below.alloc ?_ ?_ _ <;> assumption) | (refine Below.drew (Below.alloc ?_ ?_ _) <;> assumption) | (refine Below.alloc (Below.drew ?_) ?_ _ <;> assumption))))
    (first
      | (go_at_call_of 7 (Value.int IntKind.i64 ka); go_split_ands; refine (HL.out _ (by assumption)).mono ?_; rintro e w5 ⟨v5, rfl, ho5, hb5, hS5⟩; obtain ⟨y0, y00, y1, y2, y3, y4, y5, y6, y7, y8, y9, y10⟩ := hS5; dsimp only at y1 y2 y3 y4 y5 y6 y7 y8 y9 y10; (try have he5 : w5.ownsRow D 23 3 (.slice (some ⟨w3.heap.size, 0, none⟩) 0 0) 0 [] := by first | exact own_step (own_empty w3 D 23 3 z00) hb5 (Nat.le_refl _) | exact own_step (World.ownsRow.drew (own_empty w3 D 23 3 z00)) hb5 (Nat.le_refl _)))
      | (go_at_call_of 7 (Value.int IntKind.i64 kb); go_split_ands; refine (HR.out _ (by assumption)).mono ?_; rintro e w7 ⟨v7, rfl, ho7, hb7, hS7⟩; have ho67 := own_step ho6 hb7 (Nat.le_refl _); obtain ⟨u0, u00, u1, u2, u3, u4, u5, u6, u7, u8, u9, u10⟩ := hS7; dsimp only at u1 u2 u3 u4 u5 u6 u7 u8 u9 u10)
      | (go_split_ands; refine step_append_rows _ (by rfl) _ _ _ (by rfl) D 23 i0 _ 3 24 Try.underlying28 hi hz0 hz1 hz2 rfl (by omega) v6 (0 + nl) ([] ++ accs L.lv) (by rfl) (by assumption) v7 nr (accs R.lv) (by rfl) (lies_of_own (by assumption)) HRl.out (accs_one _) (by omega) (by omega) (by first | assumption | (simp; omega)) ?_; intro v8 w8 ho8 hg hbG; have hB := hbG D w3 (Nat.le_refl _) (by first | assumption | (refine Below.alloc ?_ ?_ _ <;> assumption) | (refine Below.drew ?_; assumption)); obtain ⟨t0, t00, t1, t2, t3, t4, t5, t6, t7, t8, t9, t10⟩ := HS.out _ hB; dsimp only at t1 t2 t3 t4 t5 t6 t7 t8 t9 t10; clear hg hbG hB)
      | (go_split_ands; refine step_append_rows _ (by rfl) _ _ _ (by rfl) D 23 i0 _ 3 24 Try.underlying28 hi hz0 hz1 hz2 rfl (by omega) (.slice (some ⟨w3.heap.size, 0, none⟩) 0 0) 0 [] (by rfl) (by assumption) v5 nl (accs L.lv) (by rfl) (lies_of_own ho5) HLl.out (accs_one _) (by omega) (by omega) (by first | assumption | (simp; omega)) ?_; intro v6 w6 ho6 hg hbG; have hB := hbG D w3 (Nat.le_refl _) (by first | assumption | (refine Below.alloc ?_ ?_ _ <;> assumption) | (refine Below.drew ?_; assumption)); obtain ⟨x0, x00, x1, x2, x3, x4, x5, x6, x7, x8, x9, x10⟩ := HS.out _ hB; dsimp only at x1 x2 x3 x4 x5 x6 x7 x8 x9 x10; clear hg hbG hB)
      | (go_split_ands; refine step_append_rows _ (by rfl) _ _ _ (by rfl) D 23 i0 _ 3 24 Try.underlying28 hi hz0 hz1 hz2 rfl (by omega) (.slice (some ⟨w5.heap.size, 0, none⟩) 0 0) 0 [] (by rfl) (by first | exact own_empty w5 D 23 3 y00 | exact World.ownsRow.drew (own_empty w5 D 23 3 y00)) v5 nl (accs L.lv) (by rfl) (lies_of_own (World.ownsRow.alloc ho5 _)) HLl.out (accs_one _) (by omega) (by omega) (by first | assumption | (simp; omega)) ?_; intro v6 w6 ho6 hg hbG; have hB := hbG D w3 (Nat.le_refl _) (by first | assumption | (refine Below.alloc ?_ ?_ _ <;> assumption) | (refine Below.drew ?_; assumption)); obtain ⟨x0, x00, x1, x2, x3, x4, x5, x6, x7, x8, x9, x10⟩ := HS.out _ hB; dsimp only at x1 x2 x3 x4 x5 x6 x7 x8 x9 x10; clear hg hbG hB))
  all_goals
    go_wp2_with fail
    go_ret
    refine ⟨_, rfl, ?_, HB3.out.trans (t0.mono HBD.out)⟩
    rw [HLV.out, List.length_append, accs_app, ← HNL.out, ← HNR.out]
    rw [Nat.zero_add, List.nil_append] at ho8
    exact own_more ho8 HBD.out

theorem dleaves_any (T : Tm) : DLeavesS T := by
  induction T with
  | nil => exact dleaves_none _ (.inl rfl)
  | one a => exact dleaves_none _ (.inr ⟨a, rfl⟩)
  | seq l r il ir => exact dleaves_two _ l r (.inl rfl) il ir
  | par l r il ir => exact dleaves_two _ l r (.inr rfl) il ir
end Go.Proofs.Ytidgibkiacbgfaa
