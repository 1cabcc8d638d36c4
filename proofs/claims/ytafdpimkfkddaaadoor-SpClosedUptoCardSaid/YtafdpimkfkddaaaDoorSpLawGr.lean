/-
  The law SpGraphs, as a walk.
-/
import Derived.Test.YtafdpimkfkddaaaDoorSpDn
import Derived.Test.YtafdpimkfkddaaaDoorSpDg
import Derived.Test.YtafdpimkfkddaaaDoorSpSg
namespace Go.Proofs.YtafdpimkfkddaaaDoor
open Go.RowKit
set_option maxRecDepth 100000

/-- what a term's graph is: its nodes, its edges, the error -/
def Tm.gN (T : Tm) : Int := if 200 < T.sz then 0 else T.sz
def Tm.gE (T : Tm) : List (Int × Int) := if 200 < T.sz then [] else T.eds
def Tm.gR (T : Tm) : Int := if 200 < T.sz then 2 else 0
theorem rdEg_nil (w : World) (B : Nat) : RdEg w B none [] := ⟨by simp, fun h => by simp at h⟩
theorem eds_len (T : Tm) (h : T.sz ≤ 200) : T.eds.length ≤ 1099511627776 := by
  have := T.edK_len h T.sz 0 h (by omega)
  unfold Tm.eds
  omega

theorem graph_any (T : Tm) (h : Hd) (w : World) (hT : TIn w w.heap.size T h) (hs : T.sz ≤ 1048576) :
    Calls Tryd.prog 6 #[.agg h.cells] w fun e w' => ∃ A c, e = .returned (.tuple #[.agg #[.int .i64 T.gN, .slice A T.gE.length c], .int .i64 T.gR]) ∧ RdEg w' w'.heap.size A T.gE ∧ Below w.heap.size w w' := by
  unfold Tm.gN Tm.gE Tm.gR
  by_cases hb : 200 < T.sz
  · rw [if_pos hb, if_pos hb, if_pos hb]
    exact (graph_many T h w hT hs hb).mono fun e w' ⟨h1, h2⟩ => ⟨none, 0, h1, rdEg_nil _ _, h2⟩
  · rw [if_neg hb, if_neg hb, if_neg hb]
    exact (graph_few T h w hT (by omega)).mono fun e w' ⟨A, c, h1, h2, h3⟩ => ⟨A, c, h1, own_rdEg h2 (eds_len T (by omega)), h3⟩
theorem dgraph_any (T : Tm) (h : Hd) (w : World) (hT : TIn w w.heap.size T h) (hs : T.sz ≤ 1048576) :
    Calls Tryd.prog 7 #[.agg h.cells] w fun e w' => ∃ A c, e = .returned (.tuple #[.agg #[.int .i64 T.gN, .slice A T.gE.length c], .int .i64 T.gR]) ∧ RdEg w' w'.heap.size A T.gE ∧ Below w.heap.size w w' := by
  unfold Tm.gN Tm.gE Tm.gR
  by_cases hb : 200 < T.sz
  · rw [if_pos hb, if_pos hb, if_pos hb]
    exact (dgraph_many T h w hT hs hb).mono fun e w' ⟨h1, h2⟩ => ⟨none, 0, h1, rdEg_nil _ _, h2⟩
  · rw [if_neg hb, if_neg hb, if_neg hb]
    exact (dgraph_few T h w hT (by omega)).mono fun e w' ⟨A, c, h1, h2, h3⟩ => ⟨A, c, h1, own_rdEg h2 (eds_len T (by omega)), h3⟩

/-- what is held in the law's last statement -/
@[reducible] def SG (w5 : World) (D B B3 B5 : Nat) (h : Hd) (N : Int) (v3 v5 : Value) (W : World) : Prop :=
  Below D w5 W ∧ D ≤ W.heap.size ∧
  W.cell? ⟨B, 0, none⟩ = some (.int .i64 h.k) ∧ W.cell? ⟨B, 1, none⟩ = some (.int .i64 h.c) ∧ W.cell? ⟨B, 2, none⟩ = some (.bool h.x) ∧ W.cell? ⟨B, 3, none⟩ = some (.int .i64 h.l) ∧ W.cell? ⟨B, 4, none⟩ = some (.slice h.A h.n h.cap) ∧
  W.cell? ⟨B3, 0, none⟩ = some (.int .i64 N) ∧ W.cell? ⟨B3, 1, none⟩ = some v3 ∧ W.cell? ⟨B5, 0, none⟩ = some (.int .i64 N) ∧ W.cell? ⟨B5, 1, none⟩ = some v5
theorem SG.mk {w5 W : World} {D B B3 B5 : Nat} {h : Hd} {N : Int} {v3 v5 : Value} {T : TypeId} (t : TB T w5 B h) (g3 : GrB w5 B3 N v3) (g5 : GrB w5 B5 N v5) (hD : D = w5.heap.size) (hb : Below D w5 W) : SG w5 D B B3 B5 h N v3 v5 W := by
  have l := hD ▸ t.lt
  have l3 := hD ▸ g3.lt
  have l5 := hD ▸ g5.lt
  exact ⟨hb, hD ▸ hb.size, (hb.cell (p := ⟨B, 0, none⟩) l).trans t.c0, (hb.cell (p := ⟨B, 1, none⟩) l).trans t.c1, (hb.cell (p := ⟨B, 2, none⟩) l).trans t.c2, (hb.cell (p := ⟨B, 3, none⟩) l).trans t.c3, (hb.cell (p := ⟨B, 4, none⟩) l).trans t.c4,
    (hb.cell (p := ⟨B3, 0, none⟩) l3).trans g3.n, (hb.cell (p := ⟨B3, 1, none⟩) l3).trans g3.e, (hb.cell (p := ⟨B5, 0, none⟩) l5).trans g5.n, (hb.cell (p := ⟨B5, 1, none⟩) l5).trans g5.e⟩

set_option maxHeartbeats 2000000 in
theorem spGraphsLaw_any (T : Tm) (h : Hd) (w : World) (hT : TIn w w.heap.size T h) (hs : T.sz ≤ 1048576) (hTab : Tab w) :
    Calls Tryd.prog 3 #[.agg h.cells] w fun e w' => e = .returned (.bool true) ∧ Below w.heap.size w w' := by
  have key : ∃ w1, w1 = w.alloc (.cells h.cells 26) ∧ Below w.heap.size w w1 ∧ TB 26 w1 w.heap.size h := ⟨_, rfl, (Below.refl _ _).alloc (Nat.le_refl _) _, TB.new _ _ _⟩
  obtain ⟨w1, hw1, hb1, ht1⟩ := key
  have hs1 : w.heap.size + 1 = w1.heap.size := by rw [hw1]; simp
  have hT1 := (hT.below hb1 (Nat.le_refl _)).more (show w.heap.size ≤ w1.heap.size by omega)
  have hTab1 : Tab w1 := hTab.step hb1
  have HTB : Hid (∀ W, Below w1.heap.size w1 W → TB 26 W w.heap.size h) := Lib.hid fun W hW => (hW.block _ (by omega)).trans ht1
  have hTW : ∀ W, Below w1.heap.size w1 W → TIn W W.heap.size T h := fun W hW => (hT1.below hW (Nat.le_refl _)).more hW.size
  obtain ⟨N, hN⟩ : ∃ N, N = T.gN := ⟨_, rfl⟩
  obtain ⟨R, hR⟩ : ∃ R, R = T.gR := ⟨_, rfl⟩
  obtain ⟨es, hes⟩ : ∃ es, es = T.gE := ⟨_, rfl⟩
  obtain ⟨m, hm⟩ : ∃ m, m = es.length := ⟨_, rfl⟩
  obtain ⟨cn, hcn⟩ : ∃ cn, cn = T.cnt % 18446744073709551616 := ⟨_, rfl⟩
  have HG : Hid (∀ W, Below w1.heap.size w1 W → Calls Tryd.prog 6 #[.agg h.cells] W fun e w' => ∃ A c, e = .returned (.tuple #[.agg #[.int .i64 N, .slice A m c], .int .i64 R]) ∧ RdEg w' w'.heap.size A es ∧ Below W.heap.size W w') := Lib.hid fun W hW => by
    rw [hm, hN, hR, hes]
    exact graph_any T h W (hTW W hW) hs
  have HDG : Hid (∀ W, Below w1.heap.size w1 W → Calls Tryd.prog 7 #[.agg h.cells] W fun e w' => ∃ A c, e = .returned (.tuple #[.agg #[.int .i64 N, .slice A m c], .int .i64 R]) ∧ RdEg w' w'.heap.size A es ∧ Below W.heap.size W w') := Lib.hid fun W hW => by
    rw [hm, hN, hR, hes]
    exact dgraph_any T h W (hTW W hW) hs
  have HC : Hid (∀ W, Below w1.heap.size w1 W → Calls Tryd.prog 9 #[.agg h.cells] W fun e w' => e = .returned (.int .u64 (cn : Int)) ∧ Below W.heap.size W w') := Lib.hid fun W hW => by
    rw [hcn]
    exact count_any T h W (hTW W hW) hs (hTab1.step hW)
  have HDC : Hid (∀ W, Below w1.heap.size w1 W → Calls Tryd.prog 10 #[.agg h.cells] W fun e w' => e = .returned (.int .u64 (cn : Int)) ∧ Below W.heap.size W w') := Lib.hid fun W hW => by
    rw [hcn]
    exact dcount_any T h W (hTW W hW) hs (hTab1.step hW)
  have HSG : Hid (∀ W A A' c c', RdEg W W.heap.size A es → RdEg W W.heap.size A' es → Calls Tryd.prog 8 #[.agg #[.int .i64 N, .slice A m c], .agg #[.int .i64 N, .slice A' m c']] W fun e w' => e = .returned (.bool true) ∧ Below W.heap.size W w') := Lib.hid fun W A A' c c' h1 h2 => by
    rw [hm]
    exact sameGraph_same N A A' c c' es W h1 h2
  have HB1 := Lib.hid hb1
  have HS1 := Lib.hid hs1
  have HW1 := Lib.hid (Below.refl w1.heap.size w1)
  have k0 := ht1.c0
  have k1 := ht1.c1
  have k2 := ht1.c2
  have k3 := ht1.c3
  have k4 := ht1.c4
  obtain ⟨k, c, x, l, A, q, cap⟩ := h
  dsimp only [Hd.cells] at hw1 HG HDG HC HDC k0 k1 k2 k3 k4 ⊢
  clear hT hs hTab hb1 ht1 hs1 hT1 hTab1 hTW hN hR hes hm hcn
  go_enter Tryd.func3, Tryd.ntmps3
  go_wp2_with (first
    | (go_at_call 6; rw [← hw1]; refine (HG.out _ HW1.out).mono ?_; rintro e w2 ⟨A2, c2, rfl, hr2, hb2⟩; have ht2 := HTB.out w2 hb2; have y0 := ht2.c0; have y1 := ht2.c1; have y2 := ht2.c2; have y3 := ht2.c3; have y4 := ht2.c4; dsimp only at y0 y1 y2 y3 y4; have hlt2 : w.heap.size < w2.heap.size := ht2.lt; have HB12 := Lib.hid (hb2.alloc hb2.size (.cells #[.int .i64 N, .slice A2 m c2] 29)))
    | (go_at_call 7; refine (HDG.out _ HB12.out).mono ?_; rintro e w4 ⟨A4, c4, rfl, hr4, hb4⟩)
    | fail)
  obtain ⟨w3, hw3⟩ : ∃ w3, w3 = w2.alloc (.cells #[.int .i64 N, .slice A2 m c2] 29) := ⟨_, rfl⟩
  obtain ⟨w5, hw5⟩ : ∃ w5, w5 = w4.alloc (.cells #[.int .i64 N, .slice A4 m c4] 29) := ⟨_, rfl⟩
  obtain ⟨D, hD⟩ : ∃ D, D = w5.heap.size := ⟨_, rfl⟩
  obtain ⟨B3, hB3⟩ : ∃ B3, B3 = w2.heap.size := ⟨_, rfl⟩
  obtain ⟨B5, hB5⟩ : ∃ B5, B5 = w4.heap.size := ⟨_, rfl⟩
  have hb13 := HB12.out
  rw [← hw3] at hb4 hb13
  have hs3 : w3.heap.size = w2.heap.size + 1 := by rw [hw3]; simp
  have hs5 : w5.heap.size = w4.heap.size + 1 := by rw [hw5]; simp
  have hs12 := hb2.size
  have hs34 := hb4.size
  have hb45 : Below w4.heap.size w4 w5 := by rw [hw5]; exact (Below.refl _ _).alloc (Nat.le_refl _) _
  have hb15 : Below w1.heap.size w1 w5 := hb13.trans ((hb4.mono (by omega)).trans (hb45.mono (by omega)))
  have g3 : GrB w5 B3 N (.slice A2 m c2) := by
    have h3 : GrB w3 B3 N (.slice A2 m c2) := by rw [hw3, hB3]; exact World.alloc_heap_new w2 _
    exact (hb45.block _ (by omega)).trans ((hb4.block _ (by omega)).trans h3)
  have g5 : GrB w5 B5 N (.slice A4 m c4) := by rw [hw5, hB5]; exact World.alloc_heap_new w4 _
  have ht5 := HTB.out w5 hb15
  have hr25 : RdEg w5 D A2 es := ((((hr2.below (show Below w2.heap.size w2 w3 by rw [hw3]; exact (Below.refl _ _).alloc (Nat.le_refl _) _)).below (hb4.mono (by omega))).below (hb45.mono (by omega)))).more (by omega)
  have hr45 : RdEg w5 D A4 es := (hr4.below hb45).more (by omega)
  have HS : Hid (∀ W, Below D w5 W → SG w5 D w.heap.size B3 B5 ⟨k, c, x, l, A, q, cap⟩ N (.slice A2 m c2) (.slice A4 m c4) W) := Lib.hid fun W hW => SG.mk ht5 g3 g5 hD hW
  have hDw : ∀ W, Below D w5 W → D ≤ W.heap.size := fun W hW => by rw [hD]; exact hW.size
  have hW1 : ∀ W, Below D w5 W → Below w1.heap.size w1 W := fun W hW => hb15.trans (hW.mono (by omega))
  have HSG2 : Hid (∀ W, Below D w5 W → Calls Tryd.prog 8 #[.agg #[.int .i64 N, .slice A2 m c2], .agg #[.int .i64 N, .slice A4 m c4]] W fun e w' => e = .returned (.bool true) ∧ SG w5 D w.heap.size B3 B5 ⟨k, c, x, l, A, q, cap⟩ N (.slice A2 m c2) (.slice A4 m c4) w') := Lib.hid fun W hW =>
    (HSG.out W A2 A4 c2 c4 ((hr25.below hW).more (hDw W hW)) ((hr45.below hW).more (hDw W hW))).mono fun e w' ⟨h1, h2⟩ => ⟨h1, HS.out w' (hW.trans (h2.mono (hDw W hW)))⟩
  have HC2 : Hid (∀ W, Below D w5 W → Calls Tryd.prog 9 #[.agg #[.int .i64 k, .int .i64 c, .bool x, .int .i64 l, .slice A q cap]] W fun e w' => e = .returned (.int .u64 (cn : Int)) ∧ SG w5 D w.heap.size B3 B5 ⟨k, c, x, l, A, q, cap⟩ N (.slice A2 m c2) (.slice A4 m c4) w') := Lib.hid fun W hW =>
    (HC.out W (hW1 W hW)).mono fun e w' ⟨h1, h2⟩ => ⟨h1, HS.out w' (hW.trans (h2.mono (hDw W hW)))⟩
  have HDC2 : Hid (∀ W, Below D w5 W → Calls Tryd.prog 10 #[.agg #[.int .i64 k, .int .i64 c, .bool x, .int .i64 l, .slice A q cap]] W fun e w' => e = .returned (.int .u64 (cn : Int)) ∧ SG w5 D w.heap.size B3 B5 ⟨k, c, x, l, A, q, cap⟩ N (.slice A2 m c2) (.slice A4 m c4) w') := Lib.hid fun W hW =>
    (HDC.out W (hW1 W hW)).mono fun e w' ⟨h1, h2⟩ => ⟨h1, HS.out w' (hW.trans (h2.mono (hDw W hW)))⟩
  have HEND : Hid (∀ W, Below D w5 W → Below w.heap.size w W) := Lib.hid fun W hW => HB1.out.trans ((hW1 W hW).mono (by have := HS1.out; omega))
  obtain ⟨z0, z00, z1, z2, z3, z4, z5, z6, z7, z8, z9⟩ := HS.out w5 (Below.refl _ _)
  dsimp only at z1 z2 z3 z4 z5
  rw [← hw5, ← hB3, ← hB5]
  clear hb2 hb4 hr2 hr4 ht2 y0 y1 y2 y3 y4 hlt2 hw3 hw5 hD hB3 hB5 hb13 hs3 hs5 hs12 hs34 hb45 hb15 g3 g5 ht5 hr25 hr45 hDw hW1 k0 k1 k2 k3 k4 hw1
  go_region_held3 (SG w5 D w.heap.size B3 B5 ⟨k, c, x, l, A, q, cap⟩ N (.slice A2 m c2) (.slice A4 m c4))
    (first
      | (go_split_ands; refine ⟨?_, ?_, ?_, ?_, ?_, ?_, ?_, ?_, ?_, ?_, ?_⟩ <;> assumption)
      | (go_split_ands; exact HS.out _ (by first | assumption | (refine Below.drew ?_; assumption))))
    (first
      | (go_at_call 8; go_split_ands; refine (HSG2.out _ (by assumption)).mono ?_; rintro e w6 ⟨rfl, hS6⟩; obtain ⟨y0, y00, y1, y2, y3, y4, y5, y6, y7, y8, y9⟩ := hS6; dsimp only at y1 y2 y3 y4 y5)
      | (go_at_call 9; go_split_ands; refine (HC2.out _ (by assumption)).mono ?_; rintro e w7 ⟨rfl, hS7⟩; obtain ⟨x0, x00, x1, x2, x3, x4, x5, x6, x7, x8, x9⟩ := hS7; dsimp only at x1 x2 x3 x4 x5)
      | (go_at_call 10; go_split_ands; refine (HDC2.out _ (by assumption)).mono ?_; rintro e w8 ⟨rfl, hS8⟩; obtain ⟨t0, t00, t1, t2, t3, t4, t5, t6, t7, t8, t9⟩ := hS8; dsimp only at t1 t2 t3 t4 t5)
      | fail)
  all_goals
    go_wp2_with fail
    go_ret
    exact ⟨by simp, HEND.out _ t0⟩
end Go.Proofs.YtafdpimkfkddaaaDoor
