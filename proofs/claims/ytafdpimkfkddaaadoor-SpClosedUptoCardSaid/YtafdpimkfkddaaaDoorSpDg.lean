/-
  Contract of the reference's DGraph.
-/
import Derived.Test.YtafdpimkfkddaaaDoorSpDk
import Derived.Test.YtafdpimkfkddaaaDoorSpG2
namespace Go.Proofs.YtafdpimkfkddaaaDoor
open Go.RowKit Go.Deep
set_option maxRecDepth 100000

/-- an edge is appended -/
theorem gr_step1 {G n : Nat} {w4 W w7 : World} {L : List (Int × Int)} {v v7 : Value} {x y : Int} {o1 : Obj} (hgr : GrB W G n v) (hrow : W.ownsRow (G + 1) 56 2 v L.length (edV L)) (hbr : Below G w4 W)
    (hown7 : w7.ownsRow (G + 1) 56 2 v7 (L.length + 1) (edV L ++ [.int .i64 x, .int .i64 y])) (hgrow : (W.alloc o1).grownBy w7 v.ownBlock) :
    GrI G n w4 (w7.setCell ⟨G, 1, none⟩ v7) (L ++ [(x, y)]) ∧ GrB w7 G n v := by
  have h1 : GrB w7 G n v := (hgr.alloc o1).kept hgrow (hgr.not_row (by decide) hrow)
  refine ⟨⟨v7, h1.set v7, ?_, ?_⟩, h1⟩
  · rw [edV_snoc, List.length_append, List.length_singleton]
    exact ownsRow_setCell_other hown7 (h1.not_row (by decide) hown7).symm v7
  · have hlt := hgr.lt
    exact (((hbr.alloc (by omega) o1).grown hgrow (by simp; omega) fun j ej => by have := (hrow.lt j ej).1; omega).setCell (p := ⟨G, 1, none⟩) (Nat.le_refl _) v7)

/-- DGraph's opening -/
theorem dg_open (h : Hd) (w : World) : ∃ w1, w1 = (w.alloc (.cells h.cells 26)).alloc (.cells #[.int .i64 0, .slice none 0 0] 29) ∧ Below w.heap.size w w1 ∧ TB 26 w1 w.heap.size h ∧ GrB w1 (w.heap.size + 1) 0 (.slice none 0 0) ∧ w1.heap.size = w.heap.size + 1 + 1 := by
  refine ⟨_, rfl, ((Below.refl _ _).alloc (Nat.le_refl _) _).alloc (by simp) _, (TB.new _ _ _).alloc _, ?_, by simp⟩
  have := World.alloc_heap_new (w.alloc (.cells h.cells 26)) (.cells #[.int .i64 0, .slice none 0 0] 29)
  rw [World.size_alloc] at this
  exact this

theorem dgraph_many (T : Tm) (h : Hd) (w : World) (hT : TIn w w.heap.size T h) (hs : T.sz ≤ 1048576) (hbig : 200 < T.sz) :
    Calls Tryd.prog 7 #[.agg h.cells] w fun e w' => e = .returned (.tuple #[.agg #[.int .i64 0, .slice none 0 0], .int .i64 2]) ∧ Below w.heap.size w w' := by
  obtain ⟨w1, hw1, hb1, ht1, hg1, hs1⟩ := dg_open h w
  have hT1 := (hT.below hb1 (Nat.le_refl _)).more (show w.heap.size ≤ w1.heap.size by omega)
  obtain ⟨n, hn⟩ : ∃ n, n = T.sz := ⟨_, rfl⟩
  have HD : Hid (Calls Tryd.prog 17 #[.agg h.cells] w1 fun e w' => ∃ A c, e = .returned (.slice A n c) ∧ Below w1.heap.size w1 w') := Lib.hid (by
    refine (dleaves_any T h w1 hT1 hs).mono fun e w' ⟨v, h1, h2, h3⟩ => ?_
    rw [T.lv_len, ← hn] at h2
    obtain ⟨A, c, rfl⟩ := own_form2 h2
    exact ⟨A, c, h1, h3⟩)
  have hnb : (200 : Int) < (n : Int) := by omega
  have hlt : w.heap.size + 1 < w1.heap.size := by omega
  have k0 := ht1.c0
  have k1 := ht1.c1
  have k2 := ht1.c2
  have k3 := ht1.c3
  have k4 := ht1.c4
  obtain ⟨k, c, x, l, A, m, cap⟩ := h
  dsimp only [Hd.cells] at hw1 HD k0 k1 k2 k3 k4 ⊢
  have HG := Lib.hid hg1
  have HB1 := Lib.hid hb1
  have HS := Lib.hid hs1
  clear hT hT1 hb1 ht1 hg1 hn hs hbig hs1
  go_enter Tryd.func7, Tryd.ntmps7
  go_wp2_with (first
    | (rw [← hw1]; refine HD.out.mono ?_; rintro e w2 ⟨A2, c2, rfl, hb2⟩; have hg2 : GrB w2 (w.heap.size + 1) 0 (.slice none 0 0) := (hb2.block _ hlt).trans HG.out; have g0 := hg2.n; have g1 := hg2.e; have gf := hg2.frozen)
    | fail)
  have hg3 := (hg2.set0 0).set (.slice none 0 0)
  refine bodyPost_ret (results_gr rfl _ _ (w.heap.size + 1) _ _ rfl hg3) rfl ⟨rfl, ?_⟩
  exact ((HB1.out.trans (hb2.mono (by omega))).setCell (p := ⟨w.heap.size + 1, 0, none⟩) (by dsimp only; omega) _).setCell (p := ⟨w.heap.size + 1, 1, none⟩) (by dsimp only; omega) _

set_option maxHeartbeats 1000000 in
theorem dgraph_few (T : Tm) (h : Hd) (w : World) (hT : TIn w w.heap.size T h) (hs : T.sz ≤ 200) :
    Calls Tryd.prog 7 #[.agg h.cells] w fun e w' => ∃ A c, e = .returned (.tuple #[.agg #[.int .i64 T.sz, .slice A T.eds.length c], .int .i64 0]) ∧ w'.ownsRow w.heap.size 56 2 (.slice A T.eds.length c) T.eds.length (edV T.eds) ∧ Below w.heap.size w w' := by
  obtain ⟨w1, hw1, hb1, ht1, hg1, hs1⟩ := dg_open h w
  have hT1 := (hT.below hb1 (Nat.le_refl _)).more (show w.heap.size ≤ w1.heap.size by omega)
  obtain ⟨n, hn⟩ : ∃ n, n = T.sz := ⟨_, rfl⟩
  have HD : Hid (Calls Tryd.prog 17 #[.agg h.cells] w1 fun e w' => ∃ A c, e = .returned (.slice A n c) ∧ Below w1.heap.size w1 w') := Lib.hid (by
    refine (dleaves_any T h w1 hT1 (by omega)).mono fun e w' ⟨v, h1, h2, h3⟩ => ?_
    rw [T.lv_len, ← hn] at h2
    obtain ⟨A, c, rfl⟩ := own_form2 h2
    exact ⟨A, c, h1, h3⟩)
  have HDM : Hid (∀ (W : World) (g : Nat) (F : Nat → Nat → Bool), Below w1.heap.size w1 W → w1.heap.size ≤ g → SM 58 4 W g n F → Calls Tryd.prog 18 #[.agg h.cells, .int .i64 0, .slice (some ⟨g, 0, none⟩) n n] W fun e w' => e = .returned (.int .i64 (0 + n : Nat)) ∧ SM 58 4 w' g n (fun x y => F x y || T.befF 0 x y) ∧ FrM g n W w') := Lib.hid fun W g F hW hg hF => by
    have := dmark_any T h W 0 g n w1.heap.size F (hT1.below hW (Nat.le_refl _)) hg hF (by omega) (by omega)
    rw [← hn] at this
    exact this
  have HTB : Hid (∀ W, Below w1.heap.size w1 W → TB 26 W w.heap.size h ∧ GrB W (w.heap.size + 1) 0 (.slice none 0 0)) := Lib.hid fun W hW => ⟨(hW.block _ (by omega)).trans ht1, (hW.block _ (by omega)).trans hg1⟩
  rw [← hn] at hs
  have hmk1 := run_make_row' (P := Tryd.prog) 57 58 (.slice none 0 0) 24 Tryd.underlying57 Tryd.infoRowB rfl .i64 .i64 n (by omega) (by omega)
  have hmk2 := run_make_row' (P := Tryd.prog) 58 4 (.bool false) 1 Tryd.underlying58 Tryd.infoBoolB rfl .i64 .i64 n (by omega) (by omega)
  have k0 := ht1.c0
  have k1 := ht1.c1
  have k2 := ht1.c2
  have k3 := ht1.c3
  have k4 := ht1.c4
  obtain ⟨k, c, x, l, A, m, cap⟩ := h
  dsimp only [Hd.cells] at hw1 HD HDM k0 k1 k2 k3 k4 ⊢
  have HB1 := Lib.hid hb1
  have HS := Lib.hid hs1
  have HN := Lib.hid hn
  clear hT hT1 hb1 ht1 hg1 hn hs1
  go_enter Tryd.func7, Tryd.ntmps7
  go_wp2_with (first
    | (rw [← hw1]; refine HD.out.mono ?_; rintro e w2 ⟨A2, c2, rfl, hb2⟩)
    | fail)
  clear hw1 k0 k1 k2 k3 k4
  have hM0 := World.rowIs_made w2 (.slice none 0 0) n 58
  obtain ⟨w3, hw3⟩ : ∃ w3, w3 = w2.alloc (.cells (madeCells #[.slice none 0 0] n) 58) := ⟨_, rfl⟩
  have hb3 : Below w2.heap.size w2 w3 := by rw [hw3]; exact (Below.refl _ _).alloc (Nat.le_refl _) _
  have hs3 : w3.heap.size = w2.heap.size + 1 := by rw [hw3]; simp
  rw [← hw3] at hM0 ⊢
  obtain ⟨g, hg⟩ : ∃ g, g = w2.heap.size := ⟨_, rfl⟩
  rw [← hg] at hb3 hs3 hM0 ⊢
  have hBM0 : SM0 58 4 w3 g n 0 := ⟨hM0.congr fun i hi => by simp, fun i hi => by omega, by omega⟩
  have hg1 : w1.heap.size ≤ g := by rw [hg]; exact hb2.size
  have HB2 := Lib.hid hb2
  have HG1 := Lib.hid hg1
  have HGG := Lib.hid hg
  clear hw3 hM0 hs3 hg hb2 hg1
  go_loopw [20] (fun i wr => ∃ k : Nat, k ≤ n ∧ i = .int .i64 k ∧ SM0 58 4 wr g n k ∧ Below g w2 wr) (fun i _ => n - (intOf i).toNat)
  case atStart => exact ⟨0, Nat.zero_le _, rfl, hBM0, hb3⟩
  case round =>
    obtain ⟨k, hk, rfl, hM, hbr⟩ := hrel
    have hsz := Lib.hid hM.size
    clear hBM0 hb3
    by_cases hlt : k < n
    · have hlg := hM.row.lt
      have hck := fun o => ((hM.row.alloc o).cell hlt)
      have hfk := fun o => ((hM.row.alloc o).frozen k)
      have hst := Lib.hid hM.step
      clear hmk1
      go_wp2
      go_roundw
      case rel => exact ⟨k + 1, by omega, by go_num, hst.out, (hbr.setCell (p := ⟨g, k, none⟩) (Nat.le_refl _) _).alloc (by simp; omega) _⟩
      case measure => simp [intOf]; omega
    · obtain rfl : k = n := by omega
      have hM2 : SM 58 4 wr g k (fun i j => false) :=
        ⟨hM.row.congr fun i hi => by rw [if_pos hi], fun i hi => (hM.el i hi).congr fun j hj => by simp⟩
      have hbw : Below w1.heap.size w1 wr := HB2.out.trans (hbr.mono HG1.out)
      obtain ⟨tb, _⟩ := HTB.out wr hbw
      have k0 := tb.c0
      have k1 := tb.c1
      have k2 := tb.c2
      have k3 := tb.c3
      have k4 := tb.c4
      dsimp only at k0 k1 k2 k3 k4
      have HBW := Lib.hid hbw
      have HM2 := Lib.hid hM2
      clear hM hmk1 hmk2 hsz hbr tb hM2 hbw
      go_wp2_with (first
        | (refine (HDM.out _ g _ HBW.out HG1.out HM2.out).mono ?_; rintro e w5 ⟨rfl, hS5, hf5⟩)
        | fail)
      clear k0 k1 k2 k3 k4
      have hgl : g < w5.heap.size := hS5.row.lt
      obtain ⟨G, hG⟩ : ∃ G, G = w5.heap.size := ⟨_, rfl⟩
      obtain ⟨w6, hw6⟩ : ∃ w6, w6 = w5.alloc (.cells #[.int .i64 (k : Int), .slice none 0 0] 29) := ⟨_, rfl⟩
      have hgr6 : GrB w6 G k (.slice none 0 0) := by rw [hw6, hG]; exact World.alloc_heap_new w5 _
      have hb56 : Below G w5 w6 := by rw [hw6, hG]; exact (Below.refl _ _).alloc (Nat.le_refl _) _
      have HSM : Hid (∀ W, Below G w6 W → SM 58 4 W g k (fun x y => T.bef (x : Int) (y : Int))) := Lib.hid fun W hW => by
        refine (hS5.step (show Below w5.heap.size w5 W by rw [← hG]; exact hb56.trans hW)).congr fun x y _ _ => ?_
        rw [Bool.false_or]
        unfold Tm.befF
        rw [show (x : Int) - ((0 : Nat) : Int) = x by omega, show (y : Int) - ((0 : Nat) : Int) = y by omega]
      have hS := HS.out
      have hgw : w.heap.size + 1 < g := by have := HG1.out; omega
      have hgrw : GrB wr (w.heap.size + 1) 0 (.slice none 0 0) := (HTB.out wr HBW.out).2
      have HGR : Hid (∀ W, Below G w6 W → GrB W (w.heap.size + 1) 0 (.slice none 0 0)) := Lib.hid fun W hW => ((hb56.trans hW).block _ (by omega)).trans ((hf5.low.block _ hgw).trans hgrw)
      have HBL : Hid (∀ W, Below G w6 W → Below w.heap.size w W) := Lib.hid fun W hW => HB1.out.trans ((HBW.out.mono (by omega)).trans ((hf5.low.mono (by omega)).trans ((hb56.trans hW).mono (by omega))))
      have HI6 : Hid (GrI G k w6 w6 (T.edK 0 0)) := Lib.hid ⟨_, hgr6, World.ownsRow_nil _ _ _ _, Below.refl _ _⟩
      have HG6 : Hid (G < w6.heap.size) := Lib.hid hgr6.lt
      have HGW : Hid (w.heap.size + 1 < G ∧ w.heap.size ≤ G) := Lib.hid ⟨by omega, by omega⟩
      obtain ⟨i0, hi, hz0, hz1, hz2⟩ := Tryd.infoEdP
      rw [← hw6, ← hG]
      clear hS5 hf5 hgl hG hw6 hgr6 hb56 hS hgw hgrw
      obtain ⟨n, hn⟩ : ∃ n, n = k := ⟨_, rfl⟩
      subst hn
      go_loopw [36] (fun i wr => ∃ k : Nat, k ≤ n ∧ i = .int .i64 k ∧ Hid (GrI G n w6 wr (T.edK k 0))) (fun i _ => n - (intOf i).toNat)
      case atStart => exact ⟨0, Nat.zero_le _, rfl, HI6⟩
      case round =>
        obtain ⟨k, hk, rfl, hI⟩ := hrel
        by_cases hlt' : k < n
        · have n1 : (0 : Int) ≤ (k : Int) := by omega
          have n2 : (k : Int) < (n : Int) := by omega
          have HI := Lib.hid hI.out
          clear hI
          go_wp2_with fail
          go_loopw [41] (fun i wr => ∃ j : Nat, j ≤ n ∧ i = .int .i64 j ∧ Hid (GrI G n w6 wr (T.edK k j))) (fun i _ => n - (intOf i).toNat)
          case atStart => exact ⟨0, Nat.zero_le _, rfl, HI⟩
          case round =>
            obtain ⟨j, hj, rfl, hI6⟩ := hrel
            by_cases hjn : j < n
            · obtain ⟨v6, hgr6, hrow6, hbr6⟩ := hI6.out
              have hS := HSM.out wr hbr6
              have c1 := hS.c1 hlt'
              have c2' := hS.c2 hlt' hjn
              have n4 : (0 : Int) ≤ (j : Int) := by omega
              have n5 : (j : Int) < (n : Int) := by omega
              clear hS
              by_cases hb : T.bef (k : Int) (j : Int) = true
              · have hyes : T.edK k (j + 1) = T.edK k j ++ [((k : Int), (j : Int))] := T.edK_yes k j hb
                have hlen := T.edK_len (by have := HN.out; omega) k j (by omega) (by omega)
                rw [hb] at c2'
                obtain ⟨L, hL⟩ : ∃ L, L = (T.edK k j).length := ⟨_, rfl⟩
                rw [← hL] at hrow6 hlen
                have hin1 : L + 1 ≤ maxLen := by unfold maxLen; omega
                have hin2 : (L + 1) * 16 ≤ 140737488355328 := by omega
                have HNW := Lib.hid (World.alloc_heap_new wr (.cells #[.int .i64 (k : Int), .int .i64 (j : Int)] 56))
                have hbs : G + 1 ≤ (wr.alloc (.cells #[.int .i64 (k : Int), .int .i64 (j : Int)] 56)).heap.size := by
                  have := hgr6.lt
                  simp
                  omega
                have HBS := Lib.hid hbs
                have hge := hgr6.e
                have hglt := hgr6.lt
                have HROW := Lib.hid (hrow6.alloc (.cells #[.int .i64 (k : Int), .int .i64 (j : Int)] 56))
                have HST : Hid (∀ w7 v7, w7.ownsRow (G + 1) 56 2 v7 (L + 1) (edV (T.edK k j) ++ [.int .i64 (k : Int), .int .i64 (j : Int)]) → (wr.alloc (.cells #[.int .i64 (k : Int), .int .i64 (j : Int)] 56)).grownBy w7 v6.ownBlock →
                    Hid (GrI G n w6 (w7.setCell ⟨G, 1, none⟩ v7) (T.edK k (j + 1))) ∧ w7.cell? ⟨G, 1, none⟩ = some v6 ∧ w7.frozen? ⟨G, 1, none⟩ = false) := Lib.hid fun w7 v7 h1 h2 => by
                  rw [hL] at h1
                  obtain ⟨p1, p2⟩ := gr_step1 hgr6 (by rw [← hL]; exact hrow6) hbr6 h1 h2
                  rw [← hyes] at p1
                  exact ⟨Lib.hid p1, p2.e, p2.frozen 1⟩
                obtain ⟨A6, c6, rfl⟩ := own_form2 hrow6
                clear hI6 hgr6 hrow6 hbr6 hyes hlen hL hbs hb
                go_wp2_with (first
                  | (at_builtin; refine wpList_append_lies _ rfl _ _ _ rfl (G + 1) 56 i0 _ 2 16 Tryd.underlying27 hi hz0 hz1 hz2 rfl (by omega) (.slice A6 L c6) L (edV (T.edK k j)) rfl HROW.out ⟨wr.heap.size, 0, none⟩ 1 1 [.int .i64 (k : Int), .int .i64 (j : Int)] rfl rfl (World.news_of_block (cs := #[.int .i64 (k : Int), .int .i64 (j : Int)]) (t := 56) (fr := (0, 0)) HNW.out) (by simp [Value.oneCell']) (by omega) hin1 hin2 HBS.out _ rfl ?_; intro gg cap7 w7 hown7 hgrow7 hat7 hlt7; obtain ⟨hst, hc7, hf7⟩ := HST.out w7 _ hown7 hgrow7)
                  | fail)
                go_roundw
                case rel => exact ⟨j + 1, by omega, by go_num, hst⟩
                case measure => simp [intOf]; omega
              · have hbf : T.bef (k : Int) (j : Int) = false := by simpa using hb
                rw [hbf] at c2'
                have hI7 := hI6.out
                rw [← T.edK_no k j hbf] at hI7
                have HI7 := Lib.hid hI7
                clear hI6 hgr6 hrow6 hbr6 hI7 hb hbf
                go_wp2_with fail
                go_roundw
                case rel => exact ⟨j + 1, by omega, by go_num, HI7⟩
                case measure => simp [intOf]; omega
            · obtain rfl : j = n := by omega
              have hI8 := hI6.out
              go_wp2_with fail
              go_roundw
              case rel =>
                refine ⟨k + 1, by omega, by go_num, Lib.hid ?_⟩
                rw [T.edK_row, ← HN.out]
                exact hI8
              case measure => simp [intOf]; omega
        · obtain rfl : k = n := by omega
          obtain ⟨v, hgr, hrow, hbr⟩ := hI.out
          have h2 := HN.out
          have hn2 := hgr.n
          have he2 := hgr.e
          have hg5 := HGR.out wr hbr
          have g0 := hg5.n
          have g1 := hg5.e
          have gf := hg5.frozen
          have hgne : G ≠ w.heap.size + 1 := by have := HGW.out.1; omega
          obtain ⟨A9, c9, rfl⟩ := own_form2 hrow
          have HROW := Lib.hid hrow
          have HBR := Lib.hid (HBL.out wr hbr)
          have HG5 := Lib.hid hg5
          have HNN := Lib.hid h2
          obtain ⟨L, hL⟩ : ∃ L, L = (T.edK k 0).length := ⟨_, rfl⟩
          rw [← hL] at he2
          have HL := Lib.hid hL
          clear hI hgr hrow hbr hg5 h2 hL
          go_wp2_with fail
          have hg6 := (HG5.out.set0 (k : Int)).set (.slice A9 L c9)
          refine bodyPost_ret (results_gr rfl _ _ (w.heap.size + 1) _ _ rfl hg6) rfl ?_
          have hL2 := HL.out
          have hk2 := HNN.out
          unfold Tm.eds
          rw [← hk2, ← hL2]
          have hown := HROW.out
          rw [← hL2] at hown
          have hne1 : (Value.slice A9 L c9).ownBlock ≠ some (w.heap.size + 1) := fun e => by
            have := (hown.lt _ e).1
            have := HGW.out.1
            omega
          refine ⟨A9, c9, rfl, own_more (ownsRow_setCell_other (ownsRow_setCell_other hown hne1 _) hne1 _) (by have := HGW.out.2; omega), ?_⟩
          exact (HBR.out.setCell (p := ⟨w.heap.size + 1, 0, none⟩) (by dsimp only; omega) _).setCell (p := ⟨w.heap.size + 1, 1, none⟩) (by dsimp only; omega) _
end Go.Proofs.YtafdpimkfkddaaaDoor
