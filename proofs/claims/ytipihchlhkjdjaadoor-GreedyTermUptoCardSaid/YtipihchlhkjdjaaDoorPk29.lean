/-
  GreedyTerm: a term is done in no more rounds than its work, parted, and its span.
  A term that comes in as an argument: what its reading as data says of memory. No condition.
-/
import Derived.Test.YtipihchlhkjdjaaDoorPk17
import Derived.Test.YtipihchlhkjdjaaDoorPk27
import Derived.Test.YtipihchlhkjdjaaDoorPk28
import Derived.Test.YtipihchlhkjdjaaDoorPk21
import Derived.Test.YtipihchlhkjdjaaDoorRows
import Derived.ProofKit
import Derived.OpenShut
import Derived.Deep.Slices
import Derived.Lib.SmallJoins
namespace Go.Proofs.YtipihchlhkjdjaaDoor
open Go.RowKit
set_option maxRecDepth 100000

/-- what is held while a term in its box is asked -/
@[reducible] def SbT (w1 : World) (D B : Nat) (h : Hd) (W : World) : Prop :=
  Below D w1 W ∧ D ≤ W.heap.size ∧
  W.cell? ⟨B, 0, none⟩ = some (.int .i64 h.k) ∧ W.cell? ⟨B, 1, none⟩ = some (.int .i64 h.c) ∧ W.cell? ⟨B, 2, none⟩ = some (.bool h.x) ∧ W.cell? ⟨B, 3, none⟩ = some (.int .i64 h.l) ∧ W.cell? ⟨B, 4, none⟩ = some (.slice h.A h.n h.cap)
theorem SbT.mk {w1 W : World} {D B : Nat} {h : Hd} {T : TypeId} (t : TB T w1 B h) (hD : D = w1.heap.size) (hb : Below D w1 W) : SbT w1 D B h W := by
  have l : B < D := hD ▸ t.lt
  exact ⟨hb, hD ▸ hb.size, (hb.cell (p := ⟨B, 0, none⟩) l).trans t.c0, (hb.cell (p := ⟨B, 1, none⟩) l).trans t.c1, (hb.cell (p := ⟨B, 2, none⟩) l).trans t.c2, (hb.cell (p := ⟨B, 3, none⟩) l).trans t.c3, (hb.cell (p := ⟨B, 4, none⟩) l).trans t.c4⟩
theorem term_rounds (T : Tm) (hs : T.sz ≤ 200) {wn : Nat} (hw : 1 ≤ wn) : grn (gR T.eds) T.sz wn ≤ T.sz / wn + T.sn ∧ T.sn ≤ grn (gR T.eds) T.sz wn ∧ grn (gR T.eds) T.sz wn ≤ T.sz := by
  obtain ⟨q1, q2, _⟩ := brent_ok (T.inR_eds hs) (T.full_eds hs) hw
  have hh : hgt (lvs T.sz T.eds) T.sz = T.sn := by
    have h1 := hgtG_ok (T.errn_eds hs)
    rw [hgtG_eds T hs] at h1
    omega
  rw [hh] at q1 q2
  exact ⟨rounds_parted hw q1, q2, (grn_spec hw (acyc (T.inR_eds hs) (T.full_eds hs)) (R := gR T.eds) (N := T.sz)).2.2⟩

set_option maxHeartbeats 2000000 in
theorem termLaw_any (T : Tm) (h : Hd) (wk : Int) (w : World) (hT : TIn w w.heap.size T h) (hs : T.sz ≤ 1048576) (hTab : Tab w) :
    Calls Tryd.prog 8 #[.agg h.cells, .int .i64 wk] w fun e w' => e = .returned (.bool true) ∧ Below w.heap.size w w' := by
  have key : ∃ w1, w1 = w.alloc (.cells h.cells 51) ∧ Below w.heap.size w w1 ∧ TB 51 w1 w.heap.size h := ⟨_, rfl, (Below.refl _ _).alloc (Nat.le_refl _) _, TB.new _ _ _⟩
  obtain ⟨w1, hw1, hb, ht⟩ := key
  have hs1 : w.heap.size + 1 = w1.heap.size := by rw [hw1]; simp
  have hTi := (hT.below hb (Nat.le_refl _)).more (show w.heap.size ≤ w1.heap.size by omega)
  have hTa : Tab w1 := hTab.step hb
  obtain ⟨k, c, x, l, A, q, cap⟩ := h
  dsimp only [Hd.cells] at hw1 ⊢
  clear hT hTab hs1
  go_enter Tryd.func8, Tryd.ntmps8
  go_wp2_with fail
  rw [← hw1]
  clear hw1
  refine (alive6_any w1 hTa).mono ?_
  rintro e w2 ⟨rfl, hb2⟩
  replace hTi := (hTi.below hb2 (Nat.le_refl _)).more hb2.size
  replace hTa := hTa.step hb2
  replace ht : TB 51 _ _ _ := (hb2.block _ ht.lt).trans ht
  replace hb := hb.trans (hb2.mono hb.size)
  clear hb2
  have t0 := ht.c0
  have t1 := ht.c1
  have t2 := ht.c2
  have t3 := ht.c3
  have t4 := ht.c4
  dsimp only at t0 t1 t2 t3 t4
  go_wp2_with fail
  refine (graph_any T _ _ hTi hs).mono ?_
  rintro e w3 ⟨A3, c3, rfl, hr3, hb3⟩
  replace hTi := (hTi.below hb3 (Nat.le_refl _)).more hb3.size
  replace hTa := hTa.step hb3
  replace ht : TB 51 _ _ _ := (hb3.block _ ht.lt).trans ht
  replace hb := hb.trans (hb3.mono hb.size)
  clear hb3 t0 t1 t2 t3 t4
  by_cases hfew : 200 < T.sz
  · have hR : T.gR = 2 := by unfold Tm.gR; rw [if_pos hfew]
    rw [hR]
    have hbA := hb.trans ((below_alloc w3 (.cells #[.int .i64 T.gN, .slice A3 T.gE.length c3] 24)).mono hb.size)
    go_wp2_with fail
    go_ret
    exact ⟨rfl, hbA⟩
  · have hR : T.gR = 0 := by unfold Tm.gR; rw [if_neg hfew]
    have hN : T.gN = (T.sz : Int) := by unfold Tm.gN; rw [if_neg hfew]
    have hEd : T.gE = T.eds := by unfold Tm.gE; rw [if_neg hfew]
    rw [hR, hN, hEd]
    rw [hEd] at hr3
    clear hR hN hEd
    by_cases hW : 1 ≤ wk ∧ wk ≤ 16
    · obtain ⟨wn, rfl⟩ : ∃ wn : Nat, wk = (wn : Int) := ⟨wk.toNat, by omega⟩
      have hw2 : 1 ≤ wn := by omega
      have hw3 : wn ≤ 16 := by omega
      have hfew' : T.sz ≤ 200 := by omega
      obtain ⟨q1, q2, q3⟩ := term_rounds T hfew' hw2
      have hE0 : rndE T.sz T.eds wn = 0 := by unfold rndE; rw [if_neg (by rw [T.errn_eds hfew']; decide), if_pos hW]
      have hL0 : rndL T.sz T.eds wn = rds (gR T.eds) T.sz wn (grn (gR T.eds) T.sz wn) := by unfold rndL; rw [if_pos hE0, Int.toNat_natCast, Int.toNat_natCast]
      have t1 : ((wn : Int) < 1) = False := by simp; omega
      have t2 : (16 < (wn : Int)) = False := by simp; omega
      obtain ⟨w4, hw4⟩ : ∃ w4, w4 = w3.alloc (.cells #[.int .i64 (T.sz : Int), .slice A3 T.eds.length c3] 24) := ⟨_, rfl⟩
      have hb4 : Below w3.heap.size w3 w4 := by rw [hw4]; exact (Below.refl _ _).alloc (Nat.le_refl _) _
      have g4 : GrB w4 w3.heap.size (T.sz : Int) (.slice A3 T.eds.length c3) := by rw [hw4]; exact World.alloc_heap_new w3 _
      replace hr3 := (hr3.below hb4).more hb4.size
      replace hTi := (hTi.below hb4 (Nat.le_refl _)).more hb4.size
      replace hTa := hTa.step hb4
      replace ht : TB 51 _ _ _ := (hb4.block _ ht.lt).trans ht
      replace hb := hb.trans (hb4.mono hb.size)
      clear hb4
      have n4 := g4.n
      have e4 := g4.e
      have f1 := rounds_any A3 c3 (T.sz : Int) T.eds wn w4 (T.rdE hfew' hr3) hTa
      rw [hL0, hE0, rds_len] at f1
      rw [hw4] at n4 e4
      obtain ⟨r, hr⟩ : ∃ r, r = grn (gR T.eds) T.sz wn := ⟨_, rfl⟩
      rw [← hr] at f1 q1 q2 q3
      obtain ⟨z, hz⟩ : ∃ z, z = T.sz := ⟨_, rfl⟩
      obtain ⟨s, hsn⟩ : ∃ s, s = T.sn := ⟨_, rfl⟩
      have HC1 : Hid (∀ W, TIn W W.heap.size T ⟨k, c, x, l, A, q, cap⟩ → Calls Tryd.prog 22 #[.agg (Hd.cells ⟨k, c, x, l, A, q, cap⟩)] W fun e w' => e = .returned (.int .i64 (T.sz : Nat)) ∧ Below W.heap.size W w') := Lib.hid fun W hW => work_any T _ W hW hs
      have HC2 : Hid (∀ W, TIn W W.heap.size T ⟨k, c, x, l, A, q, cap⟩ → Calls Tryd.prog 23 #[.agg (Hd.cells ⟨k, c, x, l, A, q, cap⟩)] W fun e w' => e = .returned (.int .i64 (T.sn : Nat)) ∧ Below W.heap.size W w') := Lib.hid fun W hW => span_any T _ W hW hs
      rw [← hz] at HC1 f1 n4 e4 g4 hw4 q1 q3
      rw [← hsn] at HC2 q1 q2
      rw [← hz]
      obtain ⟨ne, hne⟩ : ∃ ne, ne = T.eds.length := ⟨_, rfl⟩
      rw [← hne] at f1 n4 e4 g4 hw4 ⊢
      dsimp only [Hd.cells] at HC1 HC2
      have hz200 : z ≤ 200 := by omega
      have hrz : r ≤ 200 := by omega
      have HF1 := Lib.hid f1
      clear hz hsn hne hfew hfew' hE0 hL0 hr f1 hr3 hTa hs hW
      obtain ⟨B3, hB3⟩ : ∃ B3, B3 = w3.heap.size := ⟨_, rfl⟩
      go_wp2_with fail
      rw [← hw4]
      rw [← hB3] at g4 ⊢
      clear n4 e4 hw4 hB3
      refine HF1.out.mono ?_
      rintro e w5 ⟨A5, c5, rfl, _, hb5⟩
      replace g4 : GrB _ _ _ _ := (hb5.block _ g4.lt).trans g4
      replace hTi := (hTi.below hb5 (Nat.le_refl _)).more hb5.size
      replace ht : TB 51 _ _ _ := (hb5.block _ ht.lt).trans ht
      replace hb := hb.trans (hb5.mono hb.size)
      clear hb5 HF1
      obtain ⟨d, hd⟩ : ∃ d, d = z / wn := ⟨_, rfl⟩
      rw [← hd] at q1
      have hd2 : (z : Int).tdiv (wn : Int) = (d : Int) := by rw [hd, Int.tdiv_eq_ediv_of_nonneg (by omega)]; rfl
      have hdz : d ≤ z := by rw [hd]; exact Nat.div_le_self _ _
      have g5 : wrap64 (d : Int) = (d : Int) := IntWalk.wrap64_in _ (by omega)
      obtain ⟨u, hu⟩ : ∃ u, u = d + s := ⟨_, rfl⟩
      have g6 : IntKind.i64.wrap ((d : Int) + (s : Int)) = (u : Int) := by rw [IntKind.wrap_i64]; omega
      have g7 : r ≤ u := by omega
      have g8 : s ≤ r := q2
      have g9 : ¬ (wn = 0) := by omega
      have g10 : IntKind.i64.wrap (d : Int) = (d : Int) := by rw [IntKind.wrap_i64]; omega
      have g11 : ¬ ((wn : Int) = 0) := by omega
      obtain ⟨D, hD⟩ : ∃ D, D = w5.heap.size := ⟨_, rfl⟩
      have hlt5 := ht.lt
      have HS : Hid (∀ W, Below D w5 W → SbT w5 D w.heap.size ⟨k, c, x, l, A, q, cap⟩ W) := Lib.hid fun W hW => SbT.mk ht hD hW
      have hTW : ∀ W, Below D w5 W → TIn W W.heap.size T ⟨k, c, x, l, A, q, cap⟩ := fun W hW => ((hTi.below (by rw [← hD]; exact hW) (Nat.le_refl _))).more (by rw [← hD]; subst hD; exact hW.size)
      have HW := Lib.hid hTW
      have HB5 := Lib.hid hb
      have HDD : Hid (w.heap.size ≤ D) := Lib.hid (by rw [hD]; exact hb.size)
      obtain ⟨z0, z00, z1, z2, z3, z4, z5⟩ := HS.out w5 (Below.refl _ _)
      dsimp only at z1 z2 z3 z4 z5
      clear hTi ht hb hTW hD hd hlt5 g4 q1 q2 q3 hdz hu
      go_wp2_with fail
      go_region_held3 (SbT w5 D w.heap.size ⟨k, c, x, l, A, q, cap⟩)
        (first
          | (go_split_ands; refine ⟨?_, ?_, ?_, ?_, ?_, ?_, ?_⟩ <;> assumption)
          | (go_split_ands; exact HS.out _ (by first | assumption | (refine Below.drew ?_; assumption))))
        (first
          | (go_at_call 22; go_split_ands; refine (HC1.out _ (HW.out _ (by assumption))).mono ?_; rintro e w7 ⟨rfl, hb7⟩; obtain ⟨y0, y00, y1, y2, y3, y4, y5⟩ := HS.out w7 (Below.trans (by assumption) (hb7.mono (by assumption))); dsimp only at y1 y2 y3 y4 y5)
          | (go_at_call 23; go_split_ands; refine (HC2.out _ (HW.out _ (by assumption))).mono ?_; rintro e w6 ⟨rfl, hb6⟩; obtain ⟨x0, x00, x1, x2, x3, x4, x5⟩ := HS.out w6 (Below.trans (by assumption) (hb6.mono (by assumption))); dsimp only at x1 x2 x3 x4 x5)
          | fail)
      all_goals
        have hbf := HB5.out.trans (x0.mono HDD.out)
        go_wp2_with fail
        go_ret
        exact ⟨by simp, hbf⟩
    · have hbA := hb.trans ((below_alloc w3 (.cells #[.int .i64 (T.sz : Int), .slice A3 T.eds.length c3] 24)).mono hb.size)
      clear hr3
      by_cases h1 : wk < 1
      · go_wp2_with fail
        go_ret
        exact ⟨rfl, hbA⟩
      · have h2 : 16 < wk := by omega
        go_wp2_with fail
        go_ret
        exact ⟨rfl, hbA⟩
end Go.Proofs.YtipihchlhkjdjaaDoor

namespace Go.Proofs.YtipihchlhkjdjaaDoor
open Go.ChangeShapes Go.WideShapes Go.ChangeAt Go.RowKit Go.Deep Go.Joins

theorem bulkT_pos {H : Type} (d : DataW H) : 1 ≤ Rows.uptoBulk d := by
  cases d with
  | lit l => cases l <;> simp [Rows.uptoBulk]
  | _ => simp [Rows.uptoBulk]
theorem small_leT {H : Type} {l : List (DataW H)} (hk : Rows.uptoSmall H l = true) : Rows.uptoBulkAll l ≤ 1048576 := of_decide_eq_true hk

theorem open_tm {H : Type} {enc : TypeId × Value → H} {P : Program} {W : World} {tt ta tk : TypeId} {f0 f1 f2 a0 a1 a2 : Field}
    (hT : P.underlying tt = some (.struct #[f0, f1, f2])) (hC : P.cellsOf tt = 5) (o0 : f0.offset = 0) (o1 : f1.offset = 1) (o2 : f2.offset = 4) (i0 : P.underlying f0.type = some (.int .i64)) (c0 : P.cellsOf f0.type = 1)
    (e1 : f1.type = ta) (hA : P.underlying ta = some (.struct #[a0, a1, a2])) (cA : P.cellsOf ta = 3) (p0 : a0.offset = 0) (p1 : a1.offset = 1) (p2 : a2.offset = 2)
    (q0 : P.underlying a0.type = some (.int .i64)) (q1 : P.underlying a1.type = some .bool) (q2 : P.underlying a2.type = some (.int .i64)) (r0 : P.cellsOf a0.type = 1) (r1 : P.cellsOf a1.type = 1) (r2 : P.cellsOf a2.type = 1)
    (e2 : f2.type = tk) (hK : P.underlying tk = some (.slice tt)) (cK : P.cellsOf tk = 1) :
    ∀ (N n : Nat) (cs : List Value) (y : DataW H × List MemPlace), Rows.uptoBulk y.1 ≤ N → DataW.trod enc P W 0 (fun _ => true) true n tt cs = some y → (∀ x ∈ y.2, x.block < W.heap.size) →
      ∃ (T : Tm) (h : Hd), cs = h.cells.toList ∧ TIn W W.heap.size T h ∧ T.sz ≤ Rows.uptoBulk y.1 := by
  intro N
  induction N using Nat.strongRecOn with
  | _ N ih =>
    intro n cs y hN h hlt
    obtain ⟨xs, m, rfl, rfl, hl, hlen, hf⟩ := DataW.trod_struct hT h
    rw [hC] at hl
    match xs, hlen, cs, hl with
    | [y0, y1, y2], _, [v0, v1, v2, v3, v4], _ =>
      have g0 := hf 0 f0 rfl
      have g1 := hf 1 f1 rfl
      have g2 := hf 2 f2 rfl
      simp [o0, o1, o2, c0, e1, e2, cA, cK] at g0 g1 g2
      obtain ⟨k, hv0, rfl, _⟩ := DataW.trod_int i0 g0
      obtain ⟨zs, m', rfl, rfl, _, hlen', hf'⟩ := DataW.trod_struct hA g1
      match zs, hlen' with
      | [z0, z1, z2], _ =>
        have k0 := hf' 0 a0 rfl
        have k1 := hf' 1 a1 rfl
        have k2 := hf' 2 a2 rfl
        simp [p0, p1, p2, r0, r1, r2] at k0 k1 k2
        obtain ⟨c, hv1, rfl, _⟩ := DataW.trod_int q0 k0
        obtain ⟨x, hv2, rfl⟩ := DataW.trod_bool q1 k1
        obtain ⟨l, hv3, rfl, _⟩ := DataW.trod_int q2 k2
        simp at hv0 hv1 hv2 hv3
        subst hv0 hv1 hv2 hv3
        rcases open_slice hK g2 with ⟨hcs, rfl⟩ | ⟨a, len, cap, mm, nn, D, Pl, hcs, _, hle, hm, hmm, rfl, hx⟩
        · simp at hcs
          subst hcs
          by_cases hk : k = 1
          · subst hk
            refine ⟨.one (c, x, l), ⟨1, c, x, l, none, 0, 0⟩, rfl, ⟨rfl, rfl⟩, ?_⟩
            have := bulkT_pos (DataW.agg (H := H) [.lit (.int .i64 1), .agg [.lit (.int .i64 c), .lit (.bool x), .lit (.int .i64 l)], .nil])
            simpa [Tm.sz] using this
          · exact ⟨.nil, ⟨k, c, x, l, none, 0, 0⟩, rfl, ⟨hk, .inr (show (0 : Nat) < 2 by omega)⟩, Nat.zero_le _⟩
        · simp at hcs
          subst hcs
          by_cases hk : k = 1
          · subst hk
            refine ⟨.one (c, x, l), ⟨1, c, x, l, some a, len, cap⟩, rfl, ⟨rfl, rfl⟩, ?_⟩
            exact bulkT_pos _
          · by_cases hk2 : (k = 2 ∨ k = 3) ∧ 2 ≤ len
            · obtain ⟨hk3, hlen2⟩ := hk2
              have hlm : len ≤ mm := by rw [hmm]; split <;> omega
              obtain ⟨cs0, hc0, ht0⟩ := hx 0 (by omega)
              obtain ⟨cs1, hc1, ht1⟩ := hx 1 (by omega)
              obtain ⟨rest, hrest⟩ : ∃ rest, (List.range len).map D = D 0 :: D 1 :: rest := by
                obtain ⟨j, rfl⟩ : ∃ j, len = j + 2 := ⟨len - 2, by omega⟩
                refine ⟨(List.range j).map (D ∘ Nat.succ ∘ Nat.succ), ?_⟩
                rw [List.range_succ_eq_map, List.range_succ_eq_map]
                simp
              have hbulk : Rows.uptoBulk (D 0) + Rows.uptoBulk (D 1) + 1 ≤ Rows.uptoBulk (DataW.agg (([((DataW.lit (.int .i64 k), []) : DataW H × List MemPlace), (DataW.agg ([((DataW.lit (.int .i64 c), []) : DataW H × List MemPlace), (.lit (.bool x), []), (.lit (.int .i64 l), [])].map (·.1)), [((DataW.lit (.int .i64 c), []) : DataW H × List MemPlace), (.lit (.bool x), []), (.lit (.int .i64 l), [])].flatMap (·.2)), (.slice ((List.range len).map D) ((List.range (mm - len)).map fun j => D (len + j)), MemPlace.row a (mm * P.cellsOf tt) ++ (List.range mm).flatMap Pl)]).map (·.1))) := by
                simp only [List.map_cons, List.map_nil, Rows.uptoBulk, Rows.uptoBulkAll, hrest]
                omega
              have hlt0 : ∀ z ∈ Pl 0, z.block < W.heap.size := fun z hz => hlt z (by simp; first | exact .inr (.inr ⟨0, by omega, hz⟩) | exact .inr ⟨0, by omega, hz⟩)
              have hlt1 : ∀ z ∈ Pl 1, z.block < W.heap.size := fun z hz => hlt z (by simp; first | exact .inr (.inr ⟨1, by omega, hz⟩) | exact .inr ⟨1, by omega, hz⟩)
              have hbN := Nat.le_trans hbulk hN
              obtain ⟨T0, h0, rfl, hT0, hs0⟩ := ih (Rows.uptoBulk (D 0)) (by omega) nn cs0 (D 0, Pl 0) (Nat.le_refl _) ht0 hlt0
              obtain ⟨T1, h1, rfl, hT1, hs1⟩ := ih (Rows.uptoBulk (D 1)) (by omega) nn cs1 (D 1, Pl 1) (Nat.le_refl _) ht1 hlt1
              rw [hC] at hc0 hc1
              obtain ⟨_, _, hcell0⟩ := World.cells?_some hc0
              obtain ⟨_, _, hcell1⟩ := World.cells?_some hc1
              obtain ⟨b, off, spot⟩ := a
              have hspot : spot = none := by
                have := hcell0 0 (by omega)
                simpa [Addr.add] using World.cell?_spot this
              subst hspot
              have hb : b < W.heap.size := World.block_lt_of_cell? _ _ (hcell0 0 (by omega))
              have at0 : HdAt W b off h0 := by
                refine ⟨?_, ?_, ?_, ?_, ?_⟩
                · simpa [add_plain, Hd.cells] using hcell0 0 (by omega)
                · simpa [add_plain, Hd.cells] using hcell0 1 (by omega)
                · simpa [add_plain, Hd.cells] using hcell0 2 (by omega)
                · simpa [add_plain, Hd.cells] using hcell0 3 (by omega)
                · simpa [add_plain, Hd.cells] using hcell0 4 (by omega)
              have at1 : HdAt W b (off + 5) h1 := by
                refine ⟨?_, ?_, ?_, ?_, ?_⟩
                · simpa [add_plain, Hd.cells] using hcell1 0 (by omega)
                · simpa [add_plain, Hd.cells] using hcell1 1 (by omega)
                · simpa [add_plain, Hd.cells] using hcell1 2 (by omega)
                · simpa [add_plain, Hd.cells] using hcell1 3 (by omega)
                · simpa [add_plain, Hd.cells] using hcell1 4 (by omega)
              rcases hk3 with rfl | rfl
              · exact ⟨.seq T0 T1, ⟨2, c, x, l, some ⟨b, off, none⟩, len, cap⟩, rfl, ⟨rfl, hlen2, b, off, h0, h1, rfl, hb, at0, at1, hT0, hT1⟩, by refine Nat.le_trans ?_ (Nat.le_of_succ_le hbulk); simp only [Tm.sz]; dsimp only at hs0 hs1; omega⟩
              · exact ⟨.par T0 T1, ⟨3, c, x, l, some ⟨b, off, none⟩, len, cap⟩, rfl, ⟨rfl, hlen2, b, off, h0, h1, rfl, hb, at0, at1, hT0, hT1⟩, by refine Nat.le_trans ?_ (Nat.le_of_succ_le hbulk); simp only [Tm.sz]; dsimp only at hs0 hs1; omega⟩
            · refine ⟨.nil, ⟨k, c, x, l, some a, len, cap⟩, rfl, ⟨hk, ?_⟩, Nat.zero_le _⟩
              dsimp only
              omega
end Go.Proofs.YtipihchlhkjdjaaDoor
