/-
  Contract of order.edgeEnds.
  Contract of order.Levels.
-/
import Derived.Test.YtaboafkpmgadmaaDoorGrAl
import Derived.Deep.RegionHeld3
import Derived.Deep.RegionLaw
import Derived.Deep.AppendLies
import Derived.Deep.DrawnRows
import Derived.Test.YtaboafkpmgadmaaDoorGrLawCl
import Derived.Test.YtaboafkpmgadmaaDoorOrL
import Derived.Laws.Small
namespace Go.Proofs.YtaboafkpmgadmaaDoor
open Go.RowKit
set_option maxRecDepth 100000
attribute [local go_sem ↓] Go.wp_at_zero Go.wp_at_succ

set_option maxHeartbeats 1000000 in
theorem edgeEnds_any (A : Option Addr) (c n : Nat) (es : List (Int × Int)) (w : World) (he : RdE w w.heap.size A es) (hn : n ≤ 200) (hok : ∀ k, k < es.length → okE n (ed es k) = true) :
    Calls Tryd.prog 66 #[.agg #[.int .i64 (n : Int), .slice A es.length c]] w fun e w' => ∃ ge, e = .returned (.slice (some ⟨ge, 0, none⟩) n n) ∧ RdII w' w'.heap.size (some ⟨ge, 0, none⟩) ((List.range n).map (tos es)) ∧ Below w.heap.size w w' := by
  have hroom := he.room
  obtain ⟨i0, hi, hz0, hz1, hz2⟩ := info_parts Tryd.infoInt
  have hmk1 := run_make_row' (P := Tryd.prog) 57 25 (.slice none 0 0) 24 Tryd.underlying57 Tryd.infoSI rfl .i64 .i64 n (by omega) (by omega)
  go_enter Tryd.func66, Tryd.ntmps66
  go_wp2_with fail
  have hG := GBox.new w n A es.length c 24
  obtain ⟨w1, hw1⟩ : ∃ w1, w1 = w.alloc (.cells #[.int .i64 (n : Int), .slice A es.length c] 24) := ⟨_, rfl⟩
  have hb1 : Below w.heap.size w w1 := by rw [hw1]; exact (Below.refl _ _).alloc (Nat.le_refl _) _
  have hs1 : w.heap.size + 1 = w1.heap.size := by rw [hw1]; simp
  have hE0 := Ends.new 25 3 w1 w1.heap.size n (Nat.le_refl _)
  obtain ⟨w2, hw2⟩ : ∃ w2, w2 = w1.alloc (.cells (madeCells #[.slice none 0 0] n) 25) := ⟨_, rfl⟩
  have hb2 : Below w1.heap.size w1 w2 := by rw [hw2]; exact (Below.refl _ _).alloc (Nat.le_refl _) _
  rw [← hw1, ← hw2, hs1]
  rw [← hw2] at hE0
  rw [← hw1] at hG
  have he1 : RdE w1 w1.heap.size A es := he.step hb1
  obtain ⟨B, hB⟩ : ∃ B, B = w.heap.size := ⟨_, rfl⟩
  obtain ⟨B1, hB1⟩ : ∃ B1, B1 = w1.heap.size := ⟨_, rfl⟩
  rw [← hB] at hG hs1 ⊢
  rw [← hB1] at he1 hE0 hb2 hs1 ⊢
  have hs1 : B + 1 ≤ B1 := by omega
  have hs2 : B1 ≤ w2.heap.size := by have := hb2.size; omega
  have hG2 : GBox w2 B n A es.length c := hG.below hb2 (by omega)
  have HB1 := Lib.hid hB1
  have HB := Lib.hid hB
  have HX := Lib.hid hb1
  have HG := Lib.hid hG
  clear hw1 hw2 hB hB1 he hG
  have HO := Lib.hid hok
  clear hok
  go_loopw [12] (fun i wr => ∃ k : Nat, k ≤ es.length ∧ i = .int .i64 k ∧ Ends 25 3 wr B1 B1 n (tos (es.take k)) ∧ Below B1 w1 wr) (fun i _ => es.length - (intOf i).toNat)
  case atStart => exact ⟨0, Nat.zero_le _, rfl, hE0, hb2⟩
  case round =>
    obtain ⟨k, hk, rfl, hEn, hbr⟩ := hrel
    clear hE0 hb2 hG2
    by_cases hlt : k < es.length
    · have hoke := HO.out k hlt
      unfold okE at hoke
      rw [Bool.and_eq_true] at hoke
      obtain ⟨o1, o2⟩ := hoke
      replace o1 := nodeB_true o1
      replace o2 := nodeB_true o2
      obtain ⟨x, hx⟩ : ∃ x : Nat, (ed es k).1 = (x : Int) := ⟨(ed es k).1.toNat, by omega⟩
      obtain ⟨y, hy⟩ : ∃ y : Nat, (ed es k).2 = (y : Int) := ⟨(ed es k).2.toNat, by omega⟩
      have hxn : x < n := by omega
      have HT := Lib.hid (tos_take es k x hlt hx)
      have hsz := Nat.le_trans (show B1 ≤ w1.heap.size from Nat.le_of_eq HB1.out) hbr.size
      obtain ⟨b, off, rfl, hb, hc⟩ := he1.rd (by omega)
      have hc1 := (hbr.cell (p := ⟨b, off + k * 2, none⟩) hb).trans (hc k hlt).1
      have hc2 := (hbr.cell (p := ⟨b, off + k * 2 + 1, none⟩) hb).trans (hc k hlt).2
      rw [hx] at hc1
      rw [hy] at hc2
      have HY := Lib.hid hy
      clear hc o1 o2 hx hy
      go_wp2_with fail
      have hX := EBox.new wr x y 38
      obtain ⟨w3, hw3⟩ : ∃ w3, w3 = wr.alloc (.cells #[.int .i64 (x : Int), .int .i64 (y : Int)] 38) := ⟨_, rfl⟩
      have hs3 : w3.heap.size = wr.heap.size + 1 := by rw [hw3]; simp
      have hEn3 : Ends 25 3 w3 B1 B1 n (tos (es.take k)) := by rw [hw3]; exact hEn.alloc _
      have hbr3 : Below B1 w1 w3 := by rw [hw3]; exact hbr.alloc hsz _
      rw [← hw3] at hX ⊢
      have hgl0 := hEn.lt
      have hbk : w3.heap[wr.heap.size]? = some (.cells #[.int .i64 (x : Int), .int .i64 (y : Int)] 38 (0, 0)) := by rw [hw3]; exact heap_alloc_new wr _
      clear hw3 hEn hbr hc1 hc2
      have hl := tos_take_len es k x
      obtain ⟨v, A3, c3, rfl, hcell, hfz, hown, hgl, hng, hnext⟩ := hEn3.at_ (by decide) hxn
      have hx0 : (0 : Int) ≤ (x : Int) := Int.natCast_nonneg _
      have hx1 : (x : Int) < (n : Int) := by omega
      have hex := hX.x
      have hey := hX.y
      obtain ⟨BE, hBE⟩ : ∃ BE, BE = wr.heap.size := ⟨_, rfl⟩
      rw [← hBE] at hex hey hs3 hbk ⊢
      have hBE3 : BE < w3.heap.size := by omega
      have hne : BE ≠ B1 := by omega
      have hnE : (Value.slice A3 (tos (es.take k) x).length c3).ownBlock ≠ some BE := own_ne_blk hown hbk (by decide)
      have HS3 := Lib.hid hs3
      clear hX hBE hs3
      have hfa : ∀ o, (w3.alloc o).frozen? ⟨B1, x, none⟩ = false := fun o => (World.frozen?_alloc_old w3 o ⟨B1, x, none⟩ (Nat.ne_of_lt hgl)).trans hfz
      clear hbk
      have hxa : ∀ o, (w3.alloc o).cell? ⟨BE, 0, none⟩ = some (.int .i64 (x : Int)) := fun o => (World.cell?_alloc_lt w3 o ⟨BE, 0, none⟩ hBE3).trans hex
      have hya : ∀ o, (w3.alloc o).cell? ⟨BE, 1, none⟩ = some (.int .i64 (y : Int)) := fun o => (World.cell?_alloc_lt w3 o ⟨BE, 1, none⟩ hBE3).trans hey
      have hca : ∀ o, (w3.alloc o).cell? ⟨B1, x, none⟩ = some (.slice A3 (tos (es.take k) x).length c3) := fun o => (World.cell?_alloc_lt w3 o ⟨B1, x, none⟩ hgl).trans hcell
      have hin1 : (tos (es.take k) x).length + 1 ≤ maxLen := by unfold maxLen; omega
      have hin2 : ((tos (es.take k) x).length + 1) * 8 ≤ 140737488355328 := by omega
      have hfin : ∀ gg cap w4, w4.ownsRow B1 3 1 (.slice (some ⟨gg, 0, none⟩) ((tos (es.take k) x).length + 1) cap) ((tos (es.take k) x).length + 1) (iVals (tos (es.take k) x) ++ [.int .i64 (y : Int)]) →
          (w3.alloc (.cells #[.int .i64 (y : Int)] 3)).drew.grownBy w4 (Value.slice A3 (tos (es.take k) x).length c3).ownBlock → ((Value.slice A3 (tos (es.take k) x).length c3).ownBlock = some gg ∨ gg = w3.heap.size + 1) →
          Hid (Ends 25 3 (w4.setCell ⟨B1, x, none⟩ (.slice (some ⟨gg, 0, none⟩) ((tos (es.take k) x).length + 1) cap)) B1 B1 n (tos (es.take (k + 1))) ∧ Below B1 w1 (w4.setCell ⟨B1, x, none⟩ (.slice (some ⟨gg, 0, none⟩) ((tos (es.take k) x).length + 1) cap))) := fun gg cap w4 h1 h2 h3 => by
        refine Lib.hid ⟨?_, ?_⟩
        · rw [HT.out, HY.out]
          exact hnext _ y _ w4 h1 h2 (fun b hb => by
            obtain rfl : gg = b := by simpa [Value.ownBlock] using hb
            exact h3)
        · refine Below.setCell (p := ⟨B1, x, none⟩) (((hbr3.alloc (by omega) _).drew).grown h2 (by simp; omega) (own_base hown)) (Nat.le_refl _) _
      have HFIN := Lib.hid hfin
      clear hfin hnext
      go_region_law
        ((refine step_append_lies _ (by rfl) _ _ _ (by rfl) B1 3 i0 _ 1 8 Tryd.underlying25 hi hz0 hz1 hz2 rfl (by omega) (.slice A3 (tos (es.take k) x).length c3) (tos (es.take k) x).length (iVals (tos (es.take k) x)) (by rfl) ((hown.alloc _).drew)
            ⟨w3.heap.size, 0, none⟩ 1 1 [.int .i64 (y : Int)] (by rfl) (by rfl) (World.news_of_block (cs := #[.int .i64 (y : Int)]) (t := 3) (fr := (0, 0)) (heap_alloc_new w3 _)) (by simp [Value.oneCell'])
            (by omega) hin1 hin2 (by simp; omega) (w3.heap.size + 1) (by simp) ?_; intro gg cap w4 hown1 hgrow hat hlt'; have hc4 := (hgrow.cell_far ⟨B1, x, none⟩ (by simp; omega) (Ne.symm hng)).trans (hca _); have hf4 := (hgrow.frozen_far ⟨B1, x, none⟩ (by simp; omega) (Ne.symm hng)).trans (hfa _); have hx4 := (hgrow.cell_far ⟨BE, 0, none⟩ (by simp; omega) (Ne.symm hnE)).trans (hxa _); have hy4 := (hgrow.cell_far ⟨BE, 1, none⟩ (by simp; omega) (Ne.symm hnE)).trans (hya _); have HF := HFIN.out _ _ _ hown1 hgrow hat))
      all_goals
        go_wp2
        go_roundw
        case rel => exact ⟨k + 1, by omega, by go_num, HF.out.1, HF.out.2⟩
        case measure => simp [intOf]; omega
    · obtain rfl : k = es.length := by omega
      rw [List.take_length] at hEn
      have hR := hEn.rd (by omega) fun i hi => ⟨Nat.le_trans (tos_len es i) (by omega), fun k => tos_in es n HO.out i k hn⟩
      go_wp2
      go_ret
      have hBB := HB.out
      exact ⟨_, rfl, hR, HX.out.trans (hbr.mono (by omega))⟩
end Go.Proofs.YtaboafkpmgadmaaDoor

namespace Go.Proofs.YtaboafkpmgadmaaDoor
open Go.RowKit
set_option maxRecDepth 100000

/-- where the edges from a lead -/
def nxN (es : List (Int × Int)) (a : Nat) : List Nat := (tos es a).map Int.toNat
theorem nxN_iff {m : Nat} {es : List (Int × Int)} (h : inR m es = true) (a b : Nat) : gR es a b = true ↔ b ∈ nxN es a := by
  unfold nxN gR
  rw [List.mem_map, decide_eq_true_eq]
  constructor
  · intro hm
    exact ⟨(b : Int), tos_mem.2 hm, by omega⟩
  · rintro ⟨z, hz, rfl⟩
    have hm := tos_mem.1 hz
    have := edge_in h hm
    rwa [show ((z.toNat : Nat) : Int) = z by omega]
/-- the longest ways' lengths -/
def lvs (m : Nat) (es : List (Int × Int)) : Nat → Nat := trn (nxN es) (ordr m es)
def levG (N : Int) (es : List (Int × Int)) : List Int := if errn N es = 0 then (List.range N.toNat).map (fun k => ((lvs N.toNat es k : Nat) : Int)) else []
theorem lvs_lev {m : Nat} {es : List (Int × Int)} (h : inR m es = true) (hfull : (ordr m es).length = m) : Lev (gR es) (lvs m es) := trn_lev (good_topoN _ _ _) hfull (gR_lt h) (nxN_iff h)
theorem ordr_good (m : Nat) (es : List (Int × Int)) : Good (gR es) m (ordr m es) := good_topoN _ _ _
theorem lvs_lt {m : Nat} {es : List (Int × Int)} (h : inR m es = true) (hfull : (ordr m es).length = m) {b : Nat} (hb : b < m) : lvs m es b < m := (lvs_lev h hfull).way.lt (ordr_good m es) hfull (gR_lt h) hb
theorem levG_ok {m : Nat} {es : List (Int × Int)} (h : errn m es = 0) : levG m es = (List.range m).map (fun k => ((lvs m es k : Nat) : Int)) := by unfold levG; rw [if_pos h, Int.toNat_natCast]
theorem levG_no {N : Int} {es : List (Int × Int)} (h : errn N es ≠ 0) : levG N es = [] := by unfold levG; rw [if_neg h]
theorem levG_len {m : Nat} {es : List (Int × Int)} (h : errn m es = 0) : (levG m es).length = m := by rw [levG_ok h]; simp

/-- one more edge's end, in memory -/
theorem take_outs (nx : Nat → List Nat) (a j : Nat) (h : j < (nx a).length) : (outs nx a).take (j + 1) = (outs nx a).take j ++ [(a, (nx a).getD j 0)] := by
  rw [List.take_succ_eq_append_getElem (by unfold outs; simpa using h)]
  congr 2
  unfold outs
  simp [List.getD, h]

theorem rowIs_rdI' {w : World} {g t m : Nat} {z : Nat → Nat} (h : w.rowIs g t m (fun k => .int .i64 ((z k : Nat) : Int))) (hb : ∀ k, k < m → z k < m) (hm : m ≤ 1048576) : RdI w w.heap.size (some ⟨g, 0, none⟩) ((List.range m).map fun k => ((z k : Nat) : Int)) := by
  have h2 : w.rowIs g t m (fun k => .int .i64 (if k < m then ((z k : Nat) : Int) else 0)) := h.congr fun k hk => by rw [if_pos hk]
  have h3 := rowIs_rdI h2 (fun k => by split; have := hb k (by assumption); omega; omega) hm
  rwa [show (List.range m).map (fun k => if k < m then ((z k : Nat) : Int) else 0) = (List.range m).map fun k => ((z k : Nat) : Int) from List.map_congr_left fun k hk => if_pos (List.mem_range.1 hk)] at h3

set_option maxHeartbeats 4000000 in
theorem levels_any (A : Option Addr) (c : Nat) (N : Int) (es : List (Int × Int)) (w : World) (he : RdE w w.heap.size A es) (hT : Tab w) :
    Calls Tryd.prog 29 #[.agg #[.int .i64 N, .slice A es.length c]] w fun e w' => ∃ A1 c1, e = .returned (.tuple #[.slice A1 (levG N es).length c1, .int .i64 (errn N es)]) ∧ RdI w' w'.heap.size A1 (levG N es) ∧ Below w.heap.size w w' := by
  have hroom := he.room
  have hmk := fun m (hm : m ≤ 200) => run_make_row' (P := Tryd.prog) 25 3 (.int .i64 0) 8 Tryd.underlying25 Tryd.infoInt rfl .i64 .i64 m (by omega) (by omega)
  go_enter Tryd.func29, Tryd.ntmps29
  go_wp2_with fail
  have g1 := GB.new w 24 N (.slice A es.length c)
  have hB := below_alloc w (.cells #[.int .i64 N, .slice A es.length c] 24)
  obtain ⟨w1, hw1⟩ : ∃ w1, w1 = w.alloc (.cells #[.int .i64 N, .slice A es.length c] 24) := ⟨_, rfl⟩
  rw [← hw1] at g1 hB ⊢
  have hs := hB.size
  replace he := he.step hB
  replace hT := hT.step hB
  clear hw1
  refine (sort_any A c N es _ he hT).mono ?_
  rintro e w2 ⟨A2, c2, rfl, q2, hb⟩
  replace g1 := g1.step hb
  replace he := he.step hb
  replace hB := below_step hB hs hb
  replace hs := hB.size
  clear hb hT
  by_cases hE : errn N es = 0
  · obtain ⟨m, rfl, hin, hfull⟩ := errn_split hE
    have hm := okN_of hin
    have hO : ordG m es = toI (ordr m es) := by unfold ordG; rw [if_pos hE, Int.toNat_natCast]
    rw [hO] at q2
    rw [hE, hO]
    have HLE := Lib.hid (levG_ok hE)
    have HEE := Lib.hid hE
    have hgood := ordr_good m es
    have hord : (toI (ordr m es)).length = m := by rw [toI_len, hfull]
    have n1 := g1.n
    have e1 := g1.e
    have hmk := hmk m (by omega)
    go_wp2_with fail
    refine (edgeEnds_any A c m es _ he (by omega) (okE_of hin)).mono ?_
    rintro e w3 ⟨ge, rfl, q3, hb⟩
    replace g1 := g1.step hb
    replace q2 := q2.step hb
    replace hB := below_step hB hs hb
    replace hs := hB.size
    clear hb n1 e1 he
    have n1 := g1.n
    go_wp2_with fail
    have R := World.rowIs_made w3 (.int .i64 0) m 3
    have hBn := below_alloc w3 (.cells (madeCells #[.int .i64 0] m) 3)
    obtain ⟨w4, hw4⟩ : ∃ w4, w4 = w3.alloc (.cells (madeCells #[.int .i64 0] m) 3) := ⟨_, rfl⟩
    obtain ⟨g, hg⟩ : ∃ g, g = w3.heap.size := ⟨_, rfl⟩
    rw [← hw4] at R hBn ⊢
    rw [← hg] at R q2 q3 hBn ⊢
    have hgs : w.heap.size ≤ g := by omega
    have HG := Lib.hid hg
    have HFULL := Lib.hid hfull
    have HGOOD := Lib.hid hgood
    have hRl := gR_lt hin
    have HRL := Lib.hid hRl
    have HNX := Lib.hid (nxN_iff hin)
    have HIN := Lib.hid hin
    obtain ⟨d, hd⟩ : ∃ d, d = ordr m es := ⟨_, rfl⟩
    have hlv : lvs m es = trn (nxN es) d := by rw [hd]; rfl
    have HLV := Lib.hid hlv
    rw [← hd] at HFULL HGOOD q2 hord
    try rw [← hd]
    have HO := Lib.hid hord
    clear hw4 hg n1 g1 hE hO hfull hgood hRl hin hlv
    try rw [HO.out]
    have hlen : d.length = m := HFULL.out
    have HL := Lib.hid hlen
    clear hord hlen
    obtain ⟨wo, hwo⟩ : ∃ wo : World, wo = w3 := ⟨_, rfl⟩
    rw [← hwo] at q2 q3 hBn hB
    have HW := Lib.hid hwo
    clear hwo
    go_loopw [27] (fun i wr => ∃ k : Nat, k ≤ m ∧ i = .int .i64 k ∧ wr.rowIs g 3 m (fun x => .int .i64 ((trn (nxN es) (d.take k) x : Nat) : Int)) ∧ Below g wo wr) (fun i _ => m - (intOf i).toNat)
    case atStart => exact ⟨0, Nat.zero_le _, rfl, R, hBn⟩
    case round =>
      obtain ⟨k, hk, rfl, hr, hbr⟩ := hrel
      clear R hBn
      by_cases hlt : k < m
      · obtain ⟨x, hx⟩ : ∃ x, x = d.getD k 0 := ⟨_, rfl⟩
        have hkd : k < d.length := by rw [HL.out]; exact hlt
        have hdx : d[k] = x := by rw [hx]; simp [List.getD, hkd]
        have hxm : x < m := HGOOD.out.lt x (by rw [← hdx]; exact List.getElem_mem _)
        obtain ⟨b2, off2, rfl, hb2, hc2⟩ := q2.rd (by rw [HO.out]; omega)
        have hcx := (hbr.cell (p := ⟨b2, off2 + k, none⟩) hb2).trans (hc2 k (by rw [HO.out]; exact hlt))
        dsimp only at hcx
        rw [show zd (toI d) k = (x : Int) by rw [← hdx]; unfold zd toI; simp [List.getD, hkd]] at hcx
        obtain ⟨A6, c6, hg6, hcell, hri⟩ := q3.at0 (k := x) (by simpa using hxm)
        rw [show ((List.range m).map (tos es)).getD x [] = tos es x by simp [List.getD, hxm]] at hcell hri
        have hcW := (hbr.cell (p := ⟨ge, x, none⟩) hg6).trans hcell
        have hT0 : trn (nxN es) (d.take (k + 1)) = rnd (outs (nxN es) x) (trn (nxN es) (d.take k)) := by
          rw [List.take_succ_eq_append_getElem hkd, trn_snoc, hdx]
        have HT := Lib.hid hT0
        have hS := trn_snd HNX.out d k
        obtain ⟨f, hf⟩ : ∃ f, f = trn (nxN es) (d.take k) := ⟨_, rfl⟩
        rw [← hf] at hr HT hS
        have HS := Lib.hid hS
        have hlo : (outs (nxN es) x).length = (tos es x).length := by unfold outs nxN; simp
        have HLO := Lib.hid hlo
        have hri2 : RdI wo g A6 (tos es x) := hri
        have hx0 : (0 : Int) ≤ (x : Int) := Int.natCast_nonneg _
        clear hc2 hcell hx hdx hT0 hf hS hlo hri hkd
        have HX := Lib.hid hxm
        have htl := tos_len es x
        go_wp2_with fail
        go_loopw [36] (fun i wq => ∃ j : Nat, j ≤ (tos es x).length ∧ i = .int .i64 j ∧ wq.rowIs g 3 m (fun y => .int .i64 ((rnd ((outs (nxN es) x).take j) f y : Nat) : Int)) ∧ Below g wo wq) (fun i _ => (tos es x).length - (intOf i).toNat)
        case atStart => exact ⟨0, Nat.zero_le _, rfl, hr, hbr⟩
        case round =>
          obtain ⟨j, hj, rfl, hr, hbr⟩ := hrel
          by_cases hjl : j < (tos es x).length
          · obtain ⟨b6, off6, rfl, hb6, hc6⟩ := hri2.rd (by omega)
            have hcy := (hbr.cell (p := ⟨b6, off6 + j, none⟩) hb6).trans (hc6 j hjl)
            obtain ⟨y, hy, hym, hyx⟩ : ∃ y : Nat, zd (tos es x) j = (y : Int) ∧ y < m ∧ (nxN es x).getD j 0 = y := by
              have hz : zd (tos es x) j ∈ tos es x := zd_mem' _ _ hjl
              have := edge_in HIN.out (tos_mem.1 hz)
              refine ⟨(zd (tos es x) j).toNat, by omega, by omega, ?_⟩
              unfold nxN zd
              simp [List.getD, hjl]
            dsimp only at hcy
            rw [hy] at hcy
            have hto := take_outs (nxN es) x j (by unfold nxN; simpa using hjl)
            rw [hyx] at hto
            have hSn : Snd (gR es) (rnd ((outs (nxN es) x).take j) f) := HS.out.rnd fun e he => by
              obtain ⟨h1, h2⟩ := mem_outs.1 (List.mem_of_mem_take he)
              exact (HNX.out _ _).2 (by rw [h1]; exact h2)
            have hfx := hSn.lt HGOOD.out HL.out HRL.out hxm
            have hfy := hSn.lt HGOOD.out HL.out HRL.out hym
            have HN : Hid (rnd ((outs (nxN es) x).take (j + 1)) f = rlx (rnd ((outs (nxN es) x).take j) f) (x, y)) := Lib.hid (by rw [hto, rnd_snoc])
            obtain ⟨q, hq⟩ : ∃ q, q = rnd ((outs (nxN es) x).take j) f := ⟨_, rfl⟩
            rw [← hq] at hr hfx hfy HN
            have cx := hr.cell hxm
            have cy := hr.cell hym
            have fy := hr.frozen y
            have hset := hr.set y (.int .i64 ((max (q y) (q x + 1) : Nat) : Int))
            have hB2 := hbr.setCell (p := ⟨g, y, none⟩) (Nat.le_refl _) (.int .i64 ((max (q y) (q x + 1) : Nat) : Int))
            have hfun : (fun i => if i = y then Value.int .i64 ((max (q y) (q x + 1) : Nat) : Int) else Value.int .i64 ((q i : Nat) : Int)) = fun i => Value.int .i64 ((rlx q (x, y) i : Nat) : Int) := by
              funext i
              unfold rlx
              dsimp only
              split <;> rfl
            rw [hfun] at hset
            have HSET := Lib.hid hset
            have HB2 := Lib.hid hB2
            have hy0 : (0 : Int) ≤ (y : Int) := Int.natCast_nonneg _
            obtain ⟨qx, hqx⟩ : ∃ qx, qx = q x := ⟨_, rfl⟩
            obtain ⟨qy, hqy⟩ : ∃ qy, qy = q y := ⟨_, rfl⟩
            rw [← hqx] at cx hfx HSET HB2
            rw [← hqy] at cy hfy HSET HB2
            have hxm' := HX.out
            have hmax : ∀ (W : World) (ts : Array TypeId) (t : TypeId), (Builtin.max_ ts t #[.int .i64 (qy : Int), .int .i64 ((qx : Int) + 1)]).run Tryd.prog W = .ok (.int .i64 ((max qy (qx + 1) : Nat) : Int)) W := fun W ts t => by
              rw [Go.run_max_int2]
              congr 2
              split <;> omega
            clear hc6 hy hyx hto hSn hset hB2 hfun hqx hqy hq hr
            go_wp2_with fail
            go_region
            all_goals
              go_wp2
              go_roundw
              case rel =>
                refine ⟨j + 1, by omega, by go_num, ?_, HB2.out.drew⟩
                rw [HN.out]
                exact HSET.out
              case measure => simp [intOf]; omega
          · obtain rfl : j = (tos es x).length := by omega
            rw [List.take_of_length_le (by rw [HLO.out]; omega), ← HT.out] at hr
            go_wp2_with fail
            go_roundw
            case rel => exact ⟨k + 1, by omega, by go_num, hr, hbr⟩
            case measure => simp [intOf]; omega
      · obtain rfl : k = m := by omega
        rw [List.take_of_length_le (Nat.le_of_eq HL.out)] at hr
        go_wp2_with fail
        go_ret2
        have hbd : ∀ b, b < k → trn (nxN es) d b < k := fun b hb => by
          have h0 := trn_snd HNX.out d d.length
          rw [List.take_length] at h0
          exact h0.lt HGOOD.out HL.out HRL.out hb
        rw [HEE.out, HLE.out, HLV.out]
        refine ⟨some ⟨g, 0, none⟩, k, by simp, rowIs_rdI' hr hbd (by omega), hB.trans (hbr.mono hgs)⟩
  · have h3 : (errn N es != 0) = true := by simpa using hE
    have HL0 := Lib.hid (levG_no hE)
    obtain ⟨E, hEE⟩ : ∃ E, E = errn N es := ⟨_, rfl⟩
    have HEE := Lib.hid hEE
    rw [← hEE] at h3 ⊢
    clear hE hEE
    go_wp2
    go_ret2
    rw [HL0.out, ← HEE.out]
    exact ⟨_, _, rfl, ⟨fun k => by simp [zd], fun k => by simp [zd], by simp, fun h => by simp at h⟩, hB⟩
end Go.Proofs.YtaboafkpmgadmaaDoor
