/-
  Contract of order.edgeEnds.
  Contract of order.Levels.
  Contracts of the reference's CLevels, of height, CHeight and Height.
  Contract of slices.Repeat at a slice of one int.
  Contract of order.smallestBefore: for each node the smallest that may stand ahead of it in a longest way, or none.
  Contract of the search that order.fewestChains makes: the closure that calls itself.
-/
import Derived.Test.YtaboafkpmgadmaaDoorPk09
import Derived.Deep.RegionHeld3
import Derived.Deep.RegionLaw
import Derived.Deep.AppendLies
import Derived.Deep.DrawnRows
import Derived.Test.YtaboafkpmgadmaaDoorPk10
import Derived.Test.YtaboafkpmgadmaaDoorPk11
import Derived.Laws.Small
import Derived.Shelf.Bits.Mul64
import Derived.Laws.CopyOwn
import Derived.Shelf.RegionOpenPlain
import Derived.Deep.CutRange
namespace Go.Proofs.YtaboafkpmgadmaaDoor
open Go.RowKit
set_option maxRecDepth 100000
attribute [local go_sem ↓] Go.wp_at_zero Go.wp_at_succ

set_option maxHeartbeats 1000000 in
theorem edgeEnds_any (A : Option Addr) (c n : Nat) (es : List (Int × Int)) (w : World) (he : RdE w w.heap.size A es) (hn : n ≤ 200) (hok : ∀ k, k < es.length → okE n (ed es k) = true) :
    Calls Tryd.prog 66 #[.agg #[.int .i64 (n : Int), .slice A es.length c]] w fun e w' => ∃ ge, e = .returned (.slice (some ⟨ge, 0, none⟩) n n) ∧ RdII w' w'.heap.size (some ⟨ge, 0, none⟩) ((List.range n).map (tos es)) ∧ Below w.heap.size w w' := by
  have hroom := he.room
  obtain ⟨i0, hi, hz0, hz1, hz2⟩ := info_parts Tryd.infoInt
  have hmk1 := run_make_row' (P := Tryd.prog) 57 25 (.slice none 0 0) 24 Tryd.underlying57 Tryd.infoSI rfl .i64 .i64 n (by omega) (by omega)
  go_enter Tryd.func66, Tryd.ntmps66
  go_wp2_with fail
  have hG := GBox.new w n A es.length c 24
  obtain ⟨w1, hw1⟩ : ∃ w1, w1 = w.alloc (.cells #[.int .i64 (n : Int), .slice A es.length c] 24) := ⟨_, rfl⟩
  have hb1 : Below w.heap.size w w1 := by rw [hw1]; exact (Below.refl _ _).alloc (Nat.le_refl _) _
  have hs1 : w.heap.size + 1 = w1.heap.size := by rw [hw1]; simp
  have hE0 := Ends.new 25 3 w1 w1.heap.size n (Nat.le_refl _)
  obtain ⟨w2, hw2⟩ : ∃ w2, w2 = w1.alloc (.cells (madeCells #[.slice none 0 0] n) 25) := ⟨_, rfl⟩
  have hb2 : Below w1.heap.size w1 w2 := by rw [hw2]; exact (Below.refl _ _).alloc (Nat.le_refl _) _
  rw [← hw1, ← hw2, hs1]
  rw [← hw2] at hE0
  rw [← hw1] at hG
  have he1 : RdE w1 w1.heap.size A es := he.step hb1
  obtain ⟨B, hB⟩ : ∃ B, B = w.heap.size := ⟨_, rfl⟩
  obtain ⟨B1, hB1⟩ : ∃ B1, B1 = w1.heap.size := ⟨_, rfl⟩
  rw [← hB] at hG hs1 ⊢
  rw [← hB1] at he1 hE0 hb2 hs1 ⊢
  have hs1 : B + 1 ≤ B1 := by omega
  have hs2 : B1 ≤ w2.heap.size := by have := hb2.size; omega
  have hG2 : GBox w2 B n A es.length c := hG.below hb2 (by omega)
  have HB1 := Lib.hid hB1
  have HB := Lib.hid hB
  have HX := Lib.hid hb1
  have HG := Lib.hid hG
  clear hw1 hw2 hB hB1 he hG
  have HO := Lib.hid hok
  clear hok
  go_loopw [12] (fun i wr => ∃ k : Nat, k ≤ es.length ∧ i = .int .i64 k ∧ Ends 25 3 wr B1 B1 n (tos (es.take k)) ∧ Below B1 w1 wr) (fun i _ => es.length - (intOf i).toNat)
  case atStart => exact ⟨0, Nat.zero_le _, rfl, hE0, hb2⟩
  case round =>
    obtain ⟨k, hk, rfl, hEn, hbr⟩ := hrel
    clear hE0 hb2 hG2
    by_cases hlt : k < es.length
    · have hoke := HO.out k hlt
      unfold okE at hoke
      rw [Bool.and_eq_true] at hoke
      obtain ⟨o1, o2⟩ := hoke
      replace o1 := nodeB_true o1
      replace o2 := nodeB_true o2
      obtain ⟨x, hx⟩ : ∃ x : Nat, (ed es k).1 = (x : Int) := ⟨(ed es k).1.toNat, by omega⟩
      obtain ⟨y, hy⟩ : ∃ y : Nat, (ed es k).2 = (y : Int) := ⟨(ed es k).2.toNat, by omega⟩
      have hxn : x < n := by omega
      have HT := Lib.hid (tos_take es k x hlt hx)
      have hsz := Nat.le_trans (show B1 ≤ w1.heap.size from Nat.le_of_eq HB1.out) hbr.size
      obtain ⟨b, off, rfl, hb, hc⟩ := he1.rd (by omega)
      have hc1 := (hbr.cell (p := ⟨b, off + k * 2, none⟩) hb).trans (hc k hlt).1
      have hc2 := (hbr.cell (p := ⟨b, off + k * 2 + 1, none⟩) hb).trans (hc k hlt).2
      rw [hx] at hc1
      rw [hy] at hc2
      have HY := Lib.hid hy
      clear hc o1 o2 hx hy
      go_wp2_with fail
      have hX := EBox.new wr x y 38
      obtain ⟨w3, hw3⟩ : ∃ w3, w3 = wr.alloc (.cells #[.int .i64 (x : Int), .int .i64 (y : Int)] 38) := ⟨_, rfl⟩
      have hs3 : w3.heap.size = wr.heap.size + 1 := by rw [hw3]; simp
      have hEn3 : Ends 25 3 w3 B1 B1 n (tos (es.take k)) := by rw [hw3]; exact hEn.alloc _
      have hbr3 : Below B1 w1 w3 := by rw [hw3]; exact hbr.alloc hsz _
      rw [← hw3] at hX ⊢
      have hgl0 := hEn.lt
      have hbk : w3.heap[wr.heap.size]? = some (.cells #[.int .i64 (x : Int), .int .i64 (y : Int)] 38 (0, 0)) := by rw [hw3]; exact heap_alloc_new wr _
      clear hw3 hEn hbr hc1 hc2
      have hl := tos_take_len es k x
      obtain ⟨v, A3, c3, rfl, hcell, hfz, hown, hgl, hng, hnext⟩ := hEn3.at_ (by decide) hxn
      have hx0 : (0 : Int) ≤ (x : Int) := Int.natCast_nonneg _
      have hx1 : (x : Int) < (n : Int) := by omega
      have hex := hX.x
      have hey := hX.y
      obtain ⟨BE, hBE⟩ : ∃ BE, BE = wr.heap.size := ⟨_, rfl⟩
      rw [← hBE] at hex hey hs3 hbk ⊢
      have hBE3 : BE < w3.heap.size := by omega
      have hne : BE ≠ B1 := by omega
      have hnE : (Value.slice A3 (tos (es.take k) x).length c3).ownBlock ≠ some BE := own_ne_blk hown hbk (by decide)
      have HS3 := Lib.hid hs3
      clear hX hBE hs3
      have hfa : ∀ o, (w3.alloc o).frozen? ⟨B1, x, none⟩ = false := fun o => (World.frozen?_alloc_old w3 o ⟨B1, x, none⟩ (Nat.ne_of_lt hgl)).trans hfz
      clear hbk
      have hxa : ∀ o, (w3.alloc o).cell? ⟨BE, 0, none⟩ = some (.int .i64 (x : Int)) := fun o => (World.cell?_alloc_lt w3 o ⟨BE, 0, none⟩ hBE3).trans hex
      have hya : ∀ o, (w3.alloc o).cell? ⟨BE, 1, none⟩ = some (.int .i64 (y : Int)) := fun o => (World.cell?_alloc_lt w3 o ⟨BE, 1, none⟩ hBE3).trans hey
      have hca : ∀ o, (w3.alloc o).cell? ⟨B1, x, none⟩ = some (.slice A3 (tos (es.take k) x).length c3) := fun o => (World.cell?_alloc_lt w3 o ⟨B1, x, none⟩ hgl).trans hcell
      have hin1 : (tos (es.take k) x).length + 1 ≤ maxLen := by unfold maxLen; omega
      have hin2 : ((tos (es.take k) x).length + 1) * 8 ≤ 140737488355328 := by omega
      have hfin : ∀ gg cap w4, w4.ownsRow B1 3 1 (.slice (some ⟨gg, 0, none⟩) ((tos (es.take k) x).length + 1) cap) ((tos (es.take k) x).length + 1) (iVals (tos (es.take k) x) ++ [.int .i64 (y : Int)]) →
          (w3.alloc (.cells #[.int .i64 (y : Int)] 3)).drew.grownBy w4 (Value.slice A3 (tos (es.take k) x).length c3).ownBlock → ((Value.slice A3 (tos (es.take k) x).length c3).ownBlock = some gg ∨ gg = w3.heap.size + 1) →
          Hid (Ends 25 3 (w4.setCell ⟨B1, x, none⟩ (.slice (some ⟨gg, 0, none⟩) ((tos (es.take k) x).length + 1) cap)) B1 B1 n (tos (es.take (k + 1))) ∧ Below B1 w1 (w4.setCell ⟨B1, x, none⟩ (.slice (some ⟨gg, 0, none⟩) ((tos (es.take k) x).length + 1) cap))) := fun gg cap w4 h1 h2 h3 => by
        refine Lib.hid ⟨?_, ?_⟩
        · rw [HT.out, HY.out]
          exact hnext _ y _ w4 h1 h2 (fun b hb => by
            obtain rfl : gg = b := by simpa [Value.ownBlock] using hb
            exact h3)
        · refine Below.setCell (p := ⟨B1, x, none⟩) (((hbr3.alloc (by omega) _).drew).grown h2 (by simp; omega) (own_base hown)) (Nat.le_refl _) _
      have HFIN := Lib.hid hfin
      clear hfin hnext
      go_region_law
        ((refine step_append_lies _ (by rfl) _ _ _ (by rfl) B1 3 i0 _ 1 8 Tryd.underlying25 hi hz0 hz1 hz2 rfl (by omega) (.slice A3 (tos (es.take k) x).length c3) (tos (es.take k) x).length (iVals (tos (es.take k) x)) (by rfl) ((hown.alloc _).drew)
            ⟨w3.heap.size, 0, none⟩ 1 1 [.int .i64 (y : Int)] (by rfl) (by rfl) (World.news_of_block (cs := #[.int .i64 (y : Int)]) (t := 3) (fr := (0, 0)) (heap_alloc_new w3 _)) (by simp [Value.oneCell'])
            (by omega) hin1 hin2 (by simp; omega) (w3.heap.size + 1) (by simp) ?_; intro gg cap w4 hown1 hgrow hat hlt'; have hc4 := (hgrow.cell_far ⟨B1, x, none⟩ (by simp; omega) (Ne.symm hng)).trans (hca _); have hf4 := (hgrow.frozen_far ⟨B1, x, none⟩ (by simp; omega) (Ne.symm hng)).trans (hfa _); have hx4 := (hgrow.cell_far ⟨BE, 0, none⟩ (by simp; omega) (Ne.symm hnE)).trans (hxa _); have hy4 := (hgrow.cell_far ⟨BE, 1, none⟩ (by simp; omega) (Ne.symm hnE)).trans (hya _); have HF := HFIN.out _ _ _ hown1 hgrow hat))
      all_goals
        go_wp2
        go_roundw
        case rel => exact ⟨k + 1, by omega, by go_num, HF.out.1, HF.out.2⟩
        case measure => simp [intOf]; omega
    · obtain rfl : k = es.length := by omega
      rw [List.take_length] at hEn
      have hR := hEn.rd (by omega) fun i hi => ⟨Nat.le_trans (tos_len es i) (by omega), fun k => tos_in es n HO.out i k hn⟩
      go_wp2
      go_ret
      have hBB := HB.out
      exact ⟨_, rfl, hR, HX.out.trans (hbr.mono (by omega))⟩
end Go.Proofs.YtaboafkpmgadmaaDoor

namespace Go.Proofs.YtaboafkpmgadmaaDoor
open Go.RowKit
set_option maxRecDepth 100000

/-- where the edges from a lead -/
def nxN (es : List (Int × Int)) (a : Nat) : List Nat := (tos es a).map Int.toNat
theorem nxN_iff {m : Nat} {es : List (Int × Int)} (h : inR m es = true) (a b : Nat) : gR es a b = true ↔ b ∈ nxN es a := by
  unfold nxN gR
  rw [List.mem_map, decide_eq_true_eq]
  constructor
  · intro hm
    exact ⟨(b : Int), tos_mem.2 hm, by omega⟩
  · rintro ⟨z, hz, rfl⟩
    have hm := tos_mem.1 hz
    have := edge_in h hm
    rwa [show ((z.toNat : Nat) : Int) = z by omega]
/-- the longest ways' lengths -/
def lvs (m : Nat) (es : List (Int × Int)) : Nat → Nat := trn (nxN es) (ordr m es)
def levG (N : Int) (es : List (Int × Int)) : List Int := if errn N es = 0 then (List.range N.toNat).map (fun k => ((lvs N.toNat es k : Nat) : Int)) else []
theorem lvs_lev {m : Nat} {es : List (Int × Int)} (h : inR m es = true) (hfull : (ordr m es).length = m) : Lev (gR es) (lvs m es) := trn_lev (good_topoN _ _ _) hfull (gR_lt h) (nxN_iff h)
theorem ordr_good (m : Nat) (es : List (Int × Int)) : Good (gR es) m (ordr m es) := good_topoN _ _ _
theorem lvs_lt {m : Nat} {es : List (Int × Int)} (h : inR m es = true) (hfull : (ordr m es).length = m) {b : Nat} (hb : b < m) : lvs m es b < m := (lvs_lev h hfull).way.lt (ordr_good m es) hfull (gR_lt h) hb
theorem levG_ok {m : Nat} {es : List (Int × Int)} (h : errn m es = 0) : levG m es = (List.range m).map (fun k => ((lvs m es k : Nat) : Int)) := by unfold levG; rw [if_pos h, Int.toNat_natCast]
theorem levG_no {N : Int} {es : List (Int × Int)} (h : errn N es ≠ 0) : levG N es = [] := by unfold levG; rw [if_neg h]
theorem levG_len {m : Nat} {es : List (Int × Int)} (h : errn m es = 0) : (levG m es).length = m := by rw [levG_ok h]; simp

/-- one more edge's end, in memory -/
theorem take_outs (nx : Nat → List Nat) (a j : Nat) (h : j < (nx a).length) : (outs nx a).take (j + 1) = (outs nx a).take j ++ [(a, (nx a).getD j 0)] := by
  rw [List.take_succ_eq_append_getElem (by unfold outs; simpa using h)]
  congr 2
  unfold outs
  simp [List.getD, h]

theorem rowIs_rdI' {w : World} {g t m : Nat} {z : Nat → Nat} (h : w.rowIs g t m (fun k => .int .i64 ((z k : Nat) : Int))) (hb : ∀ k, k < m → z k < m) (hm : m ≤ 1048576) : RdI w w.heap.size (some ⟨g, 0, none⟩) ((List.range m).map fun k => ((z k : Nat) : Int)) := by
  have h2 : w.rowIs g t m (fun k => .int .i64 (if k < m then ((z k : Nat) : Int) else 0)) := h.congr fun k hk => by rw [if_pos hk]
  have h3 := rowIs_rdI h2 (fun k => by split; have := hb k (by assumption); omega; omega) hm
  rwa [show (List.range m).map (fun k => if k < m then ((z k : Nat) : Int) else 0) = (List.range m).map fun k => ((z k : Nat) : Int) from List.map_congr_left fun k hk => if_pos (List.mem_range.1 hk)] at h3

set_option maxHeartbeats 4000000 in
theorem levels_any (A : Option Addr) (c : Nat) (N : Int) (es : List (Int × Int)) (w : World) (he : RdE w w.heap.size A es) (hT : Tab w) :
    Calls Tryd.prog 29 #[.agg #[.int .i64 N, .slice A es.length c]] w fun e w' => ∃ A1 c1, e = .returned (.tuple #[.slice A1 (levG N es).length c1, .int .i64 (errn N es)]) ∧ RdI w' w'.heap.size A1 (levG N es) ∧ Below w.heap.size w w' := by
  have hroom := he.room
  have hmk := fun m (hm : m ≤ 200) => run_make_row' (P := Tryd.prog) 25 3 (.int .i64 0) 8 Tryd.underlying25 Tryd.infoInt rfl .i64 .i64 m (by omega) (by omega)
  go_enter Tryd.func29, Tryd.ntmps29
  go_wp2_with fail
  have g1 := GB.new w 24 N (.slice A es.length c)
  have hB := below_alloc w (.cells #[.int .i64 N, .slice A es.length c] 24)
  obtain ⟨w1, hw1⟩ : ∃ w1, w1 = w.alloc (.cells #[.int .i64 N, .slice A es.length c] 24) := ⟨_, rfl⟩
  rw [← hw1] at g1 hB ⊢
  have hs := hB.size
  replace he := he.step hB
  replace hT := hT.step hB
  clear hw1
  refine (sort_any A c N es _ he hT).mono ?_
  rintro e w2 ⟨A2, c2, rfl, q2, hb⟩
  replace g1 := g1.step hb
  replace he := he.step hb
  replace hB := below_step hB hs hb
  replace hs := hB.size
  clear hb hT
  by_cases hE : errn N es = 0
  · obtain ⟨m, rfl, hin, hfull⟩ := errn_split hE
    have hm := okN_of hin
    have hO : ordG m es = toI (ordr m es) := by unfold ordG; rw [if_pos hE, Int.toNat_natCast]
    rw [hO] at q2
    rw [hE, hO]
    have HLE := Lib.hid (levG_ok hE)
    have HEE := Lib.hid hE
    have hgood := ordr_good m es
    have hord : (toI (ordr m es)).length = m := by rw [toI_len, hfull]
    have n1 := g1.n
    have e1 := g1.e
    have hmk := hmk m (by omega)
    go_wp2_with fail
    refine (edgeEnds_any A c m es _ he (by omega) (okE_of hin)).mono ?_
    rintro e w3 ⟨ge, rfl, q3, hb⟩
    replace g1 := g1.step hb
    replace q2 := q2.step hb
    replace hB := below_step hB hs hb
    replace hs := hB.size
    clear hb n1 e1 he
    have n1 := g1.n
    go_wp2_with fail
    have R := World.rowIs_made w3 (.int .i64 0) m 3
    have hBn := below_alloc w3 (.cells (madeCells #[.int .i64 0] m) 3)
    obtain ⟨w4, hw4⟩ : ∃ w4, w4 = w3.alloc (.cells (madeCells #[.int .i64 0] m) 3) := ⟨_, rfl⟩
    obtain ⟨g, hg⟩ : ∃ g, g = w3.heap.size := ⟨_, rfl⟩
    rw [← hw4] at R hBn ⊢
    rw [← hg] at R q2 q3 hBn ⊢
    have hgs : w.heap.size ≤ g := by omega
    have HG := Lib.hid hg
    have HFULL := Lib.hid hfull
    have HGOOD := Lib.hid hgood
    have hRl := gR_lt hin
    have HRL := Lib.hid hRl
    have HNX := Lib.hid (nxN_iff hin)
    have HIN := Lib.hid hin
    obtain ⟨d, hd⟩ : ∃ d, d = ordr m es := ⟨_, rfl⟩
    have hlv : lvs m es = trn (nxN es) d := by rw [hd]; rfl
    have HLV := Lib.hid hlv
    rw [← hd] at HFULL HGOOD q2 hord
    try rw [← hd]
    have HO := Lib.hid hord
    clear hw4 hg n1 g1 hE hO hfull hgood hRl hin hlv
    try rw [HO.out]
    have hlen : d.length = m := HFULL.out
    have HL := Lib.hid hlen
    clear hord hlen
    obtain ⟨wo, hwo⟩ : ∃ wo : World, wo = w3 := ⟨_, rfl⟩
    rw [← hwo] at q2 q3 hBn hB
    have HW := Lib.hid hwo
    clear hwo
    go_loopw [27] (fun i wr => ∃ k : Nat, k ≤ m ∧ i = .int .i64 k ∧ wr.rowIs g 3 m (fun x => .int .i64 ((trn (nxN es) (d.take k) x : Nat) : Int)) ∧ Below g wo wr) (fun i _ => m - (intOf i).toNat)
    case atStart => exact ⟨0, Nat.zero_le _, rfl, R, hBn⟩
    case round =>
      obtain ⟨k, hk, rfl, hr, hbr⟩ := hrel
      clear R hBn
      by_cases hlt : k < m
      · obtain ⟨x, hx⟩ : ∃ x, x = d.getD k 0 := ⟨_, rfl⟩
        have hkd : k < d.length := by rw [HL.out]; exact hlt
        have hdx : d[k] = x := by rw [hx]; simp [List.getD, hkd]
        have hxm : x < m := HGOOD.out.lt x (by rw [← hdx]; exact List.getElem_mem _)
        obtain ⟨b2, off2, rfl, hb2, hc2⟩ := q2.rd (by rw [HO.out]; omega)
        have hcx := (hbr.cell (p := ⟨b2, off2 + k, none⟩) hb2).trans (hc2 k (by rw [HO.out]; exact hlt))
        dsimp only at hcx
        rw [show zd (toI d) k = (x : Int) by rw [← hdx]; unfold zd toI; simp [List.getD, hkd]] at hcx
        obtain ⟨A6, c6, hg6, hcell, hri⟩ := q3.at0 (k := x) (by simpa using hxm)
        rw [show ((List.range m).map (tos es)).getD x [] = tos es x by simp [List.getD, hxm]] at hcell hri
        have hcW := (hbr.cell (p := ⟨ge, x, none⟩) hg6).trans hcell
        have hT0 : trn (nxN es) (d.take (k + 1)) = rnd (outs (nxN es) x) (trn (nxN es) (d.take k)) := by
          rw [List.take_succ_eq_append_getElem hkd, trn_snoc, hdx]
        have HT := Lib.hid hT0
        have hS := trn_snd HNX.out d k
        obtain ⟨f, hf⟩ : ∃ f, f = trn (nxN es) (d.take k) := ⟨_, rfl⟩
        rw [← hf] at hr HT hS
        have HS := Lib.hid hS
        have hlo : (outs (nxN es) x).length = (tos es x).length := by unfold outs nxN; simp
        have HLO := Lib.hid hlo
        have hri2 : RdI wo g A6 (tos es x) := hri
        have hx0 : (0 : Int) ≤ (x : Int) := Int.natCast_nonneg _
        clear hc2 hcell hx hdx hT0 hf hS hlo hri hkd
        have HX := Lib.hid hxm
        have htl := tos_len es x
        go_wp2_with fail
        go_loopw [36] (fun i wq => ∃ j : Nat, j ≤ (tos es x).length ∧ i = .int .i64 j ∧ wq.rowIs g 3 m (fun y => .int .i64 ((rnd ((outs (nxN es) x).take j) f y : Nat) : Int)) ∧ Below g wo wq) (fun i _ => (tos es x).length - (intOf i).toNat)
        case atStart => exact ⟨0, Nat.zero_le _, rfl, hr, hbr⟩
        case round =>
          obtain ⟨j, hj, rfl, hr, hbr⟩ := hrel
          by_cases hjl : j < (tos es x).length
          · obtain ⟨b6, off6, rfl, hb6, hc6⟩ := hri2.rd (by omega)
            have hcy := (hbr.cell (p := ⟨b6, off6 + j, none⟩) hb6).trans (hc6 j hjl)
            obtain ⟨y, hy, hym, hyx⟩ : ∃ y : Nat, zd (tos es x) j = (y : Int) ∧ y < m ∧ (nxN es x).getD j 0 = y := by
              have hz : zd (tos es x) j ∈ tos es x := zd_mem' _ _ hjl
              have := edge_in HIN.out (tos_mem.1 hz)
              refine ⟨(zd (tos es x) j).toNat, by omega, by omega, ?_⟩
              unfold nxN zd
              simp [List.getD, hjl]
            dsimp only at hcy
            rw [hy] at hcy
            have hto := take_outs (nxN es) x j (by unfold nxN; simpa using hjl)
            rw [hyx] at hto
            have hSn : Snd (gR es) (rnd ((outs (nxN es) x).take j) f) := HS.out.rnd fun e he => by
              obtain ⟨h1, h2⟩ := mem_outs.1 (List.mem_of_mem_take he)
              exact (HNX.out _ _).2 (by rw [h1]; exact h2)
            have hfx := hSn.lt HGOOD.out HL.out HRL.out hxm
            have hfy := hSn.lt HGOOD.out HL.out HRL.out hym
            have HN : Hid (rnd ((outs (nxN es) x).take (j + 1)) f = rlx (rnd ((outs (nxN es) x).take j) f) (x, y)) := Lib.hid (by rw [hto, rnd_snoc])
            obtain ⟨q, hq⟩ : ∃ q, q = rnd ((outs (nxN es) x).take j) f := ⟨_, rfl⟩
            rw [← hq] at hr hfx hfy HN
            have cx := hr.cell hxm
            have cy := hr.cell hym
            have fy := hr.frozen y
            have hset := hr.set y (.int .i64 ((max (q y) (q x + 1) : Nat) : Int))
            have hB2 := hbr.setCell (p := ⟨g, y, none⟩) (Nat.le_refl _) (.int .i64 ((max (q y) (q x + 1) : Nat) : Int))
            have hfun : (fun i => if i = y then Value.int .i64 ((max (q y) (q x + 1) : Nat) : Int) else Value.int .i64 ((q i : Nat) : Int)) = fun i => Value.int .i64 ((rlx q (x, y) i : Nat) : Int) := by
              funext i
              unfold rlx
              dsimp only
              split <;> rfl
            rw [hfun] at hset
            have HSET := Lib.hid hset
            have HB2 := Lib.hid hB2
            have hy0 : (0 : Int) ≤ (y : Int) := Int.natCast_nonneg _
            obtain ⟨qx, hqx⟩ : ∃ qx, qx = q x := ⟨_, rfl⟩
            obtain ⟨qy, hqy⟩ : ∃ qy, qy = q y := ⟨_, rfl⟩
            rw [← hqx] at cx hfx HSET HB2
            rw [← hqy] at cy hfy HSET HB2
            have hxm' := HX.out
            have hmax : ∀ (W : World) (ts : Array TypeId) (t : TypeId), (Builtin.max_ ts t #[.int .i64 (qy : Int), .int .i64 ((qx : Int) + 1)]).run Tryd.prog W = .ok (.int .i64 ((max qy (qx + 1) : Nat) : Int)) W := fun W ts t => by
              rw [Go.run_max_int2]
              congr 2
              split <;> omega
            clear hc6 hy hyx hto hSn hset hB2 hfun hqx hqy hq hr
            go_wp2_with fail
            go_region
            all_goals
              go_wp2
              go_roundw
              case rel =>
                refine ⟨j + 1, by omega, by go_num, ?_, HB2.out.drew⟩
                rw [HN.out]
                exact HSET.out
              case measure => simp [intOf]; omega
          · obtain rfl : j = (tos es x).length := by omega
            rw [List.take_of_length_le (by rw [HLO.out]; omega), ← HT.out] at hr
            go_wp2_with fail
            go_roundw
            case rel => exact ⟨k + 1, by omega, by go_num, hr, hbr⟩
            case measure => simp [intOf]; omega
      · obtain rfl : k = m := by omega
        rw [List.take_of_length_le (Nat.le_of_eq HL.out)] at hr
        go_wp2_with fail
        go_ret2
        have hbd : ∀ b, b < k → trn (nxN es) d b < k := fun b hb => by
          have h0 := trn_snd HNX.out d d.length
          rw [List.take_length] at h0
          exact h0.lt HGOOD.out HL.out HRL.out hb
        rw [HEE.out, HLE.out, HLV.out]
        refine ⟨some ⟨g, 0, none⟩, k, by simp, rowIs_rdI' hr hbd (by omega), hB.trans (hbr.mono hgs)⟩
  · have h3 : (errn N es != 0) = true := by simpa using hE
    have HL0 := Lib.hid (levG_no hE)
    obtain ⟨E, hEE⟩ : ∃ E, E = errn N es := ⟨_, rfl⟩
    have HEE := Lib.hid hEE
    rw [← hEE] at h3 ⊢
    clear hE hEE
    go_wp2
    go_ret2
    rw [HL0.out, ← HEE.out]
    exact ⟨_, _, rfl, ⟨fun k => by simp [zd], fun k => by simp [zd], by simp, fun h => by simp at h⟩, hB⟩
end Go.Proofs.YtaboafkpmgadmaaDoor

namespace Go.Proofs.YtaboafkpmgadmaaDoor
open Go.RowKit
set_option maxRecDepth 100000

/-- the edges as nodes -/
def nE (es : List (Int × Int)) : List (Nat × Nat) := es.map fun e => (e.1.toNat, e.2.toNat)
theorem nE_len (es : List (Int × Int)) : (nE es).length = es.length := by unfold nE; simp
theorem nE_iff {m : Nat} {es : List (Int × Int)} (h : inR m es = true) (a b : Nat) : gR es a b = true ↔ (a, b) ∈ nE es := by
  unfold nE gR
  rw [List.mem_map, decide_eq_true_eq]
  constructor
  · intro hm
    exact ⟨_, hm, by simp⟩
  · rintro ⟨⟨x, y⟩, hz, he⟩
    have := edge_in h hz
    injection he with h1 h2
    dsimp only at h1 h2
    rwa [show (a : Int) = x by omega, show (b : Int) = y by omega]
theorem take_nE (es : List (Int × Int)) (k : Nat) (h : k < es.length) : (nE es).take (k + 1) = (nE es).take k ++ [((ed es k).1.toNat, (ed es k).2.toNat)] := by
  unfold nE
  rw [← List.map_take, ← List.map_take, take_ed es k h, List.map_append]
  rfl
theorem lvs_rnds {m : Nat} {es : List (Int × Int)} (h : inR m es = true) (hfull : (ordr m es).length = m) : lvs m es = rnds (nE es) m :=
  (lvs_lev h hfull).uniq (rnds_lev (ordr_good m es) hfull (gR_lt h) (nE_iff h))

set_option maxHeartbeats 4000000 in
theorem clevels_any (A : Option Addr) (c : Nat) (N : Int) (es : List (Int × Int)) (w : World) (he : RdE w w.heap.size A es) :
    Calls Tryd.prog 30 #[.agg #[.int .i64 N, .slice A es.length c]] w fun e w' => ∃ A1 c1, e = .returned (.tuple #[.slice A1 (levG N es).length c1, .int .i64 (errn N es)]) ∧ RdI w' w'.heap.size A1 (levG N es) ∧ Below w.heap.size w w' := by
  have hroom := he.room
  have hmk := fun m (hm : m ≤ 200) => run_make_row' (P := Tryd.prog) 25 3 (.int .i64 0) 8 Tryd.underlying25 Tryd.infoInt rfl .i64 .i64 m (by omega) (by omega)
  go_enter Tryd.func30, Tryd.ntmps30
  go_wp2_with fail
  have g1 := GB.new w 24 N (.slice A es.length c)
  have hB := below_alloc w (.cells #[.int .i64 N, .slice A es.length c] 24)
  obtain ⟨w1, hw1⟩ : ∃ w1, w1 = w.alloc (.cells #[.int .i64 N, .slice A es.length c] 24) := ⟨_, rfl⟩
  rw [← hw1] at g1 hB ⊢
  have hs := hB.size
  replace he := he.step hB
  clear hw1
  refine (bwrong_any A c N es _ he).mono ?_
  rintro e w3 ⟨rfl, hb⟩
  replace g1 := g1.step hb
  replace he := he.step hb
  replace hB := below_step hB hs hb
  replace hs := hB.size
  clear hb
  by_cases hE : errn N es = 0
  · obtain ⟨m, rfl, hin, hfull⟩ := errn_split hE
    have hm := okN_of hin
    rw [hE]
    have HEE := Lib.hid hE
    have HLE := Lib.hid ((levG_ok hE).trans (by rw [lvs_rnds hin hfull]))
    have n1 := g1.n
    have n4 : ∀ o, (w3.alloc o).cell? ⟨w.heap.size, 0, none⟩ = some (.int .i64 (m : Int)) := fun o => (World.cell?_alloc_lt w3 o ⟨w.heap.size, 0, none⟩ g1.lt).trans n1
    have hmk := hmk m (by omega)
    go_wp2_with fail
    have R := World.rowIs_made w3 (.int .i64 0) m 3
    have hBn := below_alloc w3 (.cells (madeCells #[.int .i64 0] m) 3)
    obtain ⟨w4, hw4⟩ : ∃ w4, w4 = w3.alloc (.cells (madeCells #[.int .i64 0] m) 3) := ⟨_, rfl⟩
    obtain ⟨g, hg⟩ : ∃ g, g = w3.heap.size := ⟨_, rfl⟩
    rw [← hw4] at R hBn ⊢
    rw [← hg] at R hBn he ⊢
    have hgs : w.heap.size ≤ g := by omega
    have hgl := g1.lt
    have e1 := g1.e
    rw [← hg] at hgl
    have HFULL := Lib.hid hfull
    have HGOOD := Lib.hid (ordr_good m es)
    have HRL := Lib.hid (gR_lt hin)
    have HIN := Lib.hid hin
    have HNE := Lib.hid (nE_iff hin)
    clear hw4 hg n1 hE hfull hin g1
    obtain ⟨wo, rfl⟩ : ∃ wo : World, wo = w3 := ⟨_, rfl⟩
    go_loopw [18] (fun i wr => ∃ k : Nat, k ≤ m ∧ i = .int .i64 k ∧ wr.rowIs g 3 m (fun x => .int .i64 ((rnds (nE es) k x : Nat) : Int)) ∧ Below g wo wr) (fun i _ => m - (intOf i).toNat)
    case atStart => exact ⟨0, Nat.zero_le _, rfl, R, hBn⟩
    case round =>
      obtain ⟨k, hk, rfl, hr, hbr⟩ := hrel
      clear R hBn n4
      by_cases hlt : k < m
      · have hS := rnds_snd (R := gR es) (E := nE es) (fun e he => (HNE.out _ _).2 he) k
        obtain ⟨f, hf⟩ : ∃ f, f = rnds (nE es) k := ⟨_, rfl⟩
        have hT0 : rnds (nE es) (k + 1) = rnd (nE es) f := by rw [hf]; rfl
        rw [← hf] at hr hS
        have HS := Lib.hid hS
        have HT := Lib.hid hT0
        have en := (hbr.cell (p := ⟨w.heap.size, 1, none⟩) hgl).trans e1
        clear hf hS hT0
        go_wp2_with fail
        go_loopw [23] (fun i wq => ∃ j : Nat, j ≤ es.length ∧ i = .int .i64 j ∧ wq.rowIs g 3 m (fun y => .int .i64 ((rnd ((nE es).take j) f y : Nat) : Int)) ∧ Below g wo wq) (fun i _ => es.length - (intOf i).toNat)
        case atStart => exact ⟨0, Nat.zero_le _, rfl, hr, hbr⟩
        case round =>
          obtain ⟨j, hj, rfl, hr, hbr⟩ := hrel
          by_cases hjl : j < es.length
          · obtain ⟨b6, off6, rfl, hb6, hc6⟩ := he.rd (by omega)
            have hcx := (hbr.cell (p := ⟨b6, off6 + j * 2, none⟩) hb6).trans (hc6 j hjl).1
            have hcy := (hbr.cell (p := ⟨b6, off6 + j * 2 + 1, none⟩) hb6).trans (hc6 j hjl).2
            obtain ⟨x, y, hex, hey, hxm, hym, hex2, hey2⟩ : ∃ x y : Nat, (ed es j).1 = (x : Int) ∧ (ed es j).2 = (y : Int) ∧ x < m ∧ y < m ∧ (ed es j).1.toNat = x ∧ (ed es j).2.toNat = y := by
              have := edge_in (a := (ed es j).1) (b := (ed es j).2) HIN.out (ed_mem es j hjl)
              exact ⟨(ed es j).1.toNat, (ed es j).2.toNat, by omega, by omega, by omega, by omega, rfl, rfl⟩
            rw [hex] at hcx
            rw [hey] at hcy
            have hto := take_nE es j hjl
            rw [hex2, hey2] at hto
            have hSn : Snd (gR es) (rnd ((nE es).take j) f) := HS.out.rnd fun e he => (HNE.out _ _).2 (List.mem_of_mem_take he)
            have hfx := hSn.lt HGOOD.out HFULL.out HRL.out hxm
            have hfy := hSn.lt HGOOD.out HFULL.out HRL.out hym
            have HN : Hid (rnd ((nE es).take (j + 1)) f = rlx (rnd ((nE es).take j) f) (x, y)) := Lib.hid (by rw [hto, rnd_snoc])
            obtain ⟨q, hq⟩ : ∃ q, q = rnd ((nE es).take j) f := ⟨_, rfl⟩
            rw [← hq] at hr hfx hfy HN
            clear hc6 hex hey hex2 hey2 hto hSn hq
            go_wp2_with fail
            have hX := EBox.new wr x y 38
            have hgr := hr.lt
            replace hr := hr.alloc (.cells #[.int .i64 (x : Int), .int .i64 (y : Int)] 38)
            replace hbr := hbr.alloc (by omega) (.cells #[.int .i64 (x : Int), .int .i64 (y : Int)] 38)
            obtain ⟨w5, hw5⟩ : ∃ w5, w5 = wr.alloc (.cells #[.int .i64 (x : Int), .int .i64 (y : Int)] 38) := ⟨_, rfl⟩
            rw [← hw5] at hX hr hbr ⊢
            have bx := hX.x
            have bY := hX.y
            obtain ⟨B5, hB5⟩ : ∃ B5, B5 = wr.heap.size := ⟨_, rfl⟩
            rw [← hB5] at bx bY ⊢
            have hne : B5 ≠ g := by omega
            have cx := hr.cell hxm
            have cy := hr.cell hym
            have fy := hr.frozen y
            have hset := hr.set y (.int .i64 ((max (q y) (q x + 1) : Nat) : Int))
            have hB2 := hbr.setCell (p := ⟨g, y, none⟩) (Nat.le_refl _) (.int .i64 ((max (q y) (q x + 1) : Nat) : Int))
            have hfun : (fun i => if i = y then Value.int .i64 ((max (q y) (q x + 1) : Nat) : Int) else Value.int .i64 ((q i : Nat) : Int)) = fun i => Value.int .i64 ((rlx q (x, y) i : Nat) : Int) := by
              funext i
              unfold rlx
              dsimp only
              split <;> rfl
            rw [hfun] at hset
            have HSET := Lib.hid hset
            have HB2 := Lib.hid hB2
            have hx0 : (0 : Int) ≤ (x : Int) := Int.natCast_nonneg _
            have hy0 : (0 : Int) ≤ (y : Int) := Int.natCast_nonneg _
            obtain ⟨qx, hqx⟩ : ∃ qx, qx = q x := ⟨_, rfl⟩
            obtain ⟨qy, hqy⟩ : ∃ qy, qy = q y := ⟨_, rfl⟩
            rw [← hqx] at cx hfx HSET HB2
            rw [← hqy] at cy hfy HSET HB2
            have hmax : ∀ (W : World) (ts : Array TypeId) (t : TypeId), (Builtin.max_ ts t #[.int .i64 (qy : Int), .int .i64 ((qx : Int) + 1)]).run Tryd.prog W = .ok (.int .i64 ((max qy (qx + 1) : Nat) : Int)) W := fun W ts t => by
              rw [Go.run_max_int2]
              congr 2
              split <;> omega
            clear hset hB2 hfun hqx hqy hr hw5 hX hgr hB5
            go_wp2_with fail
            go_region
            all_goals
              go_wp2
              go_roundw
              case rel =>
                refine ⟨j + 1, by omega, by go_num, ?_, HB2.out.drew⟩
                rw [HN.out]
                exact HSET.out
              case measure => simp [intOf]; omega
          · obtain rfl : j = es.length := by omega
            rw [List.take_of_length_le (by rw [nE_len]; omega), ← HT.out] at hr
            go_wp2_with fail
            go_roundw
            case rel => exact ⟨k + 1, by omega, by go_num, hr, hbr⟩
            case measure => simp [intOf]; omega
      · obtain rfl : k = m := by omega
        go_wp2_with fail
        go_ret2
        have hbd : ∀ b, b < k → rnds (nE es) k b < k := fun b hb => (rnds_snd (R := gR es) (fun e he => (HNE.out _ _).2 he) k).lt HGOOD.out HFULL.out HRL.out hb
        rw [HEE.out, HLE.out]
        refine ⟨some ⟨g, 0, none⟩, k, by simp, rowIs_rdI' hr hbd (by omega), hB.trans (hbr.mono hgs)⟩
  · have h3 : (errn N es != 0) = true := by simpa using hE
    have HL0 := Lib.hid (levG_no hE)
    obtain ⟨E, hEE⟩ : ∃ E, E = errn N es := ⟨_, rfl⟩
    have HEE := Lib.hid hEE
    rw [← hEE] at h3 ⊢
    clear hE hEE
    go_wp2
    go_ret2
    rw [HL0.out, ← HEE.out]
    exact ⟨_, _, rfl, ⟨fun k => by simp [zd], fun k => by simp [zd], by simp, fun h => by simp at h⟩, hB⟩

/-! ### heights -/
def hgtG (N : Int) (es : List (Int × Int)) : Int := if errn N es = 0 then ((hgt (lvs N.toNat es) N.toNat : Nat) : Int) else 0
theorem hgtG_ok {m : Nat} {es : List (Int × Int)} (h : errn m es = 0) : hgtG m es = ((hgt (lvs m es) m : Nat) : Int) := by unfold hgtG; rw [if_pos h, Int.toNat_natCast]
theorem hgtG_no {N : Int} {es : List (Int × Int)} (h : errn N es ≠ 0) : hgtG N es = 0 := by unfold hgtG; rw [if_neg h]

set_option maxHeartbeats 2000000 in
theorem height_any (A : Option Addr) (c m : Nat) (f : Nat → Nat) (hm : m ≤ 200) (hf : ∀ b, b < m → f b < m) (w : World) (hx : RdI w w.heap.size A ((List.range m).map fun k => ((f k : Nat) : Int))) :
    Calls Tryd.prog 67 #[.slice A m c] w fun e w' => e = .returned (.int .i64 ((hgt f m : Nat) : Int)) ∧ w = w' := by
  go_enter Tryd.func67, Tryd.ntmps67
  go_wp2_with fail
  obtain ⟨wo, rfl⟩ : ∃ wo : World, wo = w := ⟨_, rfl⟩
  go_loopw [8, 3] (fun i t wr => ∃ k : Nat, k ≤ m ∧ i = .int .i64 k ∧ t = .int .i64 (((hgt f k : Nat) : Int) - 1) ∧ wr = wo) (fun i _ _ => m - (intOf i).toNat)
  case atStart => exact ⟨0, Nat.zero_le _, rfl, rfl, rfl⟩
  case round =>
    obtain ⟨k, hk, rfl, rfl, rfl⟩ := hrel
    by_cases hlt : k < m
    · obtain ⟨b, off, rfl, hb, hc⟩ := hx.rd (by simp; omega)
      have hck := hc k (by simpa using hlt)
      dsimp only at hck
      rw [show zd ((List.range m).map fun k => ((f k : Nat) : Int)) k = ((f k : Nat) : Int) by unfold zd; simp [List.getD, hlt]] at hck
      have h1 := hf k hlt
      have h2 : hgt f k ≤ m := hgt_le f fun b hb => hf b (by omega)
      have h3 : hgt f (k + 1) = max (hgt f k) (f k + 1) := rfl
      have H3 := Lib.hid h3
      obtain ⟨p, hp⟩ : ∃ p, p = hgt f k := ⟨_, rfl⟩
      obtain ⟨q, hq⟩ : ∃ q, q = f k := ⟨_, rfl⟩
      rw [← hp] at h2 H3 ⊢
      rw [← hq] at h1 hck H3
      have hmax : ∀ (W : World) (ts : Array TypeId) (t : TypeId), (Builtin.max_ ts t #[.int .i64 ((p : Int) - 1), .int .i64 (q : Int)]).run Tryd.prog W = .ok (.int .i64 (((max p (q + 1) : Nat) : Int) - 1)) W := fun W ts t => by
        rw [Go.run_max_int2]
        congr 2
        split <;> omega
      clear hc h3 hp hq
      go_wp2_with fail
      go_roundw
      case rel => exact ⟨k + 1, by omega, by go_num, by rw [H3.out], by trivial⟩
      case measure => simp [intOf]; omega
    · obtain rfl : k = m := by omega
      have h2 : hgt f k ≤ k := hgt_le f hf
      obtain ⟨p, hp⟩ : ∃ p, p = hgt f k := ⟨_, rfl⟩
      rw [← hp] at h2 ⊢
      have HP := Lib.hid hp
      clear hp
      go_wp2_with fail
      go_ret
      refine ⟨?_, rfl⟩
      rw [← HP.out]
      simp

/-- the levels as a list that is read -/
theorem levG_hgt {m : Nat} {es : List (Int × Int)} (hE : errn m es = 0) (hin : inR m es = true) (hfull : (ordr m es).length = m) :
    levG m es = (List.range m).map (fun k => ((lvs m es k : Nat) : Int)) ∧ (∀ b, b < m → lvs m es b < m) := ⟨levG_ok hE, fun _ hb => lvs_lt hin hfull hb⟩

set_option maxHeartbeats 2000000 in
theorem heightG_any (A : Option Addr) (c : Nat) (N : Int) (es : List (Int × Int)) (w : World) (he : RdE w w.heap.size A es) (hT : Tab w) :
    Calls Tryd.prog 31 #[.agg #[.int .i64 N, .slice A es.length c]] w fun e w' => e = .returned (.tuple #[.int .i64 (hgtG N es), .int .i64 (errn N es)]) ∧ Below w.heap.size w w' := by
  go_enter Tryd.func31, Tryd.ntmps31
  go_wp2_with fail
  have hB := below_alloc w (.cells #[.int .i64 N, .slice A es.length c] 24)
  obtain ⟨w1, hw1⟩ : ∃ w1, w1 = w.alloc (.cells #[.int .i64 N, .slice A es.length c] 24) := ⟨_, rfl⟩
  rw [← hw1] at hB ⊢
  have hs := hB.size
  replace he := he.step hB
  replace hT := hT.step hB
  clear hw1
  refine (levels_any A c N es _ he hT).mono ?_
  rintro e w2 ⟨A2, c2, rfl, q2, hb⟩
  replace hB := below_step hB hs hb
  clear hb
  by_cases hE : errn N es = 0
  · obtain ⟨m, rfl, hin, hfull⟩ := errn_split hE
    have hm := okN_of hin
    obtain ⟨h1, h2⟩ := levG_hgt hE hin hfull
    have hl := levG_len hE
    have HH := Lib.hid (hgtG_ok hE)
    have HEE := Lib.hid hE
    rw [hl, hE]
    rw [h1] at q2
    obtain ⟨f, hf⟩ : ∃ f, f = lvs m es := ⟨_, rfl⟩
    rw [← hf] at q2 h2 HH
    clear hE hl h1 hf
    go_wp2_with (first | (refine (height_any A2 c2 m f (by omega) h2 _ q2).mono ?_; rintro e w3 ⟨rfl, rfl⟩) | fail)
    go_ret2
    rw [HH.out, HEE.out]
    exact ⟨rfl, hB⟩
  · have h3 : (errn N es != 0) = true := by simpa using hE
    rw [levG_no hE]
    have HH := Lib.hid (hgtG_no hE)
    obtain ⟨E, hEE⟩ : ∃ E, E = errn N es := ⟨_, rfl⟩
    have HEE := Lib.hid hEE
    rw [← hEE] at h3 ⊢
    clear hE hEE
    go_wp2
    go_ret2
    rw [HH.out, ← HEE.out]
    exact ⟨rfl, hB⟩

set_option maxHeartbeats 2000000 in
theorem cheight_any (A : Option Addr) (c : Nat) (N : Int) (es : List (Int × Int)) (w : World) (he : RdE w w.heap.size A es) :
    Calls Tryd.prog 32 #[.agg #[.int .i64 N, .slice A es.length c]] w fun e w' => e = .returned (.tuple #[.int .i64 (hgtG N es), .int .i64 (errn N es)]) ∧ Below w.heap.size w w' := by
  go_enter Tryd.func32, Tryd.ntmps32
  go_wp2_with fail
  have hB := below_alloc w (.cells #[.int .i64 N, .slice A es.length c] 24)
  obtain ⟨w1, hw1⟩ : ∃ w1, w1 = w.alloc (.cells #[.int .i64 N, .slice A es.length c] 24) := ⟨_, rfl⟩
  rw [← hw1] at hB ⊢
  have hs := hB.size
  replace he := he.step hB
  clear hw1
  refine (clevels_any A c N es _ he).mono ?_
  rintro e w2 ⟨A2, c2, rfl, q2, hb⟩
  replace hB := below_step hB hs hb
  clear hb
  by_cases hE : errn N es = 0
  · obtain ⟨m, rfl, hin, hfull⟩ := errn_split hE
    have hm := okN_of hin
    obtain ⟨h1, h2⟩ := levG_hgt hE hin hfull
    have hl := levG_len hE
    have HH := Lib.hid (hgtG_ok hE)
    have HEE := Lib.hid hE
    rw [hl, hE]
    rw [h1] at q2
    obtain ⟨f, hf⟩ : ∃ f, f = lvs m es := ⟨_, rfl⟩
    rw [← hf] at q2 h2 HH
    clear hE hl h1 hf
    go_wp2_with fail
    obtain ⟨wo, rfl⟩ : ∃ wo : World, wo = w2 := ⟨_, rfl⟩
    go_loopw [16, 6] (fun i t wr => ∃ k : Nat, k ≤ m ∧ i = .int .i64 k ∧ t = .int .i64 ((hgt f k : Nat) : Int) ∧ wr = wo) (fun i _ _ => m - (intOf i).toNat)
    case atStart => exact ⟨0, Nat.zero_le _, rfl, rfl, rfl⟩
    case round =>
      obtain ⟨k, hk, rfl, rfl, rfl⟩ := hrel
      by_cases hlt : k < m
      · obtain ⟨b, off, rfl, hb, hc⟩ := q2.rd (by simp; omega)
        have hck := hc k (by simpa using hlt)
        dsimp only at hck
        rw [show zd ((List.range m).map fun k => ((f k : Nat) : Int)) k = ((f k : Nat) : Int) by unfold zd; simp [List.getD, hlt]] at hck
        have h1 := h2 k hlt
        have h2' : hgt f k ≤ m := hgt_le f fun b hb => h2 b (by omega)
        have H3 : Hid (hgt f (k + 1) = max (hgt f k) (f k + 1)) := rfl
        obtain ⟨p, hp⟩ : ∃ p, p = hgt f k := ⟨_, rfl⟩
        obtain ⟨q, hq⟩ : ∃ q, q = f k := ⟨_, rfl⟩
        rw [← hp] at h2' H3 ⊢
        rw [← hq] at h1 hck H3
        have hmax : ∀ (W : World) (ts : Array TypeId) (t : TypeId), (Builtin.max_ ts t #[.int .i64 (p : Int), .int .i64 ((q : Int) + 1)]).run Tryd.prog W = .ok (.int .i64 ((max p (q + 1) : Nat) : Int)) W := fun W ts t => by
          rw [Go.run_max_int2]
          congr 2
          split <;> omega
        clear hc hp hq
        go_wp2_with fail
        go_roundw
        case rel => exact ⟨k + 1, by omega, by go_num, by rw [H3.out], by trivial⟩
        case measure => simp [intOf]; omega
      · obtain rfl : k = m := by omega
        go_wp2_with fail
        go_ret2
        rw [HH.out, HEE.out]
        exact ⟨rfl, hB⟩
  · rw [levG_no hE]
    have HH := Lib.hid (hgtG_no hE)
    clear hE
    go_wp2_with fail
    go_loopw [16, 6] (fun i t wr => i = .int .i64 0 ∧ t = .int .i64 0 ∧ wr = w2) (fun i _ _ => 0)
    case atStart => exact ⟨rfl, rfl, rfl⟩
    case round =>
      obtain ⟨rfl, rfl, rfl⟩ := hrel
      go_wp2_with fail
      go_ret2
      rw [HH.out]
      exact ⟨rfl, hB⟩
end Go.Proofs.YtaboafkpmgadmaaDoor

namespace Go.Proofs.YtaboafkpmgadmaaDoor
open Go.RowKit Go.Shelf Go.Lib
set_option maxRecDepth 100000

set_option maxHeartbeats 1000000 in
theorem mul64_any (x y : Nat) (hx : x < 18446744073709551616) (hy : y < 18446744073709551616) (w : World) :
    Calls Tryd.prog 122 #[.int .u64 x, .int .u64 y] w fun e w' => e = .returned (.tuple #[.int .u64 ((x * y / 18446744073709551616 : Nat) : Int), .int .u64 ((x * y % 18446744073709551616 : Nat) : Int)]) ∧ w' = w := by
  obtain ⟨bd, bt, bw, hhi⟩ := Lib.mul64_hi x y hx hy
  have ba := Lib.half_mul_le (a := x / 4294967296) (b := y / 4294967296) (by omega) (by omega)
  have bb := Lib.half_mul_le (a := x / 4294967296) (b := y % 4294967296) (by omega) (by omega)
  have bc := Lib.half_mul_le (a := x % 4294967296) (b := y / 4294967296) (by omega) (by omega)
  have ba' : x / 4294967296 * (y / 4294967296) < 18446744073709551616 := by omega
  have bb' : x / 4294967296 * (y % 4294967296) < 18446744073709551616 := by omega
  have bc' : x % 4294967296 * (y / 4294967296) < 18446744073709551616 := by omega
  have bh1 : x / 4294967296 * (y / 4294967296) + (x / 4294967296 * (y % 4294967296) + x % 4294967296 * (y % 4294967296) / 4294967296) / 4294967296 < 18446744073709551616 := by omega
  have bh : x / 4294967296 * (y / 4294967296) + (x / 4294967296 * (y % 4294967296) + x % 4294967296 * (y % 4294967296) / 4294967296) / 4294967296 + ((x / 4294967296 * (y % 4294967296) + x % 4294967296 * (y % 4294967296) / 4294967296) % 4294967296 + x % 4294967296 * (y / 4294967296)) / 4294967296 < 18446744073709551616 := by omega
  go_enter Tryd.func122, Tryd.ntmps122
  go_wp2
  simp only [Mul64.maskN x hx, Mul64.maskN y hy, Mul64.divN, Mul64.mulN, Mul64.addN, Mul64.wrapN _ bd, Mul64.wrapN _ bb', Mul64.wrapN _ bt, Mul64.maskN _ bt, Mul64.wrapN _ bc', Mul64.wrapN _ bw, Mul64.wrapN _ ba', Mul64.wrapN _ bh1, Mul64.wrapN _ bh, Mul64.wrapM (x * y)]
  rw [hhi]
  go_ret2
  exact ⟨rfl, rfl⟩

set_option maxHeartbeats 1000000 in
theorem mul_any (x y : Nat) (hx : x < 18446744073709551616) (hy : y < 18446744073709551616) (w : World) :
    Calls Tryd.prog 117 #[.int .u64 x, .int .u64 y] w fun e w' => e = .returned (.tuple #[.int .u64 ((x * y / 18446744073709551616 : Nat) : Int), .int .u64 ((x * y % 18446744073709551616 : Nat) : Int)]) ∧ w' = w := by
  have c64 := mul64_any x y hx hy w
  go_enter Tryd.func117, Tryd.ntmps117
  go_wp2_with (go_at_call 122; refine c64.mono ?_; rintro e w' ⟨rfl, hw⟩; rw [hw])
  go_ret2
  exact ⟨rfl, rfl⟩

theorem rowIs_splice {w w' : World} {g n c l : Nat} {t : TypeId} {v z : Value} {cur : List Value} (hc : w.heap[g]? = some (.cells cur.toArray t (0, 0))) (h : w.rowIs g t n (fun k => if k < c then v else z))
    (hw' : w'.heap[g]? = some (.cells (splice cur c (List.replicate l v)).toArray t (0, 0))) (hl : c + l ≤ n) : w'.rowIs g t n (fun k => if k < c + l then v else z) := by
  obtain ⟨cs, h1, h2, h3⟩ := h
  rw [hc] at h1
  injection h1 with h1
  injection h1 with h1 _ _
  subst h1
  simp at h2
  refine ⟨_, hw', by simp [length_splice, h2, hl], fun i hi => ?_⟩
  have h4 := h3 i hi
  simp only [List.getElem?_toArray] at h4 ⊢
  unfold splice
  rcases Nat.lt_or_ge i c with hic | hic
  · rw [List.getElem?_append_left (by simp; omega), List.getElem?_take_of_lt hic, h4, if_pos hic, if_pos (by omega)]
  · rw [List.getElem?_append_right (by simp; omega), List.length_take, h2, Nat.min_eq_left (by omega)]
    rcases Nat.lt_or_ge i (c + l) with hil | hil
    · rw [List.getElem?_append_left (by simp; omega), List.getElem?_replicate, if_pos (by omega), if_pos hil]
    · rw [List.getElem?_append_right (by simp; omega), List.getElem?_drop, List.length_replicate, show c + l + (i - c - l) = i by omega, h4, if_neg (by omega), if_neg (by omega)]
theorem rowIs_cur {w : World} {g n : Nat} {t : TypeId} {f : Nat → Value} (h : w.rowIs g t n f) : ∃ cur : List Value, cur.length = n ∧ w.heap[g]? = some (.cells cur.toArray t (0, 0)) := by
  obtain ⟨cs, h1, h2, _⟩ := h
  exact ⟨cs.toList, by simpa using h2, by simpa using h1⟩

set_option maxHeartbeats 4000000 in
theorem repeat_any (b off c n : Nat) (hn : n ≤ 200) (v : Int) (w : World) (hb : b < w.heap.size) (hx : w.cell? ⟨b, off, none⟩ = some (.int .i64 v)) :
    Calls Tryd.prog 103 #[.slice (some ⟨b, off, none⟩) 1 c, .int .i64 n] w fun e w' => e = .returned (.slice (some ⟨w.heap.size, 0, none⟩) n n) ∧ w'.rowIs w.heap.size 3 n (fun _ => .int .i64 v) ∧ Below w.heap.size w w' := by
  have hmk := run_make_row' (P := Tryd.prog) 25 3 (.int .i64 0) 8 Tryd.underlying25 Tryd.infoInt rfl .i64 .i64 n (by omega) (by omega)
  have hmul := mul_any 1 n (by omega) (by omega) w
  rw [Nat.one_mul, show n / 18446744073709551616 = 0 by omega, show n % 18446744073709551616 = n by omega] at hmul
  go_enter Tryd.func103, Tryd.ntmps103
  go_upto_region 7 with (go_at_call 117; refine hmul.mono ?_; rintro e w' ⟨rfl, hw⟩; rw [hw])
  have R := World.rowIs_made w (.int .i64 0) n 3
  have hBn := below_alloc w (.cells (madeCells #[.int .i64 0] n) 3)
  have hx2 := (hBn.cell (p := ⟨b, off, none⟩) hb).trans hx
  obtain ⟨w1, hw1⟩ : ∃ w1, w1 = w.alloc (.cells (madeCells #[.int .i64 0] n) 3) := ⟨_, rfl⟩
  obtain ⟨g, hg⟩ : ∃ g, g = w.heap.size := ⟨_, rfl⟩
  rw [← hw1] at R hBn hx2 ⊢
  rw [← hg] at R hBn ⊢
  have hw0 : w.heap.size ≤ g := by omega
  have hmo : Tryd.prog.follows .mixedOrders = true := by kernel_rfl
  have hinf : (Tryd.prog.info? 3).map (·.size) = some 1 := by kernel_rfl
  have R0 : w1.rowIs g 3 n (fun k => if k < 0 then .int .i64 v else .int .i64 0) := by simpa using R
  obtain ⟨cur, hcl, hcur⟩ := rowIs_cur R0
  have hBg : Below g w w1 := hBn
  have hg1 : g < w1.heap.size := R.lt
  have HG := Lib.hid hg
  have HX := Lib.hid hx2
  have HR0 := Lib.hid R0
  have HCL := Lib.hid hcl
  have hlen1 : (List.replicate (Nat.min 1 n) (Value.int .i64 v)).length = Nat.min 1 n := List.length_replicate
  have hmn : Nat.min 1 n ≤ n := Nat.min_le_right _ _
  obtain ⟨c0, hc0⟩ : ∃ c0, c0 = Nat.min 1 n := ⟨_, rfl⟩
  have hpos : n = 0 ∨ 0 < c0 := by
    rcases Nat.eq_zero_or_pos n with h | h
    · exact .inl h
    · right; rw [hc0]; exact Nat.lt_min.2 ⟨by omega, h⟩
  have HC0 := Lib.hid hc0
  have hc1 : c0 ≤ 1 := by rw [hc0]; exact Nat.min_le_left 1 n
  have HC1 := Lib.hid hc1
  rw [← hc0] at hlen1 hmn
  clear hw1 hg R R0 hx2 hx hBn hc0 hmul hcl hc1
  have HL1 := Lib.hid hlen1
  clear hlen1
  go_wp2_with (with_reducible refine wpList_copy_splice rfl _ _ 25 25 rfl 3 Tryd.underlying25 hinf (some ⟨g, 0, none⟩) (some ⟨b, off, none⟩) n n 1 c rfl rfl g 0 cur 3 hcur (List.replicate c0 (Value.int .i64 v)) (by rw [List.length_replicate]; exact HC0.out) (fun h => ⟨rfl, ⟨b, off, none⟩, rfl, ?qc1⟩) (by rw [List.length_replicate, HCL.out]; omega) ?qc2 g w hBg (Nat.le_refl _) ?_)
  case qc1 =>
    intro j u hj
    rw [List.getElem?_replicate] at hj
    split at hj
    · obtain rfl : j = 0 := by have := HC1.out; omega
      rw [← Option.some.inj hj]
      exact HX.out
    · cases hj
  case qc2 => intro u hu; rw [(List.mem_replicate.1 hu).2]; rfl
  intro w2 hg2 hB2
  try rw [HL1.out]
  have hr2 : w2.rowIs g 3 n (fun k => if k < c0 then .int .i64 v else .int .i64 0) := by
    have := rowIs_splice (c := 0) hcur HR0.out hg2.out (by omega)
    rwa [Nat.zero_add] at this
  clear hg2 hcur hBg
  obtain ⟨wo, rfl⟩ : ∃ wo : World, wo = w2 := ⟨_, rfl⟩
  go_wp2_with fail
  go_loopw [8] (fun i wr => ∃ q : Nat, q ≤ n ∧ (n = 0 ∨ 0 < q) ∧ i = .int .i64 q ∧ wr.rowIs g 3 n (fun k => if k < q then .int .i64 v else .int .i64 0) ∧ Below g w wr) (fun i _ => n - (intOf i).toNat)
  case atStart => exact ⟨c0, hmn, hpos, rfl, hr2, hB2⟩
  case round =>
    obtain ⟨q, hq, hqp, rfl, hr, hbr⟩ := hrel
    clear hr2 hB2
    by_cases hlt : q < n
    · have hq0 : 0 < q := by omega
      obtain ⟨cu, hcl2, hcu⟩ := rowIs_cur hr
      have hne : ¬ n = q := by omega
      have hcd : wr.drew.heap[g]? = some (.cells cu.toArray 3 (0, 0)) := hcu
      have hbd : Below g w wr.drew := hbr.drew
      have HS : Hid (∀ j u, (List.replicate (Nat.min q (n - q)) (Value.int .i64 v))[j]? = some u → wr.drew.cell? ((⟨g, 0, none⟩ : Addr).add j) = some u) := by
        intro j u hj
        rw [List.getElem?_replicate] at hj
        split at hj
        · rename_i hjl
          have hql : Nat.min q (n - q) ≤ q := Nat.min_le_left q (n - q)
          have hcj := hr.cell (i := j) (by omega)
          rw [if_pos (by omega)] at hcj
          rw [← Option.some.inj hj, Addr.add_lit, Nat.zero_add]
          exact hcj
        · cases hj
      have HR := Lib.hid hr
      have HCL2 := Lib.hid hcl2
      have hmin : Nat.min q (n - q) ≤ n - q := Nat.min_le_right _ _
      have hmin0 : 0 < Nat.min q (n - q) := Nat.lt_min.2 ⟨hq0, by omega⟩
      obtain ⟨d, hd⟩ : ∃ d, d = Nat.min q (n - q) := ⟨_, rfl⟩
      have HD := Lib.hid hd
      rw [← hd] at hmin hmin0 HS
      clear hcl2 hr hd
      go_wp2_with fail
      go_region_law_o (refine step_copy_splice rfl (.tmp 41) (.tmp 44) 25 25 rfl 3 Tryd.underlying25 hinf (some ⟨g, q, none⟩) (some ⟨g, 0, none⟩) (n - q) (n - q) q n (by simp [Act.eval, Act.put]) (by simp [Act.eval, Act.put]) g q cu 3 hcd (List.replicate d (Value.int .i64 v)) (by rw [List.length_replicate]; exact HD.out) (fun _ => ⟨rfl, ⟨g, 0, none⟩, rfl, HS.out⟩) (by rw [List.length_replicate, HCL2.out]; omega) (by intro u hu; rw [(List.mem_replicate.1 hu).2]; rfl) g w hbd (Nat.le_refl _) ?_; intro w4 hg4 hb4; rw [List.length_replicate])
      all_goals
        have hr4 := rowIs_splice hcu HR.out hg4.out (by omega)
        have hwr : IntKind.i64.wrap ((q : Int) + (d : Int)) = ((q + d : Nat) : Int) := by rw [IntKind.wrap_i64]; omega
        go_simp
        try simp only [hwr]
        go_wp2
        go_roundw
        case rel => exact ⟨q + d, by omega, .inr (by omega), by go_num, hr4, hb4⟩
        case measure => simp [intOf]; omega
    · obtain rfl : q = n := by omega
      go_wp2_with fail
      go_ret
      refine ⟨by rw [← HG.out]; rfl, ?_, hbr.mono hw0⟩
      rw [← HG.out]
      exact hr.congr fun k hk => by rw [if_pos hk]
end Go.Proofs.YtaboafkpmgadmaaDoor

namespace Go.Proofs.YtaboafkpmgadmaaDoor
open Go.RowKit
set_option maxRecDepth 100000

/-- one more edge -/
def sbS (f : Nat → Nat) (g : Nat → Option Nat) (e : Nat × Nat) : Nat → Option Nat := fun k => if k = e.2 ∧ f e.1 + 1 = f e.2 then some (match g e.2 with | none => e.1 | some a => min a e.1) else g k
def sbF (f : Nat → Nat) (E : List (Nat × Nat)) : Nat → Option Nat := E.foldl (sbS f) (fun _ => none)
theorem sbF_snoc (f : Nat → Nat) (E : List (Nat × Nat)) (e : Nat × Nat) : sbF f (E ++ [e]) = sbS f (sbF f E) e := by unfold sbF; rw [List.foldl_append]; rfl
theorem sbF_spec (f : Nat → Nat) (b : Nat) : ∀ (n : Nat) (E : List (Nat × Nat)), E.length = n → (sbF f E b = none → ∀ a, (a, b) ∈ E → f a + 1 ≠ f b) ∧ ∀ a, sbF f E b = some a → (a, b) ∈ E ∧ f a + 1 = f b ∧ ∀ a', (a', b) ∈ E → f a' + 1 = f b → a ≤ a' := by
  intro n
  induction n with
  | zero =>
    intro E hE
    obtain rfl := List.length_eq_zero_iff.1 hE
    exact ⟨fun _ a h => by simp at h, fun a h => by simp [sbF] at h⟩
  | succ n ih =>
    intro E hE
    obtain ⟨E', e, rfl⟩ : ∃ E' e, E = E' ++ [e] := ⟨E.dropLast, E.getLast (by intro h; subst h; simp at hE), (List.dropLast_concat_getLast _).symm⟩
    obtain ⟨h1, h2⟩ := ih E' (by simp at hE; omega)
    obtain ⟨x, y⟩ := e
    rw [sbF_snoc]
    unfold sbS
    dsimp only
    by_cases hc : b = y ∧ f x + 1 = f y
    · rw [if_pos hc]
      obtain ⟨rfl, hf⟩ := hc
      refine ⟨fun h => (by cases h), fun a ha => ?_⟩
      injection ha with ha
      cases hg : sbF f E' b with
      | none =>
        rw [hg] at ha
        dsimp only at ha
        subst ha
        refine ⟨by simp, hf, fun a' hm hf' => ?_⟩
        rcases List.mem_append.1 hm with hm | hm
        · exact absurd hf' (h1 hg a' hm)
        · simp at hm; omega
      | some a0 =>
        rw [hg] at ha
        dsimp only at ha
        obtain ⟨q1, q2, q3⟩ := h2 a0 hg
        refine ⟨?_, ?_, fun a' hm hf' => ?_⟩
        · rcases Nat.le_total a0 x with h | h
          · rw [Nat.min_eq_left h] at ha; subst ha; exact List.mem_append_left _ q1
          · rw [Nat.min_eq_right h] at ha; subst ha; simp
        · rcases Nat.le_total a0 x with h | h
          · rw [Nat.min_eq_left h] at ha; subst ha; exact q2
          · rw [Nat.min_eq_right h] at ha; subst ha; exact hf
        · rcases List.mem_append.1 hm with hm | hm
          · have := q3 a' hm hf'; omega
          · simp at hm; omega
    · rw [if_neg hc]
      refine ⟨fun h a hm hf => ?_, fun a ha => ?_⟩
      · rcases List.mem_append.1 hm with hm | hm
        · exact h1 h a hm hf
        · simp at hm
          obtain ⟨rfl, rfl⟩ := hm
          exact hc ⟨rfl, hf⟩
      · obtain ⟨q1, q2, q3⟩ := h2 a ha
        refine ⟨List.mem_append_left _ q1, q2, fun a' hm hf => ?_⟩
        rcases List.mem_append.1 hm with hm | hm
        · exact q3 a' hm hf
        · simp at hm
          obtain ⟨rfl, rfl⟩ := hm
          exact absurd ⟨rfl, hf⟩ hc
theorem sbF_prv {R : Nat → Nat → Bool} {f : Nat → Nat} {N : Nat} {E : List (Nat × Nat)} (hR : ∀ i j, R i j = true → i < N ∧ j < N) (hE : ∀ a b, R a b = true ↔ (a, b) ∈ E) : sbF f E = prv R f N := by
  funext b
  obtain ⟨h1, h2⟩ := sbF_spec f b E.length E rfl
  cases hp : prv R f N b with
  | some a =>
    obtain ⟨q1, q2, q3⟩ := find_range hp
    unfold fit at q2
    simp only [Bool.and_eq_true, decide_eq_true_eq] at q2
    cases hs : sbF f E b with
    | none => exact absurd q2.1 (h1 hs a ((hE _ _).1 q2.2))
    | some a' =>
      obtain ⟨r1, r2, r3⟩ := h2 a' hs
      have := r3 a ((hE _ _).1 q2.2) q2.1
      rcases Nat.lt_or_ge a' a with h | h
      · have := q3 a' h
        unfold fit at this
        rw [(hE _ _).2 r1] at this
        simp [r2] at this
      · rw [show a' = a by omega]
  | none =>
    have hno := find_range_none hp
    cases hs : sbF f E b with
    | none => rfl
    | some a' =>
      obtain ⟨r1, r2, r3⟩ := h2 a' hs
      have := hno a' (hR _ _ ((hE _ _).2 r1)).1
      unfold fit at this
      rw [(hE _ _).2 r1] at this
      simp [r2] at this
def oI : Option Nat → Int
  | none => -1
  | some a => (a : Int)

theorem sbS_no {f : Nat → Nat} {q : Nat → Option Nat} {x y : Nat} (h : f x + 1 ≠ f y) : sbS f q (x, y) = q := by
  funext k
  unfold sbS
  exact if_neg fun h' => h h'.2
theorem sbS_set {f : Nat → Nat} {q : Nat → Option Nat} {x y : Nat} (h : f x + 1 = f y) (hq : ∀ a, q y = some a → x < a) : (fun i => if i = y then Value.int .i64 (x : Int) else Value.int .i64 (oI (q i))) = fun i => Value.int .i64 (oI (sbS f q (x, y) i)) := by
  funext i
  unfold sbS
  dsimp only
  by_cases e : i = y
  · subst e
    rw [if_pos rfl, if_pos ⟨rfl, h⟩]
    cases hs : q i with
    | none => rfl
    | some a =>
      have := hq a hs
      show _ = Value.int .i64 ((min a x : Nat) : Int)
      rw [Nat.min_eq_right (by omega)]
  · rw [if_neg e, if_neg fun h' => e h'.1]
theorem sbS_more {f : Nat → Nat} {q : Nat → Option Nat} {x y a : Nat} (hs : q y = some a) (hx : ¬ x < a) : sbS f q (x, y) = q := by
  funext k
  unfold sbS
  dsimp only
  split
  · rename_i h
    rw [h.1, hs]
    show some (min a x) = some a
    rw [Nat.min_eq_left (by omega)]
  · rfl
theorem oI_eq {o : Option Nat} {v : Int} (h : oI o = v) : (v = -1 ∧ o = none) ∨ ∃ a : Nat, v = (a : Int) ∧ o = some a := by
  cases o with
  | none => exact .inl ⟨h.symm, rfl⟩
  | some a => exact .inr ⟨a, h.symm, rfl⟩

set_option maxHeartbeats 4000000 in
theorem smallestBefore_any (A : Option Addr) (c m : Nat) (es : List (Int × Int)) (A2 : Option Addr) (c2 : Nat) (f : Nat → Nat) (w : World) (he : RdE w w.heap.size A es) (hin : inR m es = true) (hf : ∀ b, b < m → f b < m) (hx : RdI w w.heap.size A2 ((List.range m).map fun k => ((f k : Nat) : Int))) :
    Calls Tryd.prog 68 #[.agg #[.int .i64 (m : Int), .slice A es.length c], .slice A2 m c2] w fun e w' => ∃ g, e = .returned (.slice (some ⟨g, 0, none⟩) m m) ∧ w'.rowIs g 3 m (fun b => .int .i64 (oI (prv (gR es) f m b))) ∧ w.heap.size ≤ g ∧ Below w.heap.size w w' := by
  have hm := okN_of hin
  have hroom := he.room
  have hprv := sbF_prv (f := f) (gR_lt hin) (nE_iff hin)
  go_enter Tryd.func68, Tryd.ntmps68
  go_wp2_with fail
  have g1 := GB.new w 24 m (.slice A es.length c)
  have hb0 := below_alloc w (.cells #[.int .i64 (m : Int), .slice A es.length c] 24)
  obtain ⟨w0, hw0⟩ : ∃ w0, w0 = w.alloc (.cells #[.int .i64 (m : Int), .slice A es.length c] 24) := ⟨_, rfl⟩
  have hs0 : w0.heap.size = w.heap.size + 1 := by rw [hw0]; simp
  rw [← hw0] at g1 hb0 ⊢
  rw [← hs0]
  have hb1 := below_alloc w0 (.cells #[.int .i64 (-1)] 3)
  have hlit : (w0.alloc (.cells #[.int .i64 (-1)] 3)).cell? ⟨w0.heap.size, 0, none⟩ = some (.int .i64 (-1)) := by
    have h := World.alloc_heap_new w0 (.cells #[.int .i64 (-1)] 3)
    unfold World.cell?
    dsimp only
    rw [h]
    rfl
  obtain ⟨w1, hw1⟩ : ∃ w1, w1 = w0.alloc (.cells #[.int .i64 (-1)] 3) := ⟨_, rfl⟩
  have hs1 : w0.heap.size < w1.heap.size := by rw [hw1]; simp
  rw [← hw1] at hb1 hlit ⊢
  have hB : Below w.heap.size w w1 := hb0.trans (hb1.mono (by omega))
  replace he := (he.step hb0).step hb1
  replace hx := (hx.step hb0).step hb1
  replace g1 := g1.step hb1
  clear hw0 hw1 hb0 hb1
  refine (repeat_any w0.heap.size 0 1 m (by omega) (-1) w1 hs1 hlit).mono ?_
  rintro e w2 ⟨rfl, R, hbr⟩
  have g2 := g1.step hbr
  have gl := g1.lt
  have e2 := g2.e
  obtain ⟨g, hg⟩ : ∃ g, g = w1.heap.size := ⟨_, rfl⟩
  rw [← hg] at R hbr he hx gl ⊢
  have hwg : w.heap.size ≤ g := by omega
  have HIN := Lib.hid hin
  have HP := Lib.hid hprv
  clear g1 g2 hg hs0 hs1 hlit hin hprv
  go_wp2_with fail
  go_loopw [15] (fun i wr => ∃ k : Nat, k ≤ es.length ∧ i = .int .i64 k ∧ wr.rowIs g 3 m (fun b => .int .i64 (oI (sbF f ((nE es).take k) b))) ∧ Below g w1 wr) (fun i _ => es.length - (intOf i).toNat)
  case atStart => exact ⟨0, Nat.zero_le _, rfl, R, hbr⟩
  case round =>
    obtain ⟨j, hj, rfl, hr, hbr⟩ := hrel
    clear R
    by_cases hjl : j < es.length
    · obtain ⟨b6, off6, rfl, hb6, hc6⟩ := he.rd (by omega)
      have hcx := (hbr.cell (p := ⟨b6, off6 + j * 2, none⟩) hb6).trans (hc6 j hjl).1
      have hcy := (hbr.cell (p := ⟨b6, off6 + j * 2 + 1, none⟩) hb6).trans (hc6 j hjl).2
      obtain ⟨x, y, hex, hey, hxm, hym, hex2, hey2⟩ : ∃ x y : Nat, (ed es j).1 = (x : Int) ∧ (ed es j).2 = (y : Int) ∧ x < m ∧ y < m ∧ (ed es j).1.toNat = x ∧ (ed es j).2.toNat = y := by
        have := edge_in (a := (ed es j).1) (b := (ed es j).2) HIN.out (ed_mem es j hjl)
        exact ⟨(ed es j).1.toNat, (ed es j).2.toNat, by omega, by omega, by omega, by omega, rfl, rfl⟩
      rw [hex] at hcx
      rw [hey] at hcy
      have hto := take_nE es j hjl
      rw [hex2, hey2] at hto
      have HN : Hid (sbF f ((nE es).take (j + 1)) = sbS f (sbF f ((nE es).take j)) (x, y)) := Lib.hid (by rw [hto, sbF_snoc])
      obtain ⟨q, hq⟩ : ∃ q, q = sbF f ((nE es).take j) := ⟨_, rfl⟩
      rw [← hq] at hr HN
      obtain ⟨b2, off2, rfl, hb2, hc2⟩ := hx.rd (by simp; omega)
      have l1 := hc2 x (by simpa using hxm)
      have l2 := hc2 y (by simpa using hym)
      dsimp only at l1 l2
      rw [show zd ((List.range m).map fun k => ((f k : Nat) : Int)) x = ((f x : Nat) : Int) by unfold zd; simp [List.getD, hxm]] at l1
      rw [show zd ((List.range m).map fun k => ((f k : Nat) : Int)) y = ((f y : Nat) : Int) by unfold zd; simp [List.getD, hym]] at l2
      have hfx := hf x hxm
      have hfy := hf y hym
      clear hc6 hc2 hex hey hex2 hey2 hto hq
      go_wp2_with fail
      have hX := EBox.new wr x y 38
      have hgr := hr.lt
      replace hr := hr.alloc (.cells #[.int .i64 (x : Int), .int .i64 (y : Int)] 38)
      replace hbr := hbr.alloc (by omega) (.cells #[.int .i64 (x : Int), .int .i64 (y : Int)] 38)
      obtain ⟨w5, hw5⟩ : ∃ w5, w5 = wr.alloc (.cells #[.int .i64 (x : Int), .int .i64 (y : Int)] 38) := ⟨_, rfl⟩
      rw [← hw5] at hX hr hbr ⊢
      have bx := hX.x
      have bY := hX.y
      obtain ⟨B5, hB5⟩ : ∃ B5, B5 = wr.heap.size := ⟨_, rfl⟩
      rw [← hB5] at bx bY ⊢
      replace l1 := (hbr.cell (p := ⟨b2, off2 + x, none⟩) hb2).trans l1
      replace l2 := (hbr.cell (p := ⟨b2, off2 + y, none⟩) hb2).trans l2
      have cy := hr.cell hym
      have fy := hr.frozen y
      have HSET := Lib.hid (hr.set y (.int .i64 (x : Int)))
      have HB2 := Lib.hid (hbr.setCell (p := ⟨g, y, none⟩) (Nat.le_refl _) (.int .i64 (x : Int)))
      have HR := Lib.hid hr
      have hx0 : (0 : Int) ≤ (x : Int) := Int.natCast_nonneg _
      have hy0 : (0 : Int) ≤ (y : Int) := Int.natCast_nonneg _
      obtain ⟨v, hv⟩ : ∃ v, v = oI (q y) := ⟨_, rfl⟩
      have hov := oI_eq hv.symm
      rw [← hv] at cy
      by_cases hfit : f x + 1 = f y
      · obtain ⟨fy', hfy'⟩ : ∃ fy', fy' = f y := ⟨_, rfl⟩
        obtain ⟨fx', hfx'⟩ : ∃ fx', fx' = f x := ⟨_, rfl⟩
        have hff : fx' + 1 = fy' := by rw [hfy', hfx']; exact hfit
        have HFIT := Lib.hid hfit
        rw [← hfx'] at l1 hfx
        rw [← hfy'] at l2 hfy
        have b1 : ((fx' : Int) == (fy' : Int) - 1) = true := by simp; omega
        have HFF := Lib.hid hff
        clear hfit hfy' hfx' hr hX hw5 hgr hB5 hcx hcy hv hff
        rcases hov with ⟨rfl, ho⟩ | ⟨a, rfl, ho⟩
        · have HO := Lib.hid ho
          clear ho
          go_quiet (fail)
          go_wp2
          go_roundw
          case rel =>
            refine ⟨j + 1, by omega, by go_num, ?_, (below_drewN hbr _).setCell (p := ⟨g, y, none⟩) (Nat.le_refl _) _⟩
            rw [HN.out, ← sbS_set HFIT.out (fun a ha => by rw [HO.out] at ha; cases ha)]
            exact HSET.out
          case measure => simp [intOf]; omega
        · have HO := Lib.hid ho
          have b2 : ((a : Int) == -1) = false := beq_eq_false_iff_ne.2 (by omega)
          clear ho
          by_cases hxa : x < a
          · have b3 : decide ((x : Int) < (a : Int)) = true := by simp; omega
            go_quiet (fail)
            go_wp2
            go_roundw
            case rel =>
              refine ⟨j + 1, by omega, by go_num, ?_, (below_drewN hbr _).setCell (p := ⟨g, y, none⟩) (Nat.le_refl _) _⟩
              rw [HN.out, ← sbS_set HFIT.out (fun a' ha => by rw [HO.out] at ha; injection ha with ha; omega)]
              exact HSET.out
            case measure => simp [intOf]; omega
          · have b3 : decide ((x : Int) < (a : Int)) = false := by simp; omega
            go_quiet (fail)
            go_wp2
            go_roundw
            case rel =>
              refine ⟨j + 1, by omega, by go_num, ?_, below_drewN hbr _⟩
              rw [HN.out, sbS_more HO.out hxa]
              exact HR.out
            case measure => simp [intOf]; omega
      · obtain ⟨fy', hfy'⟩ : ∃ fy', fy' = f y := ⟨_, rfl⟩
        obtain ⟨fx', hfx'⟩ : ∃ fx', fx' = f x := ⟨_, rfl⟩
        have b1 : ((fx' : Int) == (fy' : Int) - 1) = false := by simp; omega
        have HFIT := Lib.hid hfit
        rw [← hfx'] at l1 hfx
        rw [← hfy'] at l2 hfy
        clear hfit hfy' hfx' hr hX hw5 hgr hB5 hcx hcy hv hov
        go_quiet (fail)
        go_wp2
        go_roundw
        case rel =>
          refine ⟨j + 1, by omega, by go_num, ?_, below_drewN hbr _⟩
          rw [HN.out, sbS_no HFIT.out]
          exact HR.out
        case measure => simp [intOf]; omega
    · obtain rfl : j = es.length := by omega
      rw [List.take_of_length_le (by rw [nE_len]; omega), HP.out] at hr
      go_wp2_with fail
      go_ret
      exact ⟨g, rfl, hr, hwg, hB.trans (hbr.mono hwg)⟩
end Go.Proofs.YtaboafkpmgadmaaDoor

namespace Go.Proofs.YtaboafkpmgadmaaDoor
open Go.RowKit
set_option maxRecDepth 100000

/-- the three rows' blocks are left aside -/
def NB (gb gh gt b : Nat) : Prop := b ≠ gb ∧ b ≠ gh ∧ b ≠ gt
structure Env (w : World) (es : List (Int × Int)) (m B1 B3 B4 gb gh gt base : Nat) (A1 : Option Addr) (c1 : Nat) : Prop where
  f : w.cell? ⟨B1, 0, none⟩ = some (.slice A1 m c1)
  s0 : w.cell? ⟨B3, 0, none⟩ = some (.slice (some ⟨gb, 0, none⟩) m m)
  s1 : w.cell? ⟨B3, 1, none⟩ = some (.slice (some ⟨gh, 0, none⟩) m m)
  s2 : w.cell? ⟨B3, 2, none⟩ = some (.slice (some ⟨gt, 0, none⟩) m m)
  v : w.cell? ⟨B4, 0, none⟩ = some (.func (.func 109) #[] #[.pointer (some ⟨B1, 0, none⟩), .pointer (some ⟨B3, 0, none⟩), .pointer (some ⟨B4, 0, none⟩)])
  u : RdUU w base A1 (behs m es)
  t : Tab w
  l1 : NB gb gh gt B1
  l3 : NB gb gh gt B3
  l4 : NB gb gh gt B4
  lb : base ≤ gb ∧ base ≤ gh ∧ base ≤ gt
  ls : base ≤ w.heap.size
  lt : 0 < base
  ne : gb ≠ gh ∧ gb ≠ gt ∧ gh ≠ gt
theorem Env.keeps {w w' : World} {es : List (Int × Int)} {m B1 B3 B4 gb gh gt base : Nat} {A1 : Option Addr} {c1 : Nat} (h : Env w es m B1 B3 B4 gb gh gt base A1 c1) (hk : Keeps (NB gb gh gt) w w') : Env w' es m B1 B3 B4 gb gh gt base A1 c1 := by
  have hB : Below base w w' := hk.below h.ls fun k hk => by have := h.lb; exact ⟨by omega, by omega, by omega⟩
  have hc : ∀ b o v, NB gb gh gt b → w.cell? ⟨b, o, none⟩ = some v → w'.cell? ⟨b, o, none⟩ = some v := fun b o v hn hc => (World.cell?_of_block (a := ⟨b, o, none⟩) (hk.block b (World.block_lt_of_cell? _ _ hc) hn)).trans hc
  exact ⟨hc _ _ _ h.l1 h.f, hc _ _ _ h.l3 h.s0, hc _ _ _ h.l3 h.s1, hc _ _ _ h.l3 h.s2, hc _ _ _ h.l4 h.v,
    h.u.below hB, h.t.below h.lt hB, h.l1, h.l3, h.l4, h.lb, Nat.le_trans h.ls hB.size, h.lt, h.ne⟩
/-- the three rows -/
structure Rows3 (w : World) (m gb gh gt : Nat) (B H : Nat → Option Nat) (T : Nat → Bool) : Prop where
  b : w.rowIs gb 3 m (fun k => .int .i64 (oI (B k)))
  h : w.rowIs gh 3 m (fun k => .int .i64 (oI (H k)))
  t : w.rowIs gt 4 m (fun k => .bool (T k))
theorem Rows3.step {w w' : World} {m gb gh gt : Nat} {B H : Nat → Option Nat} {T : Nat → Bool} (h : Rows3 w m gb gh gt B H T) (hb : Below w.heap.size w w') : Rows3 w' m gb gh gt B H T := ⟨rowIs_step h.b hb, rowIs_step h.h hb, rowIs_step h.t hb⟩
theorem Rows3.drew {w : World} {m gb gh gt : Nat} {B H : Nat → Option Nat} {T : Nat → Bool} (h : Rows3 w m gb gh gt B H T) : Rows3 w.drew m gb gh gt B H T := ⟨h.b, h.h, h.t⟩
theorem rowIs_other {w : World} {g t m : Nat} {f : Nat → Value} (h : w.rowIs g t m f) {p : Addr} (hne : g ≠ p.block) (v : Value) : (w.setCell p v).rowIs g t m f := h.of_block (Below.heap_setCell w p v g hne)
theorem oI_set (B : Nat → Option Nat) (x n : Nat) : (fun i => if i = x then Value.int .i64 (n : Int) else Value.int .i64 (oI (B i))) = fun i => Value.int .i64 (oI (setO B x n i)) := by
  funext i
  unfold setO
  split <;> rfl
theorem b_set (T : Nat → Bool) (x : Nat) : (fun i => if i = x then Value.bool true else Value.bool (T i)) = fun i => Value.bool (setT T x i) := by
  funext i
  unfold setT
  split <;> rfl
theorem Rows3.try_ {w : World} {m gb gh gt x : Nat} {B H : Nat → Option Nat} {T : Nat → Bool} (h : Rows3 w m gb gh gt B H T) (ne : gb ≠ gh ∧ gb ≠ gt ∧ gh ≠ gt) : Rows3 (w.setCell ⟨gt, x, none⟩ (.bool true)) m gb gh gt B H (setT T x) := by
  refine ⟨rowIs_other h.b ne.2.1 _, rowIs_other h.h ne.2.2 _, ?_⟩
  have := h.t.set x (.bool true)
  rwa [b_set] at this
theorem Rows3.join {w : World} {m gb gh gt x n : Nat} {B H : Nat → Option Nat} {T : Nat → Bool} (h : Rows3 w m gb gh gt B H T) (ne : gb ≠ gh ∧ gb ≠ gt ∧ gh ≠ gt) : Rows3 ((w.setCell ⟨gh, n, none⟩ (.int .i64 (x : Int))).setCell ⟨gb, x, none⟩ (.int .i64 (n : Int))) m gb gh gt (setO B x n) (setO H n x) T := by
  refine ⟨?_, ?_, rowIs_other (rowIs_other h.t (fun e => ne.2.2 e.symm) _) (fun e => ne.2.1 e.symm) _⟩
  · have := (rowIs_other (p := ⟨gh, n, none⟩) h.b ne.1 (.int .i64 (x : Int))).set x (.int .i64 (n : Int))
    rwa [oI_set] at this
  · have := h.h.set n (.int .i64 (x : Int))
    rw [oI_set] at this
    exact rowIs_other this (fun e => ne.1 e.symm) _
theorem Rows3.join' {w : World} {m gb gh gt x n : Nat} {B H : Nat → Option Nat} {T : Nat → Bool} (h : Rows3 w m gb gh gt B H T) (ne : gb ≠ gh ∧ gb ≠ gt ∧ gh ≠ gt) : Rows3 ((w.setCell ⟨gb, x, none⟩ (.int .i64 (n : Int))).setCell ⟨gh, n, none⟩ (.int .i64 (x : Int))) m gb gh gt (setO B x n) (setO H n x) T := by
  refine ⟨?_, ?_, rowIs_other (rowIs_other h.t (fun e => ne.2.1 e.symm) _) (fun e => ne.2.2 e.symm) _⟩
  · have := h.b.set x (.int .i64 (n : Int))
    rw [oI_set] at this
    exact rowIs_other this ne.1 _
  · have := (rowIs_other (p := ⟨gb, x, none⟩) h.h (fun e => ne.1 e.symm) (.int .i64 (n : Int))).set n (.int .i64 (x : Int))
    rwa [oI_set] at this

/-- what the search reads around its call of itself -/
abbrev HeldY (B3 B4 gb x : Nat) (sl fv u : Value) (w' : World) : Prop := w'.cell? ⟨B3, 0, none⟩ = some sl ∧ w'.cell? ⟨B4, 0, none⟩ = some fv ∧ w'.cell? ⟨gb, x, none⟩ = some u
theorem HeldY.drew {W : World} {B3 B4 gb x : Nat} {sl fv u : Value} (h : HeldY B3 B4 gb x sl fv u W) : HeldY B3 B4 gb x sl fv u W.drew := h

theorem list_new (A : Option Addr) (c : Nat) (xs : List Nat) (w : World) (hx : RdU w w.heap.size A xs) (hroom : xs.length ≤ 1048576) (hT : Tab w) :
    Calls Tryd.prog 27 #[.slice A xs.length c] w fun e w' => ∃ A1 c1, e = .returned (.slice A1 (alist xs (64 * xs.length)).length c1) ∧ RdI w' w'.heap.size A1 (alist xs (64 * xs.length)) ∧ (0 < (alist xs (64 * xs.length)).length → ∃ g, A1 = some ⟨g, 0, none⟩ ∧ w.heap.size ≤ g) ∧ Below w.heap.size w w' :=
  (callsIn_wide.1 (list_in 3 (Nat.le_refl _) A c xs w hx hroom hT)).mono fun e w' ⟨v, he, hown, hb⟩ => by
    have hl := alist_le xs (64 * xs.length)
    obtain ⟨A1, c1, rfl, hr⟩ := own_rdI hown (fun k => by have := alist_zd xs (64 * xs.length) k; omega) (fun k => by have := alist_zd xs (64 * xs.length) k; omega) (by omega)
    exact ⟨A1, c1, he, hr, fun h0 => by
      obtain ⟨g, cap, hv, hg, _⟩ := own_shape hown h0
      injection hv with hA
      exact ⟨g, hA, hg⟩, hb⟩

set_option maxHeartbeats 8000000 in
theorem extend_any (es : List (Int × Int)) (m : Nat) (_hm : m ≤ 200) (hin : inR m es = true) (f : Nat → Nat → Bool) (hf : f = fw (gR es) m) (B1 B3 B4 gb gh gt base : Nat) (A1 : Option Addr) (c1 : Nat) :
    ∀ s, ∀ (B H : Nat → Option Nat) (T : Nat → Bool) (n : Nat), untr m T ≤ s → Mt f m B H → n < m → (∀ k, H n = some k → T k = true) → ∀ w : World, Env w es m B1 B3 B4 gb gh gt base A1 c1 → Rows3 w m gb gh gt B H T →
    Calls Tryd.prog 109 #[.int .i64 (n : Int), .pointer (some ⟨B1, 0, none⟩), .pointer (some ⟨B3, 0, none⟩), .pointer (some ⟨B4, 0, none⟩)] w fun e w' => ∃ (r : Bool) (B' H' : Nat → Option Nat) (T' : Nat → Bool), e = .returned (.bool r) ∧ Rows3 w' m gb gh gt B' H' T' ∧ Keeps (NB gb gh gt) w w' ∧ (∀ k, T k = true → T' k = true) ∧
      ((r = true ∧ Suc f m B H T n B' H') ∨ (r = false ∧ B' = B ∧ H' = H ∧ Fal f B T n T')) := by
  intro s
  induction s using Nat.strongRecOn with
  | ind s ih =>
    intro B H T n hun hM hn hP w hE hR
    go_enter Tryd.func109, Tryd.ntmps109
    obtain ⟨b5, off5, A5, c5, rfl, hb5, hc5, hs5⟩ := hE.u.at_ (k := n) (by rw [behs_len]; exact hn)
    rw [st_behs _ hn] at hc5 hs5
    have hbl := beh_len m es n
    have hLf : ∀ k : Nat, f n k = true ↔ ((k : Nat) : Int) ∈ alist (beh m es n) (64 * (beh m es n).length) := fun k => by
      rw [mem_alist, hf]
      constructor
      · intro hk
        have hb : bitB (beh m es n) k = true := by rw [beh_bit hin]; exact hk
        exact ⟨k, bit_in' _ _ hb, hb, rfl⟩
      · rintro ⟨q, _, hq, hqk⟩
        obtain rfl : k = q := by omega
        rw [beh_bit hin] at hq
        exact hq
    obtain ⟨xs, hxs⟩ : ∃ xs, xs = beh m es n := ⟨_, rfl⟩
    rw [← hxs] at hc5 hs5 hbl hLf
    have ef := hE.f
    have n0 : (0 : Int) ≤ (n : Int) := Int.natCast_nonneg _
    have n1 : (n : Int) < (m : Int) := by omega
    have hlist := list_new A5 c5 xs w (hs5.more hE.ls) (by omega) hE.t
    obtain ⟨L, hL⟩ : ∃ L, L = alist xs (64 * xs.length) := ⟨_, rfl⟩
    have hLn : ∀ z, z ∈ L → ∃ k : Nat, z = (k : Int) := fun z hz => by
      rw [hL, mem_alist] at hz
      obtain ⟨k, _, _, e⟩ := hz
      exact ⟨k, e⟩
    have HLN := Lib.hid hLn
    rw [← hL] at hlist hLf
    have hLl : L.length ≤ 65536 := by
      have := alist_le xs (64 * xs.length)
      rw [← hL] at this
      omega
    have HLF := Lib.hid hLf
    have HLIST := Lib.hid hlist
    clear hlist hLf hL hLn hxs hs5 hbl
    go_wp2_with (first | (go_at_call 27; refine HLIST.out.mono ?_; rintro e w1 ⟨A9, c9, rfl, r9, hnew, hb1⟩) | fail)
    have hgl := hR.b.lt
    have hhl := hR.h.lt
    have htl := hR.t.lt
    have HNEW := Lib.hid hnew
    have hk1 : Keeps (NB gb gh gt) w w1 := Keeps.of_below hb1 fun k hk _ => hk
    have hE1 := hE.keeps hk1
    have hR1 := hR.step hb1
    have HM := Lib.hid hM
    have HP := Lib.hid hP
    have hne := hE.ne
    have HNE := Lib.hid hne
    have hne1 := hne.1
    have hne2 := hne.2.1
    have hne3 := hne.2.2
    have d1 : ¬ B3 = gh := hE1.l3.2.1
    have d2 : ¬ B3 = gb := hE1.l3.1
    have d3 : ¬ gb = gh := hne1
    have d4 : ¬ gh = gb := fun e => hne1 e.symm
    clear hM hP ef hc5 hE hR hb1 hne hnew
    go_loopw [14] (fun i wr => ∃ j : Nat, j ≤ L.length ∧ i = .int .i64 j ∧ ∃ Tc : Nat → Bool, Rows3 wr m gb gh gt B H Tc ∧ Par B f T L j Tc ∧ Keeps (NB gb gh gt) w1 wr) (fun i _ => L.length - (intOf i).toNat)
    case atStart => exact ⟨0, Nat.zero_le _, rfl, T, hR1, Par.start L, Keeps.refl _ _⟩
    case round =>
      obtain ⟨j, hj, rfl, Tc, hR, hPar, hkp⟩ := hrel
      clear hR1
      have hE := hE1.keeps hkp
      by_cases hjl : j < L.length
      · obtain ⟨b9, off9, rfl, hb9, hc9⟩ := r9.rd (by omega)
        have hcz := hc9 j hjl
        dsimp only at hcz
        have hzm : zd L j ∈ L := zd_mem' L j hjl
        obtain ⟨x, hx, hfx, hxm⟩ : ∃ x : Nat, zd L j = (x : Int) ∧ f n x = true ∧ x < m := by
          obtain ⟨x, hx⟩ : ∃ x : Nat, zd L j = (x : Int) := HLN.out _ hzm
          rw [hx] at hzm
          have h1 := (HLF.out x).2 hzm
          refine ⟨x, hx, h1, ?_⟩
          rw [hf] at h1
          exact (fw_lt hin h1).2
        have hb9n : b9 ≠ gb ∧ b9 ≠ gh ∧ b9 ≠ gt := by
          obtain ⟨g9, hg9, hg9l⟩ := HNEW.out (by omega)
          injection hg9 with hg9
          injection hg9 with hg9 _
          omega
        rw [hx] at hcz
        have hcx := (World.cell?_of_block (a := ⟨b9, off9 + j, none⟩) (hkp.block b9 hb9 hb9n)).trans hcz
        have HX := Lib.hid hx
        have x0 : (0 : Int) ≤ (x : Int) := Int.natCast_nonneg _
        have x1 : (x : Int) < (m : Int) := by omega
        have e0 := hE.s0
        have e1 := hE.s1
        have e2 := hE.s2
        have ev := hE.v
        have ct := hR.t.cell hxm
        have ft := hR.t.frozen x
        clear hc9 hcz hx hzm
        cases htx : Tc x with
        | true =>
          rw [htx] at ct
          have HS := Lib.hid (hPar.skip HX.out htx)
          clear htx e0 e1 ev
          go_wp2_with fail
          go_roundw
          case rel => exact ⟨j + 1, by omega, by go_num, Tc, hR, HS.out, hkp⟩
          case measure => simp [intOf]; omega
        | false =>
          rw [htx] at ct
          have hTx : T x = false := by
            rw [← Bool.not_eq_true]
            intro h1
            rw [hPar.up x h1] at htx
            cases htx
          have hut := untr_set hxm htx
          have hup0 := untr_up (m := m) hPar.up
          have hR2 := hR.try_ (x := x) HNE.out
          have hks : Keeps (NB gb gh gt) wr (wr.setCell ⟨gt, x, none⟩ (.bool true)) := (Keeps.refl _ wr).setCell (fun _ h => h.2.2 rfl) _
          have hkp2 := hkp.trans hks
          have hE2 := hE.keeps hks
          obtain ⟨w2, hw2⟩ : ∃ w2, w2 = wr.setCell ⟨gt, x, none⟩ (.bool true) := ⟨_, rfl⟩
          have bh := hR2.b.cell hxm
          go_upto_region 6 with fail
          rw [← hw2] at hR2 hks hkp2 hE2 bh ⊢
          have k0 := hE2.s0
          have k1 := hE2.s1
          have kv := hE2.v
          have HPU := Lib.hid hPar
          clear hw2 e0 e1 e2 ev ct ft hR hE hkp hks hPar
          try dsimp only at bh
          cases hBx : B x with
          | none =>
            rw [hBx] at bh
            have hbh : w2.cell? ⟨gb, x, none⟩ = some (.int .i64 (-1)) := bh
            have SUC := Lib.hid (Suc.direct HM.out hn hxm hfx hTx hBx HP.out)
            have ch := hR2.h.cell hn
            have fh := hR2.h.frozen n
            have fb := hR2.b.frozen x
            obtain ⟨vh, hvh⟩ : ∃ vh, vh = oI (H n) := ⟨_, rfl⟩
            try dsimp only at ch
            rw [← hvh] at ch
            have RJ := Lib.hid (hR2.join (x := x) (n := n) HNE.out)
            have RK := Lib.hid (hR2.join' (x := x) (n := n) HNE.out)
            have KJ := Lib.hid (((hk1.trans hkp2).setCell (q := ⟨gh, n, none⟩) (fun _ h => h.2.1 rfl) (.int .i64 (x : Int))).setCell (q := ⟨gb, x, none⟩) (fun _ h => h.1 rfl) (.int .i64 (n : Int)))
            have KK := Lib.hid (((hk1.trans hkp2).setCell (q := ⟨gb, x, none⟩) (fun _ h => h.1 rfl) (.int .i64 (n : Int))).setCell (q := ⟨gh, n, none⟩) (fun _ h => h.2.1 rfl) (.int .i64 (x : Int)))
            clear hBx bh hvh hR2 hE2 hkp2 kv htx
            go_quiet (fail)
            go_upto_region 7 with fail
            go_region
            all_goals
              go_wp2
              go_ret
              first
                | exact ⟨true, _, _, setT Tc x, rfl, ⟨RJ.out.b, RJ.out.h, RJ.out.t⟩, ⟨KJ.out.os, KJ.out.tape, KJ.out.output, KJ.out.size, KJ.out.block⟩, fun k hk => setT_up (HPU.out.up k hk), .inl ⟨rfl, SUC.out⟩⟩
                | exact ⟨true, _, _, setT Tc x, rfl, ⟨RK.out.b, RK.out.h, RK.out.t⟩, ⟨KK.out.os, KK.out.tape, KK.out.output, KK.out.size, KK.out.block⟩, fun k hk => setT_up (HPU.out.up k hk), .inl ⟨rfl, SUC.out⟩⟩
          | some a0 =>
            rw [hBx] at bh
            have hbh : w2.cell? ⟨gb, x, none⟩ = some (.int .i64 (a0 : Int)) := bh
            obtain ⟨ha0, _, _, hHa⟩ := HM.out.b x a0 hBx
            have hq0 : ((a0 : Int) == -1) = false := beq_eq_false_iff_ne.2 (by omega)
            have hs1 : untr m (setT Tc x) < s := by omega
            have hIH := ih _ hs1 B H (setT Tc x) a0 (Nat.le_refl _) HM.out ha0 (fun k hk => by rw [hHa] at hk; injection hk with hk; rw [← hk]; exact setT_same _ _)
            have HC : Hid (∀ W : World, Env W es m B1 B3 B4 gb gh gt base (some ⟨b5, off5, none⟩) c1 → Rows3 W m gb gh gt B H (setT Tc x) →
                Calls Tryd.prog 109 #[.int .i64 (a0 : Int), .pointer (some ⟨B1, 0, none⟩), .pointer (some ⟨B3, 0, none⟩), .pointer (some ⟨B4, 0, none⟩)] W fun e w' => ∃ (r : Bool) (B' H' : Nat → Option Nat) (T' : Nat → Bool), e = .returned (.bool r) ∧ Rows3 w' m gb gh gt B' H' T' ∧ Keeps (NB gb gh gt) W w' ∧ (∀ k, setT Tc x k = true → T' k = true) ∧
                  ((r = true ∧ Suc f m B H (setT Tc x) a0 B' H') ∨ (r = false ∧ B' = B ∧ H' = H ∧ Fal f B (setT Tc x) a0 T')) ∧
                  HeldY B3 B4 gb x (.slice (some ⟨gb, 0, none⟩) m m) (.func (.func 109) #[] #[.pointer (some ⟨B1, 0, none⟩), .pointer (some ⟨B3, 0, none⟩), .pointer (some ⟨B4, 0, none⟩)]) (.int .i64 (a0 : Int)) w') := fun W h1 h2 => by
              refine (hIH W h1 h2).mono ?_
              rintro e w' ⟨r, B', H', T', rfl, h3, h4, h5, h6⟩
              have h7 := h1.keeps h4
              refine ⟨r, B', H', T', rfl, h3, h4, h5, h6, h7.s0, h7.v, ?_⟩
              have h8 := h3.b.cell hxm
              try dsimp only at h8
              have h9 : B' x = some a0 := by
                rcases h6 with ⟨_, h6⟩ | ⟨_, h6, _⟩
                · exact h6.old x hHa
                · rw [h6]; exact hBx
              rw [h9] at h8
              exact h8
            have HBX := Lib.hid hBx
            have hE2d : Env w2.drew es m B1 B3 B4 gb gh gt base (some ⟨b5, off5, none⟩) c1 := hE2.keeps ((Keeps.refl _ w2).drew)
            have hR2d := hR2.drew
            clear bh hBx ih hIH hHa hE2 hR2 k1
            go_region_held3 (HeldY B3 B4 gb x (.slice (some ⟨gb, 0, none⟩) m m) (.func (.func 109) #[] #[.pointer (some ⟨B1, 0, none⟩), .pointer (some ⟨B3, 0, none⟩), .pointer (some ⟨B4, 0, none⟩)]) (.int .i64 (a0 : Int)))
              (first
                | (go_split_ands; refine ⟨?_, ?_, ?_⟩ <;> assumption)
                | (go_split_ands; exact HeldY.drew ⟨‹_›, ‹_›, ‹_›⟩))
              (first
                | (go_at_call 109; refine (HC.out _ (by assumption) (by assumption)).mono ?_; rintro e w6 ⟨r, Bq, Hq, Tq, rfl, hRq, hkq, hupq, hcase, hq6⟩))
            all_goals
              have hE6 := hE2d.keeps hkq
              have k0' := hE6.s0
              have k1' := hE6.s1
              cases r with
              | true =>
                have hi : Suc f m B H (setT Tc x) a0 Bq Hq := by
                  rcases hcase with ⟨_, h⟩ | ⟨h, _⟩
                  · exact h
                  · cases h
                have SUC := Lib.hid (Suc.deep HM.out hn hxm hfx hTx (fun k hk => setT_up (HPU.out.up k hk)) (setT_same _ _) HBX.out HP.out hi)
                have hbh6 := hRq.b.cell hxm
                have ch := hRq.h.cell hn
                have fh := hRq.h.frozen n
                have fb := hRq.b.frozen x
                try dsimp only at hbh6 ch
                obtain ⟨vh, hvh⟩ : ∃ vh, vh = oI (Hq n) := ⟨_, rfl⟩
                obtain ⟨vb, hvb⟩ : ∃ vb, vb = oI (Bq x) := ⟨_, rfl⟩
                rw [← hvh] at ch
                rw [← hvb] at hbh6
                have RJ := Lib.hid (hRq.join (x := x) (n := n) HNE.out)
                have RK := Lib.hid (hRq.join' (x := x) (n := n) HNE.out)
                have KJ := Lib.hid ((((hk1.trans hkp2).drew.trans hkq).setCell (q := ⟨gh, n, none⟩) (fun _ h => h.2.1 rfl) (.int .i64 (x : Int))).setCell (q := ⟨gb, x, none⟩) (fun _ h => h.1 rfl) (.int .i64 (n : Int)))
                have KK := Lib.hid ((((hk1.trans hkp2).drew.trans hkq).setCell (q := ⟨gb, x, none⟩) (fun _ h => h.1 rfl) (.int .i64 (n : Int))).setCell (q := ⟨gh, n, none⟩) (fun _ h => h.2.1 rfl) (.int .i64 (x : Int)))
                have HUP := Lib.hid hupq
                clear hvh hvb hRq hE6 hE2d hR2d hkp2 hkq hupq hcase hi hq6 kv k0
                go_upto_region 7 with fail
                go_region
                all_goals
                  go_wp2
                  go_ret
                  first
                    | exact ⟨true, _, _, Tq, rfl, ⟨RJ.out.b, RJ.out.h, RJ.out.t⟩, ⟨KJ.out.os, KJ.out.tape, KJ.out.output, KJ.out.size, KJ.out.block⟩, fun k hk => HUP.out k (setT_up (HPU.out.up k hk)), .inl ⟨rfl, SUC.out⟩⟩
                    | exact ⟨true, _, _, Tq, rfl, ⟨RK.out.b, RK.out.h, RK.out.t⟩, ⟨KK.out.os, KK.out.tape, KK.out.output, KK.out.size, KK.out.block⟩, fun k hk => HUP.out k (setT_up (HPU.out.up k hk)), .inl ⟨rfl, SUC.out⟩⟩
              | false =>
                have hi : Bq = B ∧ Hq = H ∧ Fal f B (setT Tc x) a0 Tq := by
                  rcases hcase with ⟨h, _⟩ | ⟨_, h⟩
                  · cases h
                  · exact h
                obtain ⟨rfl, rfl, hfa⟩ := hi
                have HS := Lib.hid (HPU.out.fail HX.out HBX.out hfa)
                have KP := Lib.hid ((hkp2.drew).trans hkq)
                clear hE6 hE2d hR2d hkp2 hkq hupq hcase hq6 kv k0 k0' k1' hfa
                go_wp2_with fail
                go_roundw
                case rel => exact ⟨j + 1, by omega, by go_num, Tq, hRq, HS.out, KP.out⟩
                case measure => simp [intOf]; omega
      · obtain rfl : j = L.length := by omega
        have HD := Lib.hid (hPar.done (n := n) fun k hk => (HLF.out k).1 hk)
        go_wp2_with fail
        go_ret
        exact ⟨false, B, H, Tc, rfl, hR, hk1.trans hkp, hPar.up, .inr ⟨rfl, rfl, rfl, HD.out⟩⟩
end Go.Proofs.YtaboafkpmgadmaaDoor
