/-
  Contract of alive6: the schedule's example.
  Contract of order.edgeEnds.
  Contract of order.Levels.
  Contracts of the reference's CLevels, of height, CHeight and Height.
  GreedyBrent: Brent and Graham.
-/
import Derived.Test.YtipihchlhkjdjaaDoorPk13
import Derived.Test.YtipihchlhkjdjaaDoorPk15
import Derived.Test.YtipihchlhkjdjaaDoorPk10
import Derived.Deep.RegionHeld3
import Derived.Deep.RegionLaw
import Derived.Deep.AppendLies
import Derived.Deep.DrawnRows
import Derived.Test.YtipihchlhkjdjaaDoorPk14
import Derived.Test.YtipihchlhkjdjaaDoorPk00
import Derived.Laws.Small
namespace Go.Proofs.YtipihchlhkjdjaaDoor
open Go.RowKit
set_option maxRecDepth 100000

theorem al6_E : rndE 4 [(2, 0)] 2 = 0 := by decide +kernel
theorem al6_L : rndL 4 [(2, 0)] 2 = [[1, 2], [0, 3]] := by decide +kernel
theorem rd_two (w : World) (x y : Int) (hx : -9223372036854775808 ≤ x) (hx' : x ≤ 9223372036854775807) (hy : -9223372036854775808 ≤ y) (hy' : y ≤ 9223372036854775807) : RdI (w.alloc (.cells #[.int .i64 x, .int .i64 y] 3)) (w.alloc (.cells #[.int .i64 x, .int .i64 y] 3)).heap.size (some ⟨w.heap.size, 0, none⟩) [x, y] := by
  refine ⟨fun k => ?_, fun k => ?_, by simp, fun _ => ⟨_, _, rfl, by simp, fun k hk => ?_⟩⟩
  · match k with
    | 0 => exact hx
    | 1 => exact hy
    | k + 2 => simp [zd]
  · match k with
    | 0 => exact hx'
    | 1 => exact hy'
    | k + 2 => simp [zd]
  · have h2 := World.alloc_heap_new w (.cells #[.int .i64 x, .int .i64 y] 3)
    match k, hk with
    | 0, _ => unfold World.cell?; dsimp only; rw [h2]; rfl
    | 1, _ => unfold World.cell?; dsimp only; rw [h2]; rfl

set_option maxHeartbeats 2000000 in
theorem alive6_any (w : World) (hT : Tab w) : Calls Tryd.prog 12 #[] w fun e w' => e = .returned (.bool true) ∧ Below w.heap.size w w' := by
  have hB := below_alloc w (.cells #[.int .i64 2, .int .i64 0] 36)
  have hE : RdE (w.alloc (.cells #[.int .i64 2, .int .i64 0] 36)) (w.alloc (.cells #[.int .i64 2, .int .i64 0] 36)).heap.size (some ⟨w.heap.size, 0, none⟩) [(2, 0)] := by
    refine ⟨fun k => ?_, fun k => ?_, fun k => ?_, fun k => ?_, by simp, fun _ => ⟨_, _, rfl, by simp, fun k hk => ?_⟩⟩
    · match k with
      | 0 => simp [ed]
      | k + 1 => simp [ed]
    · match k with
      | 0 => simp [ed]
      | k + 1 => simp [ed]
    · match k with
      | 0 => simp [ed]
      | k + 1 => simp [ed]
    · match k with
      | 0 => simp [ed]
      | k + 1 => simp [ed]
    · have h2 := World.alloc_heap_new w (.cells #[.int .i64 2, .int .i64 0] 36)
      match k, hk with
      | 0, _ => constructor <;> (unfold World.cell?; dsimp only; rw [h2]; rfl)
  have hC : Calls Tryd.prog 9 #[.agg #[.int .i64 4, .slice (some ⟨w.heap.size, 0, none⟩) 1 1], .int .i64 2] (w.alloc (.cells #[.int .i64 2, .int .i64 0] 36)) fun e w' => ∃ A1 c1, e = .returned (.tuple #[.slice A1 2 c1, .int .i64 0]) ∧ RdII w' w'.heap.size A1 [[1, 2], [0, 3]] ∧ Below (w.alloc (.cells #[.int .i64 2, .int .i64 0] 36)).heap.size (w.alloc (.cells #[.int .i64 2, .int .i64 0] 36)) w' := by
    have h := rounds_any (some ⟨w.heap.size, 0, none⟩) 1 4 [(2, 0)] 2 _ hE (hT.step hB)
    rw [al6_L, al6_E] at h
    exact h
  have HC := Lib.hid hC
  have HB := Lib.hid hB
  clear hC hE hB hT
  go_enter Tryd.func12, Tryd.ntmps12
  go_wp2_with fail
  refine HC.out.mono ?_
  rintro e w2 ⟨A1, c1, rfl, hr, hb⟩
  have hB2 : Below w.heap.size w w2 := HB.out.trans (hb.mono HB.out.size)
  obtain ⟨b, off, A2, c2, rfl, hbl, hc1, r1⟩ := hr.at_ (k := 0) (by simp)
  obtain ⟨b', off', A3, c3, hA3, _, hc2, r2⟩ := hr.at_ (k := 1) (by simp)
  injection hA3 with hA3
  injection hA3 with e1 e2
  subst e1
  subst e2
  rw [Nat.add_zero] at hc1
  replace hc1 : w2.cell? ⟨b, off, none⟩ = some (.slice A2 2 c2) := hc1
  replace hc2 : w2.cell? ⟨b, off + 1, none⟩ = some (.slice A3 2 c3) := hc2
  replace r1 : RdI w2 w2.heap.size A2 [1, 2] := r1
  replace r2 : RdI w2 w2.heap.size A3 [0, 3] := r2
  have h1 := Lib.hid (equalI_same A2 (some ⟨w2.heap.size, 0, none⟩) c2 2 [1, 2] _ (r1.step (below_alloc w2 (.cells #[.int .i64 1, .int .i64 2] 3))) (rd_two w2 1 2 (by decide) (by decide) (by decide) (by decide)))
  have HR2 := Lib.hid r2
  have HB2 := Lib.hid hB2
  clear hr hb r1 r2 hB2 HC HB
  go_wp2_with fail
  refine h1.out.mono ?_
  rintro e w3 ⟨rfl, hb⟩
  have hba := (below_alloc w2 (.cells #[.int .i64 1, .int .i64 2] 3)).trans (hb.mono (by simp))
  have hc3 := (hba.cell (p := ⟨b, off + 1, none⟩) hbl).trans hc2
  have r3 := (HR2.out.step hba).step (below_alloc w3 (.cells #[.int .i64 0, .int .i64 3] 3))
  have h2 := Lib.hid (equalI_same A3 (some ⟨w3.heap.size, 0, none⟩) c3 2 [0, 3] _ r3 (rd_two w3 0 3 (by decide) (by decide) (by decide) (by decide)))
  have HB3 := Lib.hid (HB2.out.trans (hba.mono HB2.out.size))
  clear hb hba r3 hc1 hc2 h1 HB2 HR2
  go_wp2_with fail
  refine h2.out.mono ?_
  rintro e w4 ⟨rfl, hb⟩
  have hb4 := HB3.out.trans (((below_alloc w3 (.cells #[.int .i64 0, .int .i64 3] 3)).trans (hb.mono (by simp))).mono HB3.out.size)
  clear hb h2 hc3
  go_wp2_with fail
  go_ret
  exact ⟨rfl, hb4⟩
end Go.Proofs.YtipihchlhkjdjaaDoor

namespace Go.Proofs.YtipihchlhkjdjaaDoor
open Go.RowKit
set_option maxRecDepth 100000
attribute [local go_sem ↓] Go.wp_at_zero Go.wp_at_succ

set_option maxHeartbeats 1000000 in
theorem edgeEnds_any (A : Option Addr) (c n : Nat) (es : List (Int × Int)) (w : World) (he : RdE w w.heap.size A es) (hn : n ≤ 200) (hok : ∀ k, k < es.length → okE n (ed es k) = true) :
    Calls Tryd.prog 48 #[.agg #[.int .i64 (n : Int), .slice A es.length c]] w fun e w' => ∃ ge, e = .returned (.slice (some ⟨ge, 0, none⟩) n n) ∧ RdII w' w'.heap.size (some ⟨ge, 0, none⟩) ((List.range n).map (tos es)) ∧ Below w.heap.size w w' := by
  have hroom := he.room
  obtain ⟨i0, hi, hz0, hz1, hz2⟩ := info_parts Tryd.infoInt
  have hmk1 := run_make_row' (P := Tryd.prog) 25 34 (.slice none 0 0) 24 Tryd.underlying25 Tryd.infoSI rfl .i64 .i64 n (by omega) (by omega)
  go_enter Tryd.func48, Tryd.ntmps48
  go_wp2_with fail
  have hG := GBox.new w n A es.length c 24
  obtain ⟨w1, hw1⟩ : ∃ w1, w1 = w.alloc (.cells #[.int .i64 (n : Int), .slice A es.length c] 24) := ⟨_, rfl⟩
  have hb1 : Below w.heap.size w w1 := by rw [hw1]; exact (Below.refl _ _).alloc (Nat.le_refl _) _
  have hs1 : w.heap.size + 1 = w1.heap.size := by rw [hw1]; simp
  have hE0 := Ends.new 34 3 w1 w1.heap.size n (Nat.le_refl _)
  obtain ⟨w2, hw2⟩ : ∃ w2, w2 = w1.alloc (.cells (madeCells #[.slice none 0 0] n) 34) := ⟨_, rfl⟩
  have hb2 : Below w1.heap.size w1 w2 := by rw [hw2]; exact (Below.refl _ _).alloc (Nat.le_refl _) _
  rw [← hw1, ← hw2, hs1]
  rw [← hw2] at hE0
  rw [← hw1] at hG
  have he1 : RdE w1 w1.heap.size A es := he.step hb1
  obtain ⟨B, hB⟩ : ∃ B, B = w.heap.size := ⟨_, rfl⟩
  obtain ⟨B1, hB1⟩ : ∃ B1, B1 = w1.heap.size := ⟨_, rfl⟩
  rw [← hB] at hG hs1 ⊢
  rw [← hB1] at he1 hE0 hb2 hs1 ⊢
  have hs1 : B + 1 ≤ B1 := by omega
  have hs2 : B1 ≤ w2.heap.size := by have := hb2.size; omega
  have hG2 : GBox w2 B n A es.length c := hG.below hb2 (by omega)
  have HB1 := Lib.hid hB1
  have HB := Lib.hid hB
  have HX := Lib.hid hb1
  have HG := Lib.hid hG
  clear hw1 hw2 hB hB1 he hG
  have HO := Lib.hid hok
  clear hok
  go_loopw [12] (fun i wr => ∃ k : Nat, k ≤ es.length ∧ i = .int .i64 k ∧ Ends 34 3 wr B1 B1 n (tos (es.take k)) ∧ Below B1 w1 wr) (fun i _ => es.length - (intOf i).toNat)
  case atStart => exact ⟨0, Nat.zero_le _, rfl, hE0, hb2⟩
  case round =>
    obtain ⟨k, hk, rfl, hEn, hbr⟩ := hrel
    clear hE0 hb2 hG2
    by_cases hlt : k < es.length
    · have hoke := HO.out k hlt
      unfold okE at hoke
      rw [Bool.and_eq_true] at hoke
      obtain ⟨o1, o2⟩ := hoke
      replace o1 := nodeB_true o1
      replace o2 := nodeB_true o2
      obtain ⟨x, hx⟩ : ∃ x : Nat, (ed es k).1 = (x : Int) := ⟨(ed es k).1.toNat, by omega⟩
      obtain ⟨y, hy⟩ : ∃ y : Nat, (ed es k).2 = (y : Int) := ⟨(ed es k).2.toNat, by omega⟩
      have hxn : x < n := by omega
      have HT := Lib.hid (tos_take es k x hlt hx)
      have hsz := Nat.le_trans (show B1 ≤ w1.heap.size from Nat.le_of_eq HB1.out) hbr.size
      obtain ⟨b, off, rfl, hb, hc⟩ := he1.rd (by omega)
      have hc1 := (hbr.cell (p := ⟨b, off + k * 2, none⟩) hb).trans (hc k hlt).1
      have hc2 := (hbr.cell (p := ⟨b, off + k * 2 + 1, none⟩) hb).trans (hc k hlt).2
      rw [hx] at hc1
      rw [hy] at hc2
      have HY := Lib.hid hy
      clear hc o1 o2 hx hy
      go_wp2_with fail
      have hX := EBox.new wr x y 36
      obtain ⟨w3, hw3⟩ : ∃ w3, w3 = wr.alloc (.cells #[.int .i64 (x : Int), .int .i64 (y : Int)] 36) := ⟨_, rfl⟩
      have hs3 : w3.heap.size = wr.heap.size + 1 := by rw [hw3]; simp
      have hEn3 : Ends 34 3 w3 B1 B1 n (tos (es.take k)) := by rw [hw3]; exact hEn.alloc _
      have hbr3 : Below B1 w1 w3 := by rw [hw3]; exact hbr.alloc hsz _
      rw [← hw3] at hX ⊢
      have hgl0 := hEn.lt
      have hbk : w3.heap[wr.heap.size]? = some (.cells #[.int .i64 (x : Int), .int .i64 (y : Int)] 36 (0, 0)) := by rw [hw3]; exact heap_alloc_new wr _
      clear hw3 hEn hbr hc1 hc2
      have hl := tos_take_len es k x
      obtain ⟨v, A3, c3, rfl, hcell, hfz, hown, hgl, hng, hnext⟩ := hEn3.at_ (by decide) hxn
      have hx0 : (0 : Int) ≤ (x : Int) := Int.natCast_nonneg _
      have hx1 : (x : Int) < (n : Int) := by omega
      have hex := hX.x
      have hey := hX.y
      obtain ⟨BE, hBE⟩ : ∃ BE, BE = wr.heap.size := ⟨_, rfl⟩
      rw [← hBE] at hex hey hs3 hbk ⊢
      have hBE3 : BE < w3.heap.size := by omega
      have hne : BE ≠ B1 := by omega
      have hnE : (Value.slice A3 (tos (es.take k) x).length c3).ownBlock ≠ some BE := own_ne_blk hown hbk (by decide)
      have HS3 := Lib.hid hs3
      clear hX hBE hs3
      have hfa : ∀ o, (w3.alloc o).frozen? ⟨B1, x, none⟩ = false := fun o => (World.frozen?_alloc_old w3 o ⟨B1, x, none⟩ (Nat.ne_of_lt hgl)).trans hfz
      clear hbk
      have hxa : ∀ o, (w3.alloc o).cell? ⟨BE, 0, none⟩ = some (.int .i64 (x : Int)) := fun o => (World.cell?_alloc_lt w3 o ⟨BE, 0, none⟩ hBE3).trans hex
      have hya : ∀ o, (w3.alloc o).cell? ⟨BE, 1, none⟩ = some (.int .i64 (y : Int)) := fun o => (World.cell?_alloc_lt w3 o ⟨BE, 1, none⟩ hBE3).trans hey
      have hca : ∀ o, (w3.alloc o).cell? ⟨B1, x, none⟩ = some (.slice A3 (tos (es.take k) x).length c3) := fun o => (World.cell?_alloc_lt w3 o ⟨B1, x, none⟩ hgl).trans hcell
      have hin1 : (tos (es.take k) x).length + 1 ≤ maxLen := by unfold maxLen; omega
      have hin2 : ((tos (es.take k) x).length + 1) * 8 ≤ 140737488355328 := by omega
      have hfin : ∀ gg cap w4, w4.ownsRow B1 3 1 (.slice (some ⟨gg, 0, none⟩) ((tos (es.take k) x).length + 1) cap) ((tos (es.take k) x).length + 1) (iVals (tos (es.take k) x) ++ [.int .i64 (y : Int)]) →
          (w3.alloc (.cells #[.int .i64 (y : Int)] 3)).drew.grownBy w4 (Value.slice A3 (tos (es.take k) x).length c3).ownBlock → ((Value.slice A3 (tos (es.take k) x).length c3).ownBlock = some gg ∨ gg = w3.heap.size + 1) →
          Hid (Ends 34 3 (w4.setCell ⟨B1, x, none⟩ (.slice (some ⟨gg, 0, none⟩) ((tos (es.take k) x).length + 1) cap)) B1 B1 n (tos (es.take (k + 1))) ∧ Below B1 w1 (w4.setCell ⟨B1, x, none⟩ (.slice (some ⟨gg, 0, none⟩) ((tos (es.take k) x).length + 1) cap))) := fun gg cap w4 h1 h2 h3 => by
        refine Lib.hid ⟨?_, ?_⟩
        · rw [HT.out, HY.out]
          exact hnext _ y _ w4 h1 h2 (fun b hb => by
            obtain rfl : gg = b := by simpa [Value.ownBlock] using hb
            exact h3)
        · refine Below.setCell (p := ⟨B1, x, none⟩) (((hbr3.alloc (by omega) _).drew).grown h2 (by simp; omega) (own_base hown)) (Nat.le_refl _) _
      have HFIN := Lib.hid hfin
      clear hfin hnext
      go_region_law
        ((refine step_append_lies _ (by rfl) _ _ _ (by rfl) B1 3 i0 _ 1 8 Tryd.underlying34 hi hz0 hz1 hz2 rfl (by omega) (.slice A3 (tos (es.take k) x).length c3) (tos (es.take k) x).length (iVals (tos (es.take k) x)) (by rfl) ((hown.alloc _).drew)
            ⟨w3.heap.size, 0, none⟩ 1 1 [.int .i64 (y : Int)] (by rfl) (by rfl) (World.news_of_block (cs := #[.int .i64 (y : Int)]) (t := 3) (fr := (0, 0)) (heap_alloc_new w3 _)) (by simp [Value.oneCell'])
            (by omega) hin1 hin2 (by simp; omega) (w3.heap.size + 1) (by simp) ?_; intro gg cap w4 hown1 hgrow hat hlt'; have hc4 := (hgrow.cell_far ⟨B1, x, none⟩ (by simp; omega) (Ne.symm hng)).trans (hca _); have hf4 := (hgrow.frozen_far ⟨B1, x, none⟩ (by simp; omega) (Ne.symm hng)).trans (hfa _); have hx4 := (hgrow.cell_far ⟨BE, 0, none⟩ (by simp; omega) (Ne.symm hnE)).trans (hxa _); have hy4 := (hgrow.cell_far ⟨BE, 1, none⟩ (by simp; omega) (Ne.symm hnE)).trans (hya _); have HF := HFIN.out _ _ _ hown1 hgrow hat))
      all_goals
        go_wp2
        go_roundw
        case rel => exact ⟨k + 1, by omega, by go_num, HF.out.1, HF.out.2⟩
        case measure => simp [intOf]; omega
    · obtain rfl : k = es.length := by omega
      rw [List.take_length] at hEn
      have hR := hEn.rd (by omega) fun i hi => ⟨Nat.le_trans (tos_len es i) (by omega), fun k => tos_in es n HO.out i k hn⟩
      go_wp2
      go_ret
      have hBB := HB.out
      exact ⟨_, rfl, hR, HX.out.trans (hbr.mono (by omega))⟩
end Go.Proofs.YtipihchlhkjdjaaDoor

namespace Go.Proofs.YtipihchlhkjdjaaDoor
open Go.RowKit
set_option maxRecDepth 100000

/-- where the edges from a lead -/
def nxN (es : List (Int × Int)) (a : Nat) : List Nat := (tos es a).map Int.toNat
theorem nxN_iff {m : Nat} {es : List (Int × Int)} (h : inR m es = true) (a b : Nat) : gR es a b = true ↔ b ∈ nxN es a := by
  unfold nxN gR
  rw [List.mem_map, decide_eq_true_eq]
  constructor
  · intro hm
    exact ⟨(b : Int), tos_mem.2 hm, by omega⟩
  · rintro ⟨z, hz, rfl⟩
    have hm := tos_mem.1 hz
    have := edge_in h hm
    rwa [show ((z.toNat : Nat) : Int) = z by omega]
/-- the longest ways' lengths -/
def lvs (m : Nat) (es : List (Int × Int)) : Nat → Nat := trn (nxN es) (ordr m es)
def levG (N : Int) (es : List (Int × Int)) : List Int := if errn N es = 0 then (List.range N.toNat).map (fun k => ((lvs N.toNat es k : Nat) : Int)) else []
theorem lvs_lev {m : Nat} {es : List (Int × Int)} (h : inR m es = true) (hfull : (ordr m es).length = m) : Lev (gR es) (lvs m es) := trn_lev (good_topoN _ _ _) hfull (gR_lt h) (nxN_iff h)
theorem ordr_good (m : Nat) (es : List (Int × Int)) : Good (gR es) m (ordr m es) := good_topoN _ _ _
theorem lvs_lt {m : Nat} {es : List (Int × Int)} (h : inR m es = true) (hfull : (ordr m es).length = m) {b : Nat} (hb : b < m) : lvs m es b < m := (lvs_lev h hfull).way.lt (ordr_good m es) hfull (gR_lt h) hb
theorem levG_ok {m : Nat} {es : List (Int × Int)} (h : errn m es = 0) : levG m es = (List.range m).map (fun k => ((lvs m es k : Nat) : Int)) := by unfold levG; rw [if_pos h, Int.toNat_natCast]
theorem levG_no {N : Int} {es : List (Int × Int)} (h : errn N es ≠ 0) : levG N es = [] := by unfold levG; rw [if_neg h]
theorem levG_len {m : Nat} {es : List (Int × Int)} (h : errn m es = 0) : (levG m es).length = m := by rw [levG_ok h]; simp

/-- one more edge's end, in memory -/
theorem take_outs (nx : Nat → List Nat) (a j : Nat) (h : j < (nx a).length) : (outs nx a).take (j + 1) = (outs nx a).take j ++ [(a, (nx a).getD j 0)] := by
  rw [List.take_succ_eq_append_getElem (by unfold outs; simpa using h)]
  congr 2
  unfold outs
  simp [List.getD, h]

theorem rowIs_rdI' {w : World} {g t m : Nat} {z : Nat → Nat} (h : w.rowIs g t m (fun k => .int .i64 ((z k : Nat) : Int))) (hb : ∀ k, k < m → z k < m) (hm : m ≤ 1048576) : RdI w w.heap.size (some ⟨g, 0, none⟩) ((List.range m).map fun k => ((z k : Nat) : Int)) := by
  have h2 : w.rowIs g t m (fun k => .int .i64 (if k < m then ((z k : Nat) : Int) else 0)) := h.congr fun k hk => by rw [if_pos hk]
  have h3 := rowIs_rdI h2 (fun k => by split; have := hb k (by assumption); omega; omega) hm
  rwa [show (List.range m).map (fun k => if k < m then ((z k : Nat) : Int) else 0) = (List.range m).map fun k => ((z k : Nat) : Int) from List.map_congr_left fun k hk => if_pos (List.mem_range.1 hk)] at h3

set_option maxHeartbeats 4000000 in
theorem levels_any (A : Option Addr) (c : Nat) (N : Int) (es : List (Int × Int)) (w : World) (he : RdE w w.heap.size A es) (hT : Tab w) :
    Calls Tryd.prog 30 #[.agg #[.int .i64 N, .slice A es.length c]] w fun e w' => ∃ A1 c1, e = .returned (.tuple #[.slice A1 (levG N es).length c1, .int .i64 (errn N es)]) ∧ RdI w' w'.heap.size A1 (levG N es) ∧ Below w.heap.size w w' := by
  have hroom := he.room
  have hmk := fun m (hm : m ≤ 200) => run_make_row' (P := Tryd.prog) 34 3 (.int .i64 0) 8 Tryd.underlying34 Tryd.infoInt rfl .i64 .i64 m (by omega) (by omega)
  go_enter Tryd.func30, Tryd.ntmps30
  go_wp2_with fail
  have g1 := GB.new w 24 N (.slice A es.length c)
  have hB := below_alloc w (.cells #[.int .i64 N, .slice A es.length c] 24)
  obtain ⟨w1, hw1⟩ : ∃ w1, w1 = w.alloc (.cells #[.int .i64 N, .slice A es.length c] 24) := ⟨_, rfl⟩
  rw [← hw1] at g1 hB ⊢
  have hs := hB.size
  replace he := he.step hB
  replace hT := hT.step hB
  clear hw1
  refine (sort_any A c N es _ he hT).mono ?_
  rintro e w2 ⟨A2, c2, rfl, q2, hb⟩
  replace g1 := g1.step hb
  replace he := he.step hb
  replace hB := below_step hB hs hb
  replace hs := hB.size
  clear hb hT
  by_cases hE : errn N es = 0
  · obtain ⟨m, rfl, hin, hfull⟩ := errn_split hE
    have hm := okN_of hin
    have hO : ordG m es = toI (ordr m es) := by unfold ordG; rw [if_pos hE, Int.toNat_natCast]
    rw [hO] at q2
    rw [hE, hO]
    have HLE := Lib.hid (levG_ok hE)
    have HEE := Lib.hid hE
    have hgood := ordr_good m es
    have hord : (toI (ordr m es)).length = m := by rw [toI_len, hfull]
    have n1 := g1.n
    have e1 := g1.e
    have hmk := hmk m (by omega)
    go_wp2_with fail
    refine (edgeEnds_any A c m es _ he (by omega) (okE_of hin)).mono ?_
    rintro e w3 ⟨ge, rfl, q3, hb⟩
    replace g1 := g1.step hb
    replace q2 := q2.step hb
    replace hB := below_step hB hs hb
    replace hs := hB.size
    clear hb n1 e1 he
    have n1 := g1.n
    go_wp2_with fail
    have R := World.rowIs_made w3 (.int .i64 0) m 3
    have hBn := below_alloc w3 (.cells (madeCells #[.int .i64 0] m) 3)
    obtain ⟨w4, hw4⟩ : ∃ w4, w4 = w3.alloc (.cells (madeCells #[.int .i64 0] m) 3) := ⟨_, rfl⟩
    obtain ⟨g, hg⟩ : ∃ g, g = w3.heap.size := ⟨_, rfl⟩
    rw [← hw4] at R hBn ⊢
    rw [← hg] at R q2 q3 hBn ⊢
    have hgs : w.heap.size ≤ g := by omega
    have HG := Lib.hid hg
    have HFULL := Lib.hid hfull
    have HGOOD := Lib.hid hgood
    have hRl := gR_lt hin
    have HRL := Lib.hid hRl
    have HNX := Lib.hid (nxN_iff hin)
    have HIN := Lib.hid hin
    obtain ⟨d, hd⟩ : ∃ d, d = ordr m es := ⟨_, rfl⟩
    have hlv : lvs m es = trn (nxN es) d := by rw [hd]; rfl
    have HLV := Lib.hid hlv
    rw [← hd] at HFULL HGOOD q2 hord
    try rw [← hd]
    have HO := Lib.hid hord
    clear hw4 hg n1 g1 hE hO hfull hgood hRl hin hlv
    try rw [HO.out]
    have hlen : d.length = m := HFULL.out
    have HL := Lib.hid hlen
    clear hord hlen
    obtain ⟨wo, hwo⟩ : ∃ wo : World, wo = w3 := ⟨_, rfl⟩
    rw [← hwo] at q2 q3 hBn hB
    have HW := Lib.hid hwo
    clear hwo
    go_loopw [27] (fun i wr => ∃ k : Nat, k ≤ m ∧ i = .int .i64 k ∧ wr.rowIs g 3 m (fun x => .int .i64 ((trn (nxN es) (d.take k) x : Nat) : Int)) ∧ Below g wo wr) (fun i _ => m - (intOf i).toNat)
    case atStart => exact ⟨0, Nat.zero_le _, rfl, R, hBn⟩
    case round =>
      obtain ⟨k, hk, rfl, hr, hbr⟩ := hrel
      clear R hBn
      by_cases hlt : k < m
      · obtain ⟨x, hx⟩ : ∃ x, x = d.getD k 0 := ⟨_, rfl⟩
        have hkd : k < d.length := by rw [HL.out]; exact hlt
        have hdx : d[k] = x := by rw [hx]; simp [List.getD, hkd]
        have hxm : x < m := HGOOD.out.lt x (by rw [← hdx]; exact List.getElem_mem _)
        obtain ⟨b2, off2, rfl, hb2, hc2⟩ := q2.rd (by rw [HO.out]; omega)
        have hcx := (hbr.cell (p := ⟨b2, off2 + k, none⟩) hb2).trans (hc2 k (by rw [HO.out]; exact hlt))
        dsimp only at hcx
        rw [show zd (toI d) k = (x : Int) by rw [← hdx]; unfold zd toI; simp [List.getD, hkd]] at hcx
        obtain ⟨A6, c6, hg6, hcell, hri⟩ := q3.at0 (k := x) (by simpa using hxm)
        rw [show ((List.range m).map (tos es)).getD x [] = tos es x by simp [List.getD, hxm]] at hcell hri
        have hcW := (hbr.cell (p := ⟨ge, x, none⟩) hg6).trans hcell
        have hT0 : trn (nxN es) (d.take (k + 1)) = rnd (outs (nxN es) x) (trn (nxN es) (d.take k)) := by
          rw [List.take_succ_eq_append_getElem hkd, trn_snoc, hdx]
        have HT := Lib.hid hT0
        have hS := trn_snd HNX.out d k
        obtain ⟨f, hf⟩ : ∃ f, f = trn (nxN es) (d.take k) := ⟨_, rfl⟩
        rw [← hf] at hr HT hS
        have HS := Lib.hid hS
        have hlo : (outs (nxN es) x).length = (tos es x).length := by unfold outs nxN; simp
        have HLO := Lib.hid hlo
        have hri2 : RdI wo g A6 (tos es x) := hri
        have hx0 : (0 : Int) ≤ (x : Int) := Int.natCast_nonneg _
        clear hc2 hcell hx hdx hT0 hf hS hlo hri hkd
        have HX := Lib.hid hxm
        have htl := tos_len es x
        go_wp2_with fail
        go_loopw [36] (fun i wq => ∃ j : Nat, j ≤ (tos es x).length ∧ i = .int .i64 j ∧ wq.rowIs g 3 m (fun y => .int .i64 ((rnd ((outs (nxN es) x).take j) f y : Nat) : Int)) ∧ Below g wo wq) (fun i _ => (tos es x).length - (intOf i).toNat)
        case atStart => exact ⟨0, Nat.zero_le _, rfl, hr, hbr⟩
        case round =>
          obtain ⟨j, hj, rfl, hr, hbr⟩ := hrel
          by_cases hjl : j < (tos es x).length
          · obtain ⟨b6, off6, rfl, hb6, hc6⟩ := hri2.rd (by omega)
            have hcy := (hbr.cell (p := ⟨b6, off6 + j, none⟩) hb6).trans (hc6 j hjl)
            obtain ⟨y, hy, hym, hyx⟩ : ∃ y : Nat, zd (tos es x) j = (y : Int) ∧ y < m ∧ (nxN es x).getD j 0 = y := by
              have hz : zd (tos es x) j ∈ tos es x := zd_mem' _ _ hjl
              have := edge_in HIN.out (tos_mem.1 hz)
              refine ⟨(zd (tos es x) j).toNat, by omega, by omega, ?_⟩
              unfold nxN zd
              simp [List.getD, hjl]
            dsimp only at hcy
            rw [hy] at hcy
            have hto := take_outs (nxN es) x j (by unfold nxN; simpa using hjl)
            rw [hyx] at hto
            have hSn : Snd (gR es) (rnd ((outs (nxN es) x).take j) f) := HS.out.rnd fun e he => by
              obtain ⟨h1, h2⟩ := mem_outs.1 (List.mem_of_mem_take he)
              exact (HNX.out _ _).2 (by rw [h1]; exact h2)
            have hfx := hSn.lt HGOOD.out HL.out HRL.out hxm
            have hfy := hSn.lt HGOOD.out HL.out HRL.out hym
            have HN : Hid (rnd ((outs (nxN es) x).take (j + 1)) f = rlx (rnd ((outs (nxN es) x).take j) f) (x, y)) := Lib.hid (by rw [hto, rnd_snoc])
            obtain ⟨q, hq⟩ : ∃ q, q = rnd ((outs (nxN es) x).take j) f := ⟨_, rfl⟩
            rw [← hq] at hr hfx hfy HN
            have cx := hr.cell hxm
            have cy := hr.cell hym
            have fy := hr.frozen y
            have hset := hr.set y (.int .i64 ((max (q y) (q x + 1) : Nat) : Int))
            have hB2 := hbr.setCell (p := ⟨g, y, none⟩) (Nat.le_refl _) (.int .i64 ((max (q y) (q x + 1) : Nat) : Int))
            have hfun : (fun i => if i = y then Value.int .i64 ((max (q y) (q x + 1) : Nat) : Int) else Value.int .i64 ((q i : Nat) : Int)) = fun i => Value.int .i64 ((rlx q (x, y) i : Nat) : Int) := by
              funext i
              unfold rlx
              dsimp only
              split <;> rfl
            rw [hfun] at hset
            have HSET := Lib.hid hset
            have HB2 := Lib.hid hB2
            have hy0 : (0 : Int) ≤ (y : Int) := Int.natCast_nonneg _
            obtain ⟨qx, hqx⟩ : ∃ qx, qx = q x := ⟨_, rfl⟩
            obtain ⟨qy, hqy⟩ : ∃ qy, qy = q y := ⟨_, rfl⟩
            rw [← hqx] at cx hfx HSET HB2
            rw [← hqy] at cy hfy HSET HB2
            have hxm' := HX.out
            have hmax : ∀ (W : World) (ts : Array TypeId) (t : TypeId), (Builtin.max_ ts t #[.int .i64 (qy : Int), .int .i64 ((qx : Int) + 1)]).run Tryd.prog W = .ok (.int .i64 ((max qy (qx + 1) : Nat) : Int)) W := fun W ts t => by
              rw [Go.run_max_int2]
              congr 2
              split <;> omega
            clear hc6 hy hyx hto hSn hset hB2 hfun hqx hqy hq hr
            go_wp2_with fail
            go_region
            all_goals
              go_wp2
              go_roundw
              case rel =>
                refine ⟨j + 1, by omega, by go_num, ?_, HB2.out.drew⟩
                rw [HN.out]
                exact HSET.out
              case measure => simp [intOf]; omega
          · obtain rfl : j = (tos es x).length := by omega
            rw [List.take_of_length_le (by rw [HLO.out]; omega), ← HT.out] at hr
            go_wp2_with fail
            go_roundw
            case rel => exact ⟨k + 1, by omega, by go_num, hr, hbr⟩
            case measure => simp [intOf]; omega
      · obtain rfl : k = m := by omega
        rw [List.take_of_length_le (Nat.le_of_eq HL.out)] at hr
        go_wp2_with fail
        go_ret2
        have hbd : ∀ b, b < k → trn (nxN es) d b < k := fun b hb => by
          have h0 := trn_snd HNX.out d d.length
          rw [List.take_length] at h0
          exact h0.lt HGOOD.out HL.out HRL.out hb
        rw [HEE.out, HLE.out, HLV.out]
        refine ⟨some ⟨g, 0, none⟩, k, by simp, rowIs_rdI' hr hbd (by omega), hB.trans (hbr.mono hgs)⟩
  · have h3 : (errn N es != 0) = true := by simpa using hE
    have HL0 := Lib.hid (levG_no hE)
    obtain ⟨E, hEE⟩ : ∃ E, E = errn N es := ⟨_, rfl⟩
    have HEE := Lib.hid hEE
    rw [← hEE] at h3 ⊢
    clear hE hEE
    go_wp2
    go_ret2
    rw [HL0.out, ← HEE.out]
    exact ⟨_, _, rfl, ⟨fun k => by simp [zd], fun k => by simp [zd], by simp, fun h => by simp at h⟩, hB⟩
end Go.Proofs.YtipihchlhkjdjaaDoor

namespace Go.Proofs.YtipihchlhkjdjaaDoor
open Go.RowKit
set_option maxRecDepth 100000

/-- the edges as nodes -/
def nE (es : List (Int × Int)) : List (Nat × Nat) := es.map fun e => (e.1.toNat, e.2.toNat)
theorem nE_len (es : List (Int × Int)) : (nE es).length = es.length := by unfold nE; simp
theorem nE_iff {m : Nat} {es : List (Int × Int)} (h : inR m es = true) (a b : Nat) : gR es a b = true ↔ (a, b) ∈ nE es := by
  unfold nE gR
  rw [List.mem_map, decide_eq_true_eq]
  constructor
  · intro hm
    exact ⟨_, hm, by simp⟩
  · rintro ⟨⟨x, y⟩, hz, he⟩
    have := edge_in h hz
    injection he with h1 h2
    dsimp only at h1 h2
    rwa [show (a : Int) = x by omega, show (b : Int) = y by omega]
theorem take_nE (es : List (Int × Int)) (k : Nat) (h : k < es.length) : (nE es).take (k + 1) = (nE es).take k ++ [((ed es k).1.toNat, (ed es k).2.toNat)] := by
  unfold nE
  rw [← List.map_take, ← List.map_take, take_ed es k h, List.map_append]
  rfl
theorem lvs_rnds {m : Nat} {es : List (Int × Int)} (h : inR m es = true) (hfull : (ordr m es).length = m) : lvs m es = rnds (nE es) m :=
  (lvs_lev h hfull).uniq (rnds_lev (ordr_good m es) hfull (gR_lt h) (nE_iff h))

/-! ### heights -/
def hgtG (N : Int) (es : List (Int × Int)) : Int := if errn N es = 0 then ((hgt (lvs N.toNat es) N.toNat : Nat) : Int) else 0
theorem hgtG_ok {m : Nat} {es : List (Int × Int)} (h : errn m es = 0) : hgtG m es = ((hgt (lvs m es) m : Nat) : Int) := by unfold hgtG; rw [if_pos h, Int.toNat_natCast]
theorem hgtG_no {N : Int} {es : List (Int × Int)} (h : errn N es ≠ 0) : hgtG N es = 0 := by unfold hgtG; rw [if_neg h]

set_option maxHeartbeats 2000000 in
theorem height_any (A : Option Addr) (c m : Nat) (f : Nat → Nat) (hm : m ≤ 200) (hf : ∀ b, b < m → f b < m) (w : World) (hx : RdI w w.heap.size A ((List.range m).map fun k => ((f k : Nat) : Int))) :
    Calls Tryd.prog 31 #[.slice A m c] w fun e w' => e = .returned (.int .i64 ((hgt f m : Nat) : Int)) ∧ w = w' := by
  go_enter Tryd.func31, Tryd.ntmps31
  go_wp2_with fail
  obtain ⟨wo, rfl⟩ : ∃ wo : World, wo = w := ⟨_, rfl⟩
  go_loopw [8, 3] (fun i t wr => ∃ k : Nat, k ≤ m ∧ i = .int .i64 k ∧ t = .int .i64 (((hgt f k : Nat) : Int) - 1) ∧ wr = wo) (fun i _ _ => m - (intOf i).toNat)
  case atStart => exact ⟨0, Nat.zero_le _, rfl, rfl, rfl⟩
  case round =>
    obtain ⟨k, hk, rfl, rfl, rfl⟩ := hrel
    by_cases hlt : k < m
    · obtain ⟨b, off, rfl, hb, hc⟩ := hx.rd (by simp; omega)
      have hck := hc k (by simpa using hlt)
      dsimp only at hck
      rw [show zd ((List.range m).map fun k => ((f k : Nat) : Int)) k = ((f k : Nat) : Int) by unfold zd; simp [List.getD, hlt]] at hck
      have h1 := hf k hlt
      have h2 : hgt f k ≤ m := hgt_le f fun b hb => hf b (by omega)
      have h3 : hgt f (k + 1) = max (hgt f k) (f k + 1) := rfl
      have H3 := Lib.hid h3
      obtain ⟨p, hp⟩ : ∃ p, p = hgt f k := ⟨_, rfl⟩
      obtain ⟨q, hq⟩ : ∃ q, q = f k := ⟨_, rfl⟩
      rw [← hp] at h2 H3 ⊢
      rw [← hq] at h1 hck H3
      have hmax : ∀ (W : World) (ts : Array TypeId) (t : TypeId), (Builtin.max_ ts t #[.int .i64 ((p : Int) - 1), .int .i64 (q : Int)]).run Tryd.prog W = .ok (.int .i64 (((max p (q + 1) : Nat) : Int) - 1)) W := fun W ts t => by
        rw [Go.run_max_int2]
        congr 2
        split <;> omega
      clear hc h3 hp hq
      go_wp2_with fail
      go_roundw
      case rel => exact ⟨k + 1, by omega, by go_num, by rw [H3.out], by trivial⟩
      case measure => simp [intOf]; omega
    · obtain rfl : k = m := by omega
      have h2 : hgt f k ≤ k := hgt_le f hf
      obtain ⟨p, hp⟩ : ∃ p, p = hgt f k := ⟨_, rfl⟩
      rw [← hp] at h2 ⊢
      have HP := Lib.hid hp
      clear hp
      go_wp2_with fail
      go_ret
      refine ⟨?_, rfl⟩
      rw [← HP.out]
      simp

/-- the levels as a list that is read -/
theorem levG_hgt {m : Nat} {es : List (Int × Int)} (hE : errn m es = 0) (hin : inR m es = true) (hfull : (ordr m es).length = m) :
    levG m es = (List.range m).map (fun k => ((lvs m es k : Nat) : Int)) ∧ (∀ b, b < m → lvs m es b < m) := ⟨levG_ok hE, fun _ hb => lvs_lt hin hfull hb⟩

set_option maxHeartbeats 2000000 in
theorem heightG_any (A : Option Addr) (c : Nat) (N : Int) (es : List (Int × Int)) (w : World) (he : RdE w w.heap.size A es) (hT : Tab w) :
    Calls Tryd.prog 14 #[.agg #[.int .i64 N, .slice A es.length c]] w fun e w' => e = .returned (.tuple #[.int .i64 (hgtG N es), .int .i64 (errn N es)]) ∧ Below w.heap.size w w' := by
  go_enter Tryd.func14, Tryd.ntmps14
  go_wp2_with fail
  have hB := below_alloc w (.cells #[.int .i64 N, .slice A es.length c] 24)
  obtain ⟨w1, hw1⟩ : ∃ w1, w1 = w.alloc (.cells #[.int .i64 N, .slice A es.length c] 24) := ⟨_, rfl⟩
  rw [← hw1] at hB ⊢
  have hs := hB.size
  replace he := he.step hB
  replace hT := hT.step hB
  clear hw1
  refine (levels_any A c N es _ he hT).mono ?_
  rintro e w2 ⟨A2, c2, rfl, q2, hb⟩
  replace hB := below_step hB hs hb
  clear hb
  by_cases hE : errn N es = 0
  · obtain ⟨m, rfl, hin, hfull⟩ := errn_split hE
    have hm := okN_of hin
    obtain ⟨h1, h2⟩ := levG_hgt hE hin hfull
    have hl := levG_len hE
    have HH := Lib.hid (hgtG_ok hE)
    have HEE := Lib.hid hE
    rw [hl, hE]
    rw [h1] at q2
    obtain ⟨f, hf⟩ : ∃ f, f = lvs m es := ⟨_, rfl⟩
    rw [← hf] at q2 h2 HH
    clear hE hl h1 hf
    go_wp2_with (first | (refine (height_any A2 c2 m f (by omega) h2 _ q2).mono ?_; rintro e w3 ⟨rfl, rfl⟩) | fail)
    go_ret2
    rw [HH.out, HEE.out]
    exact ⟨rfl, hB⟩
  · have h3 : (errn N es != 0) = true := by simpa using hE
    rw [levG_no hE]
    have HH := Lib.hid (hgtG_no hE)
    obtain ⟨E, hEE⟩ : ∃ E, E = errn N es := ⟨_, rfl⟩
    have HEE := Lib.hid hEE
    rw [← hEE] at h3 ⊢
    clear hE hEE
    go_wp2
    go_ret2
    rw [HH.out, ← HEE.out]
    exact ⟨rfl, hB⟩

end Go.Proofs.YtipihchlhkjdjaaDoor

namespace Go.Proofs.YtipihchlhkjdjaaDoor
open Go.RowKit
set_option maxRecDepth 100000

theorem rnd_ok {N : Int} {es : List (Int × Int)} {wk : Int} (h : rndE N es wk = 0) : ∃ m wn : Nat, N = (m : Int) ∧ wk = (wn : Int) ∧ 1 ≤ wn ∧ wn ≤ 16 ∧ m ≤ 200 ∧ errn m es = 0 ∧ inR m es = true ∧ (ordr m es).length = m ∧ rndL N es wk = rds (gR es) m wn (grn (gR es) m wn) := by
  have h0 := h
  unfold rndE at h
  by_cases hE : errn N es = 0
  · rw [if_neg (by omega)] at h
    by_cases hW : 1 ≤ wk ∧ wk ≤ 16
    · obtain ⟨m, rfl, hin, hfull⟩ := errn_split hE
      refine ⟨m, wk.toNat, rfl, by omega, by omega, by omega, by have := okN_of hin; omega, hE, hin, hfull, ?_⟩
      unfold rndL
      rw [if_pos h0, Int.toNat_natCast]
    · rw [if_neg hW] at h
      omega
  · rw [if_pos hE] at h
    exact absurd h hE
theorem acyc {m : Nat} {es : List (Int × Int)} (hin : inR m es = true) (hfull : (ordr m es).length = m) : ∀ x, ¬ Path (gR es) x x := fun x hp => by
  have hgd := good_topoN (gR es) m m
  have hx : x < m := by
    obtain ⟨b, hb, _⟩ := hp.last
    exact (gR_lt hin _ _ hb).2
  exact hgd.acyclic (gR_lt hin) (hgd.all (Nat.le_of_eq hfull.symm) hx) hp
theorem brent_ok {m wn : Nat} {es : List (Int × Int)} (hin : inR m es = true) (hfull : (ordr m es).length = m) (hw : 1 ≤ wn) :
    wn * grn (gR es) m wn ≤ m + (wn - 1) * hgt (lvs m es) m ∧ hgt (lvs m es) m ≤ grn (gR es) m wn ∧ m ≤ wn * grn (gR es) m wn :=
  brent hw (lvs_lev hin hfull) (ordr_good m es) hfull (gR_lt hin) (acyc hin hfull)

set_option maxHeartbeats 2000000 in
theorem brentLaw_any (A : Option Addr) (c : Nat) (N : Int) (es : List (Int × Int)) (wk : Int) (w : World) (he : RdE w w.heap.size A es) (_hl : es.length ≤ 1048576) (hT : Tab w) :
    Calls Tryd.prog 5 #[.agg #[.int .i64 N, .slice A es.length c], .int .i64 wk] w fun e w' => e = .returned (.bool true) ∧ Below w.heap.size w w' := by
  go_enter Tryd.func5, Tryd.ntmps5
  go_wp2_with fail
  have g1 : GB 24 (w.alloc (.cells #[.int .i64 N, .slice A es.length c] 24)) w.heap.size N (.slice A es.length c) := GB.new w 24 N (.slice A es.length c)
  have hB := below_alloc w (.cells #[.int .i64 N, .slice A es.length c] 24)
  obtain ⟨w1, hw1⟩ : ∃ w1, w1 = w.alloc (.cells #[.int .i64 N, .slice A es.length c] 24) := ⟨_, rfl⟩
  rw [← hw1] at g1 hB ⊢
  have hs := hB.size
  replace he := he.step hB
  replace hT := hT.step hB
  clear hw1
  refine (alive6_any _ hT).mono ?_
  rintro e w2 ⟨rfl, hb⟩
  replace g1 := gb_step g1 hb
  replace he := he.step hb
  replace hT := hT.step hb
  replace hB := below_step hB hs hb
  replace hs := hB.size
  clear hb
  have n1 := g1.n
  have e1 := g1.e
  go_wp2_with fail
  clear n1 e1
  by_cases hE : rndE N es wk = 0
  · obtain ⟨m, wn, rfl, rfl, hw2, hw3, hm, hE2, hin, hfull, hL⟩ := rnd_ok hE
    obtain ⟨q1, q2, q3⟩ := brent_ok hin hfull hw2
    have hrm := (grn_spec hw2 (acyc hin hfull) (R := gR es) (N := m)).2.2
    obtain ⟨r, hr⟩ : ∃ r, r = grn (gR es) m wn := ⟨_, rfl⟩
    obtain ⟨h, hh⟩ : ∃ h, h = hgt (lvs m es) m := ⟨_, rfl⟩
    rw [← hr] at q1 q2 q3 hrm hL
    rw [← hh] at q1 q2
    have hH : hgtG m es = (h : Int) := by rw [hgtG_ok hE2, hh]
    have f1 := rounds_any A c m es wn w2 he hT
    rw [hL, hE, rds_len] at f1
    have HE := Lib.hid hE2
    have HHH := Lib.hid hH
    clear hE hE2 hin hfull hL hr hh hH
    refine f1.mono ?_
    rintro e w3 ⟨A3, c3, rfl, _, hb⟩
    replace g1 := gb_step g1 hb
    replace he := he.step hb
    replace hT := hT.step hb
    replace hB := below_step hB hs hb
    replace hs := hB.size
    clear hb f1
    have n1 := g1.n
    have e1 := g1.e
    go_wp2_with fail
    clear n1 e1
    refine (heightG_any A c m es _ he hT).mono ?_
    rw [HHH.out, HE.out]
    rintro e w4 ⟨rfl, hb⟩
    replace g1 := gb_step g1 hb
    replace hB := below_step hB hs hb
    clear hb he hT hs
    have n1 := g1.n
    obtain ⟨p, hp⟩ : ∃ p, p = wn * r := ⟨_, rfl⟩
    obtain ⟨q, hq⟩ : ∃ q, q = (wn - 1) * h := ⟨_, rfl⟩
    rw [← hp] at q1 q3
    rw [← hq] at q1
    have hp2 : (wn : Int) * (r : Int) = (p : Int) := by rw [hp, Int.natCast_mul]
    have hq2 : ((wn : Int) - 1) * (h : Int) = (q : Int) := by
      rw [hq, Int.natCast_mul]
      congr 1
      omega
    have hpl : p ≤ 16 * 200 := by rw [hp]; exact Nat.mul_le_mul hw3 (by omega)
    have hql : q ≤ 16 * 200 := by rw [hq]; exact Nat.mul_le_mul (by omega) (by omega)
    have t1 : decide ((p : Int) ≤ (m : Int) + (q : Int)) = true := decide_eq_true (by omega)
    have t2 : decide ((h : Int) ≤ (r : Int)) = true := decide_eq_true (by omega)
    have t3 : decide ((m : Int) ≤ (p : Int)) = true := decide_eq_true (by omega)
    have HBB := Lib.hid hB
    clear hp hq hB HE HHH g1
    go_wp2_with fail
    go_ret
    exact ⟨rfl, HBB.out⟩
  · have f1 := rounds_any A c N es wk w2 he hT
    obtain ⟨E, hEE⟩ : ∃ E, E = rndE N es wk := ⟨_, rfl⟩
    have hb0 : (E != 0) = true := by rw [hEE]; simpa using hE
    rw [← hEE] at f1
    refine f1.mono ?_
    rintro e w3 ⟨A3, c3, rfl, _, hb⟩
    replace hB := below_step hB hs hb
    have HBB := Lib.hid hB
    clear hE hEE hb f1 hB g1 he hT hs
    go_wp2_with fail
    go_ret
    exact ⟨rfl, HBB.out⟩
end Go.Proofs.YtipihchlhkjdjaaDoor
