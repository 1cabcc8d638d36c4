/-
  Contract of graph.successors: for every graph in range, the set of the successors of each node.
-/
import Derived.Test.YtaboafkpmgadmaaDoorGrA
import Derived.Test.YtaboafkpmgadmaaDoorBsAlive
import Derived.Deep.RegionHeld3
import Derived.Deep.RegionLaw
import Derived.Deep.AppendLies
import Derived.Deep.DrawnRows
namespace Go.Proofs.YtaboafkpmgadmaaDoor
open Go.RowKit
set_option maxRecDepth 100000
attribute [local go_sem ↓] Go.wp_at_zero Go.wp_at_succ

theorem Tryd.infoSI : (Tryd.prog.info? 25).map (fun i => (i.zero, i.size, i.bytes)) = some (some (.slice none 0 0), 1, 24) := by kernel_rfl
theorem Tryd.infoSU : (Tryd.prog.info? 49).map (fun i => (i.zero, i.size, i.bytes)) = some (some (.slice none 0 0), 1, 24) := by kernel_rfl

/-- where the edges from i lead, in their order -/
def tos (es : List (Int × Int)) (i : Nat) : List Int := (es.filter fun e => decide (e.1 = (i : Int))).map (·.2)
theorem take_ed (es : List (Int × Int)) (k : Nat) (h : k < es.length) : es.take (k + 1) = es.take k ++ [ed es k] := by
  rw [List.take_succ_eq_append_getElem h]; unfold ed; simp [List.getD, h]
theorem tos_take (es : List (Int × Int)) (k x : Nat) (h : k < es.length) (hx : (ed es k).1 = (x : Int)) :
    tos (es.take (k + 1)) = fun i => if i = x then tos (es.take k) x ++ [(ed es k).2] else tos (es.take k) i := by
  funext i
  unfold tos
  rw [take_ed es k h, List.filter_append, List.map_append]
  by_cases e : i = x
  · subst e
    simp [hx]
  · have : ¬ (ed es k).1 = (i : Int) := by omega
    simp [this, e]
theorem tos_len (es : List (Int × Int)) (i : Nat) : (tos es i).length ≤ es.length := by
  unfold tos; rw [List.length_map]; exact List.length_filter_le _ _
theorem tos_take_len (es : List (Int × Int)) (k i : Nat) : (tos (es.take k) i).length ≤ k := Nat.le_trans (tos_len _ _) (by simp; omega)
theorem zd_bnd {zs : List Int} {lo hi : Int} (h : ∀ z ∈ zs, lo ≤ z ∧ z ≤ hi) (h0 : lo ≤ 0) (h1 : 0 ≤ hi) (k : Nat) : lo ≤ zd zs k ∧ zd zs k ≤ hi := by
  unfold zd
  by_cases hk : k < zs.length
  · simp only [List.getD, List.getElem?_eq_getElem hk, Option.getD_some]
    exact h _ (List.getElem_mem hk)
  · simp only [List.getD, List.getElem?_eq_none (by omega : zs.length ≤ k), Option.getD_none]
    exact ⟨h0, h1⟩
theorem tos_mem {es : List (Int × Int)} {i : Nat} {z : Int} : z ∈ tos es i ↔ ((i : Int), z) ∈ es := by
  unfold tos
  rw [List.mem_map]
  constructor
  · rintro ⟨⟨a, b⟩, h, rfl⟩
    rw [List.mem_filter] at h
    have := of_decide_eq_true h.2
    simp at this
    subst this
    exact h.1
  · intro h
    exact ⟨_, List.mem_filter.2 ⟨h, by simp⟩, rfl⟩
theorem tos_in (es : List (Int × Int)) (n : Nat) (h : ∀ k, k < es.length → okE n (ed es k) = true) (i k : Nat) (hn : n ≤ 200) : -9223372036854775808 ≤ zd (tos es i) k ∧ zd (tos es i) k ≤ 9223372036854775807 := by
  refine zd_bnd (fun z hz => ?_) (by omega) (by omega) k
  obtain ⟨j, hj, he⟩ := mem_ed (tos_mem.1 hz)
  have := h j hj
  rw [he] at this
  unfold okE at this
  rw [Bool.and_eq_true] at this
  have := nodeB_true this.2
  simp at this
  omega
theorem own_rdUp {w : World} {base : Nat} {e : TypeId} {v : Value} {xs : List Nat} (h : w.ownsRow base e 1 v xs.length (uVals xs)) (hlt : ∀ k, wd xs k < 18446744073709551616) (hroom : xs.length ≤ 1152921504606846976) :
    ∃ A c, v = .slice A xs.length c ∧ RdUp w (fun b => base ≤ b) A xs := by
  obtain ⟨A, c, rfl⟩ := own_any h
  refine ⟨A, c, rfl, hlt, hroom, fun hn => ?_⟩
  obtain ⟨g, cap, hv, hb, _⟩ := own_shape h hn
  injection hv with hA _ hc
  subst hA
  subst hc
  refine ⟨g, 0, rfl, hb, fun k hk => ?_⟩
  rw [Nat.zero_add, h.cellAt k (by omega)]
  exact uVals_at xs k hk
theorem of_own (A : Option Addr) (c : Nat) (zs : List Int) (w : World) (hx : RdI w w.heap.size A zs) :
    Calls Tryd.prog 71 #[.slice A zs.length c] w fun e w' => ∃ A1 c1, e = .returned (.slice A1 (ofS zs).length c1) ∧ RdUp w' (fun b => w.heap.size ≤ b) A1 (ofS zs) ∧ Below w.heap.size w w' :=
  (callsIn_wide.1 (of_in Fence.wide 3 trivial trivial trivial rfl (Nat.le_refl _) A c zs w hx)).mono fun e w' ⟨v, he, hown, hb⟩ => by
    have hl := ofS_len zs
    obtain ⟨A1, c1, rfl, hr⟩ := own_rdUp hown (ofS_wd zs) (by omega)
    exact ⟨A1, c1, he, hr, hb⟩
/-- the set of the successors of i -/
def nxt (es : List (Int × Int)) (i : Nat) : List Nat := ofS (tos es i)

set_option maxHeartbeats 1000000 in
theorem successors_any (A : Option Addr) (c n : Nat) (es : List (Int × Int)) (w : World) (he : RdE w w.heap.size A es) (hn : n ≤ 200) (hok : ∀ k, k < es.length → okE n (ed es k) = true) :
    Calls Tryd.prog 48 #[.agg #[.int .i64 (n : Int), .slice A es.length c]] w fun e w' => ∃ A1, e = .returned (.slice A1 n n) ∧ RdUUp w' (fun b => w.heap.size ≤ b) A1 ((List.range n).map (nxt es)) ∧ Below w.heap.size w w' := by
  have hroom := he.room
  obtain ⟨i0, hi, hz0, hz1, hz2⟩ := info_parts Tryd.infoInt
  have hmk1 := run_make_row' (P := Tryd.prog) 57 25 (.slice none 0 0) 24 Tryd.underlying57 Tryd.infoSI rfl .i64 .i64 n (by omega) (by omega)
  have hmk2 := run_make_row' (P := Tryd.prog) 29 49 (.slice none 0 0) 24 Tryd.underlying29 Tryd.infoSU rfl .i64 .i64 n (by omega) (by omega)
  go_enter Tryd.func48, Tryd.ntmps48
  go_wp2_with fail
  have hG := GBox.new w n A es.length c 24
  obtain ⟨w1, hw1⟩ : ∃ w1, w1 = w.alloc (.cells #[.int .i64 (n : Int), .slice A es.length c] 24) := ⟨_, rfl⟩
  have hb1 : Below w.heap.size w w1 := by rw [hw1]; exact (Below.refl _ _).alloc (Nat.le_refl _) _
  have hs1 : w.heap.size + 1 = w1.heap.size := by rw [hw1]; simp
  have hE0 := Ends.new 25 3 w1 w1.heap.size n (Nat.le_refl _)
  obtain ⟨w2, hw2⟩ : ∃ w2, w2 = w1.alloc (.cells (madeCells #[.slice none 0 0] n) 25) := ⟨_, rfl⟩
  have hb2 : Below w1.heap.size w1 w2 := by rw [hw2]; exact (Below.refl _ _).alloc (Nat.le_refl _) _
  rw [← hw1, ← hw2, hs1]
  rw [← hw2] at hE0
  rw [← hw1] at hG
  have he1 : RdE w1 w1.heap.size A es := he.step hb1
  obtain ⟨B, hB⟩ : ∃ B, B = w.heap.size := ⟨_, rfl⟩
  obtain ⟨B1, hB1⟩ : ∃ B1, B1 = w1.heap.size := ⟨_, rfl⟩
  rw [← hB] at hG hs1 ⊢
  rw [← hB1] at he1 hE0 hb2 hs1 ⊢
  have hs1 : B + 1 ≤ B1 := by omega
  have hs2 : B1 ≤ w2.heap.size := by have := hb2.size; omega
  have hG2 : GBox w2 B n A es.length c := hG.below hb2 (by omega)
  have HB1 := Lib.hid hB1
  have HB := Lib.hid hB
  have HG := Lib.hid hG
  clear hw1 hw2 hB hB1 he hG
  have HO := Lib.hid hok
  clear hok
  go_loopw [15] (fun i wr => ∃ k : Nat, k ≤ es.length ∧ i = .int .i64 k ∧ Ends 25 3 wr B1 B1 n (tos (es.take k)) ∧ Below B1 w1 wr) (fun i _ => es.length - (intOf i).toNat)
  case atStart => exact ⟨0, Nat.zero_le _, rfl, hE0, hb2⟩
  case round =>
    obtain ⟨k, hk, rfl, hEn, hbr⟩ := hrel
    clear hE0 hb2 hG2
    by_cases hlt : k < es.length
    · have hoke := HO.out k hlt
      unfold okE at hoke
      rw [Bool.and_eq_true] at hoke
      obtain ⟨o1, o2⟩ := hoke
      replace o1 := nodeB_true o1
      replace o2 := nodeB_true o2
      obtain ⟨x, hx⟩ : ∃ x : Nat, (ed es k).1 = (x : Int) := ⟨(ed es k).1.toNat, by omega⟩
      obtain ⟨y, hy⟩ : ∃ y : Nat, (ed es k).2 = (y : Int) := ⟨(ed es k).2.toNat, by omega⟩
      have hxn : x < n := by omega
      have HT := Lib.hid (tos_take es k x hlt hx)
      have hsz := Nat.le_trans (show B1 ≤ w1.heap.size from Nat.le_of_eq HB1.out) hbr.size
      obtain ⟨b, off, rfl, hb, hc⟩ := he1.rd (by omega)
      have hc1 := (hbr.cell (p := ⟨b, off + k * 2, none⟩) hb).trans (hc k hlt).1
      have hc2 := (hbr.cell (p := ⟨b, off + k * 2 + 1, none⟩) hb).trans (hc k hlt).2
      rw [hx] at hc1
      rw [hy] at hc2
      have HY := Lib.hid hy
      clear hc o1 o2 hx hy
      go_wp2_with fail
      have hX := EBox.new wr x y 38
      obtain ⟨w3, hw3⟩ : ∃ w3, w3 = wr.alloc (.cells #[.int .i64 (x : Int), .int .i64 (y : Int)] 38) := ⟨_, rfl⟩
      have hs3 : w3.heap.size = wr.heap.size + 1 := by rw [hw3]; simp
      have hEn3 : Ends 25 3 w3 B1 B1 n (tos (es.take k)) := by rw [hw3]; exact hEn.alloc _
      have hbr3 : Below B1 w1 w3 := by rw [hw3]; exact hbr.alloc hsz _
      rw [← hw3] at hX ⊢
      have hgl0 := hEn.lt
      have hbk : w3.heap[wr.heap.size]? = some (.cells #[.int .i64 (x : Int), .int .i64 (y : Int)] 38 (0, 0)) := by rw [hw3]; exact heap_alloc_new wr _
      clear hw3 hEn hbr hc1 hc2
      have hl := tos_take_len es k x
      obtain ⟨v, A3, c3, rfl, hcell, hfz, hown, hgl, hng, hnext⟩ := hEn3.at_ (by decide) hxn
      have hx0 : (0 : Int) ≤ (x : Int) := Int.natCast_nonneg _
      have hx1 : (x : Int) < (n : Int) := by omega
      have hex := hX.x
      have hey := hX.y
      obtain ⟨BE, hBE⟩ : ∃ BE, BE = wr.heap.size := ⟨_, rfl⟩
      rw [← hBE] at hex hey hs3 hbk ⊢
      have hBE3 : BE < w3.heap.size := by omega
      have hne : BE ≠ B1 := by omega
      have hnE : (Value.slice A3 (tos (es.take k) x).length c3).ownBlock ≠ some BE := own_ne_blk hown hbk (by decide)
      have HS3 := Lib.hid hs3
      clear hX hBE hs3
      have hfa : ∀ o, (w3.alloc o).frozen? ⟨B1, x, none⟩ = false := fun o => (World.frozen?_alloc_old w3 o ⟨B1, x, none⟩ (Nat.ne_of_lt hgl)).trans hfz
      clear hbk
      have hxa : ∀ o, (w3.alloc o).cell? ⟨BE, 0, none⟩ = some (.int .i64 (x : Int)) := fun o => (World.cell?_alloc_lt w3 o ⟨BE, 0, none⟩ hBE3).trans hex
      have hya : ∀ o, (w3.alloc o).cell? ⟨BE, 1, none⟩ = some (.int .i64 (y : Int)) := fun o => (World.cell?_alloc_lt w3 o ⟨BE, 1, none⟩ hBE3).trans hey
      have hca : ∀ o, (w3.alloc o).cell? ⟨B1, x, none⟩ = some (.slice A3 (tos (es.take k) x).length c3) := fun o => (World.cell?_alloc_lt w3 o ⟨B1, x, none⟩ hgl).trans hcell
      have hin1 : (tos (es.take k) x).length + 1 ≤ maxLen := by unfold maxLen; omega
      have hin2 : ((tos (es.take k) x).length + 1) * 8 ≤ 140737488355328 := by omega
      have hfin : ∀ gg cap w4, w4.ownsRow B1 3 1 (.slice (some ⟨gg, 0, none⟩) ((tos (es.take k) x).length + 1) cap) ((tos (es.take k) x).length + 1) (iVals (tos (es.take k) x) ++ [.int .i64 (y : Int)]) →
          (w3.alloc (.cells #[.int .i64 (y : Int)] 3)).drew.grownBy w4 (Value.slice A3 (tos (es.take k) x).length c3).ownBlock → ((Value.slice A3 (tos (es.take k) x).length c3).ownBlock = some gg ∨ gg = w3.heap.size + 1) →
          Hid (Ends 25 3 (w4.setCell ⟨B1, x, none⟩ (.slice (some ⟨gg, 0, none⟩) ((tos (es.take k) x).length + 1) cap)) B1 B1 n (tos (es.take (k + 1))) ∧ Below B1 w1 (w4.setCell ⟨B1, x, none⟩ (.slice (some ⟨gg, 0, none⟩) ((tos (es.take k) x).length + 1) cap))) := fun gg cap w4 h1 h2 h3 => by
        refine Lib.hid ⟨?_, ?_⟩
        · rw [HT.out, HY.out]
          exact hnext _ y _ w4 h1 h2 (fun b hb => by
            obtain rfl : gg = b := by simpa [Value.ownBlock] using hb
            exact h3)
        · refine Below.setCell (p := ⟨B1, x, none⟩) (((hbr3.alloc (by omega) _).drew).grown h2 (by simp; omega) (own_base hown)) (Nat.le_refl _) _
      have HFIN := Lib.hid hfin
      clear hfin hnext
      go_region_law
        ((refine step_append_lies _ (by rfl) _ _ _ (by rfl) B1 3 i0 _ 1 8 Tryd.underlying25 hi hz0 hz1 hz2 rfl (by omega) (.slice A3 (tos (es.take k) x).length c3) (tos (es.take k) x).length (iVals (tos (es.take k) x)) (by rfl) ((hown.alloc _).drew)
            ⟨w3.heap.size, 0, none⟩ 1 1 [.int .i64 (y : Int)] (by rfl) (by rfl) (World.news_of_block (cs := #[.int .i64 (y : Int)]) (t := 3) (fr := (0, 0)) (heap_alloc_new w3 _)) (by simp [Value.oneCell'])
            (by omega) hin1 hin2 (by simp; omega) (w3.heap.size + 1) (by simp) ?_; intro gg cap w4 hown1 hgrow hat hlt'; have hc4 := (hgrow.cell_far ⟨B1, x, none⟩ (by simp; omega) (Ne.symm hng)).trans (hca _); have hf4 := (hgrow.frozen_far ⟨B1, x, none⟩ (by simp; omega) (Ne.symm hng)).trans (hfa _); have hx4 := (hgrow.cell_far ⟨BE, 0, none⟩ (by simp; omega) (Ne.symm hnE)).trans (hxa _); have hy4 := (hgrow.cell_far ⟨BE, 1, none⟩ (by simp; omega) (Ne.symm hnE)).trans (hya _); have HF := HFIN.out _ _ _ hown1 hgrow hat))
      all_goals
        go_wp2
        go_roundw
        case rel => exact ⟨k + 1, by omega, by go_num, HF.out.1, HF.out.2⟩
        case measure => simp [intOf]; omega
    · obtain rfl : k = es.length := by omega
      rw [List.take_length] at hEn
      have hGr := HG.out.below hbr (by omega)
      have hgn := hGr.n
      have hge := hGr.e
      have hwr : w1.heap.size ≤ wr.heap.size := hbr.size
      go_wp2_with fail
      have hU0 := OwnUU.new 49 wr wr.heap.size n (Nat.le_refl _)
      obtain ⟨w5, hw5⟩ : ∃ w5, w5 = wr.alloc (.cells (madeCells #[.slice none 0 0] n) 49) := ⟨_, rfl⟩
      have hb5 : Below wr.heap.size wr w5 := by rw [hw5]; exact (Below.refl _ _).alloc (Nat.le_refl _) _
      rw [← hw5] at hU0 ⊢
      have hR := hEn.rd (by omega) fun i hi => ⟨Nat.le_trans (tos_len es i) (by omega), fun k => tos_in es n HO.out i k hn⟩
      obtain ⟨gn, hgn2⟩ : ∃ gn, gn = wr.heap.size := ⟨_, rfl⟩
      rw [← hgn2] at hU0 hb5 hR ⊢
      have HGN := Lib.hid hgn2
      clear hw5 hgn hge hGr hEn hk hlt hgn2
      obtain ⟨wo, rfl⟩ : ∃ wo : World, wo = wr := ⟨_, rfl⟩
      go_loopw [38] (fun i W => ∃ k : Nat, k ≤ n ∧ i = .int .i64 k ∧ OwnUU 49 W gn gn n (fun j => if j < k then nxt es j else []) ∧ Below gn wo W) (fun i _ => n - (intOf i).toNat)
      case atStart => exact ⟨0, Nat.zero_le _, rfl, by simpa using hU0, hb5⟩
      case round =>
        obtain ⟨k, hk, rfl, hU, hbW⟩ := hrel
        clear hU0 hb5
        by_cases hlt : k < n
        · obtain ⟨A6, c6, hg6, hcell, hri⟩ := hR.at0 (k := k) (by simpa using hlt)
          rw [show ((List.range n).map (tos es)).getD k [] = tos es k by simp [List.getD, hlt]] at hcell hri
          have hgW : gn ≤ wr.heap.size := Nat.le_trans (Nat.le_of_eq HGN.out) hbW.size
          have hcW : wr.cell? ⟨B1, k, none⟩ = some (.slice A6 (tos es k).length c6) := (hbW.cell (p := ⟨B1, k, none⟩) hg6).trans hcell
          have hrW := (hri.below hbW).more hgW
          clear hcell hri
          go_wp2_with fail
          refine (of_own _ _ _ _ hrW).mono ?_
          rintro e w6 ⟨A7, c7, rfl, hr7, hb7⟩
          have hU6 := hU.step hb7
          obtain ⟨A8, c8, hc8, hf8, _⟩ := hU6.cell hlt
          have hU7 := hU6.set (i := k) (c' := c7) (hr7.imp fun b hb => Nat.le_trans hgW hb)
          have hb6 : Below gn wo (w6.setCell ⟨gn, k, none⟩ (.slice A7 (ofS (tos es k)).length c7)) := (hbW.trans (hb7.mono hgW)).setCell (p := ⟨gn, k, none⟩) (Nat.le_refl _) _
          clear hU hU6 hr7 hb7 hbW hrW hcW
          have he7 : (fun j => if j = k then ofS (tos es k) else if j < k then nxt es j else []) = (fun j => if j < k + 1 then nxt es j else []) := by
            funext j
            by_cases e1 : j = k
            · subst e1
              rw [if_pos rfl, if_pos (by omega)]; rfl
            · rw [if_neg e1]
              by_cases e2 : j < k
              · rw [if_pos e2, if_pos (by omega)]
              · rw [if_neg e2, if_neg (by omega)]
          rw [he7] at hU7
          clear he7
          go_wp2
          go_roundw
          case rel => exact ⟨k + 1, by omega, by go_num, hU7, hb6⟩
          case measure => simp [intOf]; omega
        · obtain rfl : k = n := by omega
          go_wp2
          go_ret
          have hx := hU.rd (by omega)
          have he8 : (List.range k).map (fun j => if j < k then nxt es j else []) = (List.range k).map (nxt es) := by
            refine List.map_congr_left fun j hj => ?_
            rw [if_pos (List.mem_range.1 hj)]
          rw [he8] at hx
          refine ⟨_, rfl, hx.imp fun b hb => Nat.le_trans ?_ hb, hb1.trans ((hbr.mono ?_).trans (hbW.mono ?_))⟩
          · have h1 := HGN.out
            have h2 := hbr.size
            have h3 := hb1.size
            omega
          · have := HB.out; omega
          · have h1 := HB1.out
            have h2 := HGN.out
            have h3 := HB.out
            have h4 := hb1.size
            omega
end Go.Proofs.YtaboafkpmgadmaaDoor
