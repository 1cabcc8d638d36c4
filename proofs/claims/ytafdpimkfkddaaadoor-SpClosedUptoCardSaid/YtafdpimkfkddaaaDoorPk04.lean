/-
  Contract of graph.successors: for every graph in range, the set of the successors of each node.
  The iterator graph.edges: the edges from each node to those of its set, sorted, for every loop body that owns what it writes.
  Contract of graph.predecessors: from how many nodes an edge leads to each node.
  Plain mathematics of directed graphs on the nodes below N: paths, the topological order that takes the smallest node, Floyd and Warshall's closure. No condition but that edges lie below N.
-/
import Derived.Test.YtafdpimkfkddaaaDoorPk01
import Derived.Test.YtafdpimkfkddaaaDoorPk03
import Derived.Deep.RegionHeld3
import Derived.Deep.RegionLaw
import Derived.Deep.AppendLies
import Derived.Deep.DrawnRows
import Derived.RangeFuncNested
import Derived.Below
namespace Go.Proofs.YtafdpimkfkddaaaDoor
open Go.RowKit
set_option maxRecDepth 100000
attribute [local go_sem ↓] Go.wp_at_zero Go.wp_at_succ

theorem Tryd.infoSI : (Tryd.prog.info? 84).map (fun i => (i.zero, i.size, i.bytes)) = some (some (.slice none 0 0), 1, 24) := by kernel_rfl
theorem Tryd.infoSU : (Tryd.prog.info? 77).map (fun i => (i.zero, i.size, i.bytes)) = some (some (.slice none 0 0), 1, 24) := by kernel_rfl

/-- where the edges from i lead, in their order -/
def tos (es : List (Int × Int)) (i : Nat) : List Int := (es.filter fun e => decide (e.1 = (i : Int))).map (·.2)
theorem take_ed (es : List (Int × Int)) (k : Nat) (h : k < es.length) : es.take (k + 1) = es.take k ++ [ed es k] := by
  rw [List.take_succ_eq_append_getElem h]; unfold ed; simp [List.getD, h]
theorem tos_take (es : List (Int × Int)) (k x : Nat) (h : k < es.length) (hx : (ed es k).1 = (x : Int)) :
    tos (es.take (k + 1)) = fun i => if i = x then tos (es.take k) x ++ [(ed es k).2] else tos (es.take k) i := by
  funext i
  unfold tos
  rw [take_ed es k h, List.filter_append, List.map_append]
  by_cases e : i = x
  · subst e
    simp [hx]
  · have : ¬ (ed es k).1 = (i : Int) := by omega
    simp [this, e]
theorem tos_len (es : List (Int × Int)) (i : Nat) : (tos es i).length ≤ es.length := by
  unfold tos; rw [List.length_map]; exact List.length_filter_le _ _
theorem tos_take_len (es : List (Int × Int)) (k i : Nat) : (tos (es.take k) i).length ≤ k := Nat.le_trans (tos_len _ _) (by simp; omega)
theorem zd_bnd {zs : List Int} {lo hi : Int} (h : ∀ z ∈ zs, lo ≤ z ∧ z ≤ hi) (h0 : lo ≤ 0) (h1 : 0 ≤ hi) (k : Nat) : lo ≤ zd zs k ∧ zd zs k ≤ hi := by
  unfold zd
  by_cases hk : k < zs.length
  · simp only [List.getD, List.getElem?_eq_getElem hk, Option.getD_some]
    exact h _ (List.getElem_mem hk)
  · simp only [List.getD, List.getElem?_eq_none (by omega : zs.length ≤ k), Option.getD_none]
    exact ⟨h0, h1⟩
theorem tos_mem {es : List (Int × Int)} {i : Nat} {z : Int} : z ∈ tos es i ↔ ((i : Int), z) ∈ es := by
  unfold tos
  rw [List.mem_map]
  constructor
  · rintro ⟨⟨a, b⟩, h, rfl⟩
    rw [List.mem_filter] at h
    have := of_decide_eq_true h.2
    simp at this
    subst this
    exact h.1
  · intro h
    exact ⟨_, List.mem_filter.2 ⟨h, by simp⟩, rfl⟩
theorem tos_in (es : List (Int × Int)) (n : Nat) (h : ∀ k, k < es.length → okE n (ed es k) = true) (i k : Nat) (hn : n ≤ 200) : -9223372036854775808 ≤ zd (tos es i) k ∧ zd (tos es i) k ≤ 9223372036854775807 := by
  refine zd_bnd (fun z hz => ?_) (by omega) (by omega) k
  obtain ⟨j, hj, he⟩ := mem_ed (tos_mem.1 hz)
  have := h j hj
  rw [he] at this
  unfold okE at this
  rw [Bool.and_eq_true] at this
  have := nodeB_true this.2
  simp at this
  omega
theorem own_rdUp {w : World} {base : Nat} {e : TypeId} {v : Value} {xs : List Nat} (h : w.ownsRow base e 1 v xs.length (uVals xs)) (hlt : ∀ k, wd xs k < 18446744073709551616) (hroom : xs.length ≤ 1152921504606846976) :
    ∃ A c, v = .slice A xs.length c ∧ RdUp w (fun b => base ≤ b) A xs := by
  obtain ⟨A, c, rfl⟩ := own_any h
  refine ⟨A, c, rfl, hlt, hroom, fun hn => ?_⟩
  obtain ⟨g, cap, hv, hb, _⟩ := own_shape h hn
  injection hv with hA _ hc
  subst hA
  subst hc
  refine ⟨g, 0, rfl, hb, fun k hk => ?_⟩
  rw [Nat.zero_add, h.cellAt k (by omega)]
  exact uVals_at xs k hk
theorem of_own (A : Option Addr) (c : Nat) (zs : List Int) (w : World) (hx : RdI w w.heap.size A zs) :
    Calls Tryd.prog 40 #[.slice A zs.length c] w fun e w' => ∃ A1 c1, e = .returned (.slice A1 (ofS zs).length c1) ∧ RdUp w' (fun b => w.heap.size ≤ b) A1 (ofS zs) ∧ Below w.heap.size w w' :=
  (callsIn_wide.1 (of_in Fence.wide 3 trivial trivial trivial rfl (Nat.le_refl _) A c zs w hx)).mono fun e w' ⟨v, he, hown, hb⟩ => by
    have hl := ofS_len zs
    obtain ⟨A1, c1, rfl, hr⟩ := own_rdUp hown (ofS_wd zs) (by omega)
    exact ⟨A1, c1, he, hr, hb⟩
/-- the set of the successors of i -/
def nxt (es : List (Int × Int)) (i : Nat) : List Nat := ofS (tos es i)

set_option maxHeartbeats 1000000 in
theorem successors_any (A : Option Addr) (c n : Nat) (es : List (Int × Int)) (w : World) (he : RdE w w.heap.size A es) (hn : n ≤ 200) (hok : ∀ k, k < es.length → okE n (ed es k) = true) :
    Calls Tryd.prog 32 #[.agg #[.int .i64 (n : Int), .slice A es.length c]] w fun e w' => ∃ A1, e = .returned (.slice A1 n n) ∧ RdUUp w' (fun b => w.heap.size ≤ b) A1 ((List.range n).map (nxt es)) ∧ Below w.heap.size w w' := by
  have hroom := he.room
  obtain ⟨i0, hi, hz0, hz1, hz2⟩ := info_parts Tryd.infoInt
  have hmk1 := run_make_row' (P := Tryd.prog) 111 84 (.slice none 0 0) 24 Tryd.underlying111 Tryd.infoSI rfl .i64 .i64 n (by omega) (by omega)
  have hmk2 := run_make_row' (P := Tryd.prog) 73 77 (.slice none 0 0) 24 Tryd.underlying73 Tryd.infoSU rfl .i64 .i64 n (by omega) (by omega)
  go_enter Tryd.func32, Tryd.ntmps32
  go_wp2_with fail
  have hG := GBox.new w n A es.length c 29
  obtain ⟨w1, hw1⟩ : ∃ w1, w1 = w.alloc (.cells #[.int .i64 (n : Int), .slice A es.length c] 29) := ⟨_, rfl⟩
  have hb1 : Below w.heap.size w w1 := by rw [hw1]; exact (Below.refl _ _).alloc (Nat.le_refl _) _
  have hs1 : w.heap.size + 1 = w1.heap.size := by rw [hw1]; simp
  have hE0 := Ends.new 84 3 w1 w1.heap.size n (Nat.le_refl _)
  obtain ⟨w2, hw2⟩ : ∃ w2, w2 = w1.alloc (.cells (madeCells #[.slice none 0 0] n) 84) := ⟨_, rfl⟩
  have hb2 : Below w1.heap.size w1 w2 := by rw [hw2]; exact (Below.refl _ _).alloc (Nat.le_refl _) _
  rw [← hw1, ← hw2, hs1]
  rw [← hw2] at hE0
  rw [← hw1] at hG
  have he1 : RdE w1 w1.heap.size A es := he.step hb1
  obtain ⟨B, hB⟩ : ∃ B, B = w.heap.size := ⟨_, rfl⟩
  obtain ⟨B1, hB1⟩ : ∃ B1, B1 = w1.heap.size := ⟨_, rfl⟩
  rw [← hB] at hG hs1 ⊢
  rw [← hB1] at he1 hE0 hb2 hs1 ⊢
  have hs1 : B + 1 ≤ B1 := by omega
  have hs2 : B1 ≤ w2.heap.size := by have := hb2.size; omega
  have hG2 : GBox w2 B n A es.length c := hG.below hb2 (by omega)
  have HB1 := Lib.hid hB1
  have HB := Lib.hid hB
  have HG := Lib.hid hG
  clear hw1 hw2 hB hB1 he hG
  have HO := Lib.hid hok
  clear hok
  go_loopw [15] (fun i wr => ∃ k : Nat, k ≤ es.length ∧ i = .int .i64 k ∧ Ends 84 3 wr B1 B1 n (tos (es.take k)) ∧ Below B1 w1 wr) (fun i _ => es.length - (intOf i).toNat)
  case atStart => exact ⟨0, Nat.zero_le _, rfl, hE0, hb2⟩
  case round =>
    obtain ⟨k, hk, rfl, hEn, hbr⟩ := hrel
    clear hE0 hb2 hG2
    by_cases hlt : k < es.length
    · have hoke := HO.out k hlt
      unfold okE at hoke
      rw [Bool.and_eq_true] at hoke
      obtain ⟨o1, o2⟩ := hoke
      replace o1 := nodeB_true o1
      replace o2 := nodeB_true o2
      obtain ⟨x, hx⟩ : ∃ x : Nat, (ed es k).1 = (x : Int) := ⟨(ed es k).1.toNat, by omega⟩
      obtain ⟨y, hy⟩ : ∃ y : Nat, (ed es k).2 = (y : Int) := ⟨(ed es k).2.toNat, by omega⟩
      have hxn : x < n := by omega
      have HT := Lib.hid (tos_take es k x hlt hx)
      have hsz := Nat.le_trans (show B1 ≤ w1.heap.size from Nat.le_of_eq HB1.out) hbr.size
      obtain ⟨b, off, rfl, hb, hc⟩ := he1.rd (by omega)
      have hc1 := (hbr.cell (p := ⟨b, off + k * 2, none⟩) hb).trans (hc k hlt).1
      have hc2 := (hbr.cell (p := ⟨b, off + k * 2 + 1, none⟩) hb).trans (hc k hlt).2
      rw [hx] at hc1
      rw [hy] at hc2
      have HY := Lib.hid hy
      clear hc o1 o2 hx hy
      go_wp2_with fail
      have hX := EBox.new wr x y 56
      obtain ⟨w3, hw3⟩ : ∃ w3, w3 = wr.alloc (.cells #[.int .i64 (x : Int), .int .i64 (y : Int)] 56) := ⟨_, rfl⟩
      have hs3 : w3.heap.size = wr.heap.size + 1 := by rw [hw3]; simp
      have hEn3 : Ends 84 3 w3 B1 B1 n (tos (es.take k)) := by rw [hw3]; exact hEn.alloc _
      have hbr3 : Below B1 w1 w3 := by rw [hw3]; exact hbr.alloc hsz _
      rw [← hw3] at hX ⊢
      have hgl0 := hEn.lt
      have hbk : w3.heap[wr.heap.size]? = some (.cells #[.int .i64 (x : Int), .int .i64 (y : Int)] 56 (0, 0)) := by rw [hw3]; exact heap_alloc_new wr _
      clear hw3 hEn hbr hc1 hc2
      have hl := tos_take_len es k x
      obtain ⟨v, A3, c3, rfl, hcell, hfz, hown, hgl, hng, hnext⟩ := hEn3.at_ (by decide) hxn
      have hx0 : (0 : Int) ≤ (x : Int) := Int.natCast_nonneg _
      have hx1 : (x : Int) < (n : Int) := by omega
      have hex := hX.x
      have hey := hX.y
      obtain ⟨BE, hBE⟩ : ∃ BE, BE = wr.heap.size := ⟨_, rfl⟩
      rw [← hBE] at hex hey hs3 hbk ⊢
      have hBE3 : BE < w3.heap.size := by omega
      have hne : BE ≠ B1 := by omega
      have hnE : (Value.slice A3 (tos (es.take k) x).length c3).ownBlock ≠ some BE := own_ne_blk hown hbk (by decide)
      have HS3 := Lib.hid hs3
      clear hX hBE hs3
      have hfa : ∀ o, (w3.alloc o).frozen? ⟨B1, x, none⟩ = false := fun o => (World.frozen?_alloc_old w3 o ⟨B1, x, none⟩ (Nat.ne_of_lt hgl)).trans hfz
      clear hbk
      have hxa : ∀ o, (w3.alloc o).cell? ⟨BE, 0, none⟩ = some (.int .i64 (x : Int)) := fun o => (World.cell?_alloc_lt w3 o ⟨BE, 0, none⟩ hBE3).trans hex
      have hya : ∀ o, (w3.alloc o).cell? ⟨BE, 1, none⟩ = some (.int .i64 (y : Int)) := fun o => (World.cell?_alloc_lt w3 o ⟨BE, 1, none⟩ hBE3).trans hey
      have hca : ∀ o, (w3.alloc o).cell? ⟨B1, x, none⟩ = some (.slice A3 (tos (es.take k) x).length c3) := fun o => (World.cell?_alloc_lt w3 o ⟨B1, x, none⟩ hgl).trans hcell
      have hin1 : (tos (es.take k) x).length + 1 ≤ maxLen := by unfold maxLen; omega
      have hin2 : ((tos (es.take k) x).length + 1) * 8 ≤ 140737488355328 := by omega
      have hfin : ∀ gg cap w4, w4.ownsRow B1 3 1 (.slice (some ⟨gg, 0, none⟩) ((tos (es.take k) x).length + 1) cap) ((tos (es.take k) x).length + 1) (iVals (tos (es.take k) x) ++ [.int .i64 (y : Int)]) →
          (w3.alloc (.cells #[.int .i64 (y : Int)] 3)).drew.grownBy w4 (Value.slice A3 (tos (es.take k) x).length c3).ownBlock → ((Value.slice A3 (tos (es.take k) x).length c3).ownBlock = some gg ∨ gg = w3.heap.size + 1) →
          Hid (Ends 84 3 (w4.setCell ⟨B1, x, none⟩ (.slice (some ⟨gg, 0, none⟩) ((tos (es.take k) x).length + 1) cap)) B1 B1 n (tos (es.take (k + 1))) ∧ Below B1 w1 (w4.setCell ⟨B1, x, none⟩ (.slice (some ⟨gg, 0, none⟩) ((tos (es.take k) x).length + 1) cap))) := fun gg cap w4 h1 h2 h3 => by
        refine Lib.hid ⟨?_, ?_⟩
        · rw [HT.out, HY.out]
          exact hnext _ y _ w4 h1 h2 (fun b hb => by
            obtain rfl : gg = b := by simpa [Value.ownBlock] using hb
            exact h3)
        · refine Below.setCell (p := ⟨B1, x, none⟩) (((hbr3.alloc (by omega) _).drew).grown h2 (by simp; omega) (own_base hown)) (Nat.le_refl _) _
      have HFIN := Lib.hid hfin
      clear hfin hnext
      go_region_law
        ((refine step_append_lies _ (by rfl) _ _ _ (by rfl) B1 3 i0 _ 1 8 Tryd.underlying84 hi hz0 hz1 hz2 rfl (by omega) (.slice A3 (tos (es.take k) x).length c3) (tos (es.take k) x).length (iVals (tos (es.take k) x)) (by rfl) ((hown.alloc _).drew)
            ⟨w3.heap.size, 0, none⟩ 1 1 [.int .i64 (y : Int)] (by rfl) (by rfl) (World.news_of_block (cs := #[.int .i64 (y : Int)]) (t := 3) (fr := (0, 0)) (heap_alloc_new w3 _)) (by simp [Value.oneCell'])
            (by omega) hin1 hin2 (by simp; omega) (w3.heap.size + 1) (by simp) ?_; intro gg cap w4 hown1 hgrow hat hlt'; have hc4 := (hgrow.cell_far ⟨B1, x, none⟩ (by simp; omega) (Ne.symm hng)).trans (hca _); have hf4 := (hgrow.frozen_far ⟨B1, x, none⟩ (by simp; omega) (Ne.symm hng)).trans (hfa _); have hx4 := (hgrow.cell_far ⟨BE, 0, none⟩ (by simp; omega) (Ne.symm hnE)).trans (hxa _); have hy4 := (hgrow.cell_far ⟨BE, 1, none⟩ (by simp; omega) (Ne.symm hnE)).trans (hya _); have HF := HFIN.out _ _ _ hown1 hgrow hat))
      all_goals
        go_wp2
        go_roundw
        case rel => exact ⟨k + 1, by omega, by go_num, HF.out.1, HF.out.2⟩
        case measure => simp [intOf]; omega
    · obtain rfl : k = es.length := by omega
      rw [List.take_length] at hEn
      have hGr := HG.out.below hbr (by omega)
      have hgn := hGr.n
      have hge := hGr.e
      have hwr : w1.heap.size ≤ wr.heap.size := hbr.size
      go_wp2_with fail
      have hU0 := OwnUU.new 77 wr wr.heap.size n (Nat.le_refl _)
      obtain ⟨w5, hw5⟩ : ∃ w5, w5 = wr.alloc (.cells (madeCells #[.slice none 0 0] n) 77) := ⟨_, rfl⟩
      have hb5 : Below wr.heap.size wr w5 := by rw [hw5]; exact (Below.refl _ _).alloc (Nat.le_refl _) _
      rw [← hw5] at hU0 ⊢
      have hR := hEn.rd (by omega) fun i hi => ⟨Nat.le_trans (tos_len es i) (by omega), fun k => tos_in es n HO.out i k hn⟩
      obtain ⟨gn, hgn2⟩ : ∃ gn, gn = wr.heap.size := ⟨_, rfl⟩
      rw [← hgn2] at hU0 hb5 hR ⊢
      have HGN := Lib.hid hgn2
      clear hw5 hgn hge hGr hEn hk hlt hgn2
      obtain ⟨wo, rfl⟩ : ∃ wo : World, wo = wr := ⟨_, rfl⟩
      go_loopw [38] (fun i W => ∃ k : Nat, k ≤ n ∧ i = .int .i64 k ∧ OwnUU 77 W gn gn n (fun j => if j < k then nxt es j else []) ∧ Below gn wo W) (fun i _ => n - (intOf i).toNat)
      case atStart => exact ⟨0, Nat.zero_le _, rfl, by simpa using hU0, hb5⟩
      case round =>
        obtain ⟨k, hk, rfl, hU, hbW⟩ := hrel
        clear hU0 hb5
        by_cases hlt : k < n
        · obtain ⟨A6, c6, hg6, hcell, hri⟩ := hR.at0 (k := k) (by simpa using hlt)
          rw [show ((List.range n).map (tos es)).getD k [] = tos es k by simp [List.getD, hlt]] at hcell hri
          have hgW : gn ≤ wr.heap.size := Nat.le_trans (Nat.le_of_eq HGN.out) hbW.size
          have hcW : wr.cell? ⟨B1, k, none⟩ = some (.slice A6 (tos es k).length c6) := (hbW.cell (p := ⟨B1, k, none⟩) hg6).trans hcell
          have hrW := (hri.below hbW).more hgW
          clear hcell hri
          go_wp2_with fail
          refine (of_own _ _ _ _ hrW).mono ?_
          rintro e w6 ⟨A7, c7, rfl, hr7, hb7⟩
          have hU6 := hU.step hb7
          obtain ⟨A8, c8, hc8, hf8, _⟩ := hU6.cell hlt
          have hU7 := hU6.set (i := k) (c' := c7) (hr7.imp fun b hb => Nat.le_trans hgW hb)
          have hb6 : Below gn wo (w6.setCell ⟨gn, k, none⟩ (.slice A7 (ofS (tos es k)).length c7)) := (hbW.trans (hb7.mono hgW)).setCell (p := ⟨gn, k, none⟩) (Nat.le_refl _) _
          clear hU hU6 hr7 hb7 hbW hrW hcW
          have he7 : (fun j => if j = k then ofS (tos es k) else if j < k then nxt es j else []) = (fun j => if j < k + 1 then nxt es j else []) := by
            funext j
            by_cases e1 : j = k
            · subst e1
              rw [if_pos rfl, if_pos (by omega)]; rfl
            · rw [if_neg e1]
              by_cases e2 : j < k
              · rw [if_pos e2, if_pos (by omega)]
              · rw [if_neg e2, if_neg (by omega)]
          rw [he7] at hU7
          clear he7
          go_wp2
          go_roundw
          case rel => exact ⟨k + 1, by omega, by go_num, hU7, hb6⟩
          case measure => simp [intOf]; omega
        · obtain rfl : k = n := by omega
          go_wp2
          go_ret
          have hx := hU.rd (by omega)
          have he8 : (List.range k).map (fun j => if j < k then nxt es j else []) = (List.range k).map (nxt es) := by
            refine List.map_congr_left fun j hj => ?_
            rw [if_pos (List.mem_range.1 hj)]
          rw [he8] at hx
          refine ⟨_, rfl, hx.imp fun b hb => Nat.le_trans ?_ hb, hb1.trans ((hbr.mono ?_).trans (hbW.mono ?_))⟩
          · have h1 := HGN.out
            have h2 := hbr.size
            have h3 := hb1.size
            omega
          · have := HB.out; omega
          · have h1 := HB1.out
            have h2 := HGN.out
            have h3 := HB.out
            have h4 := hb1.size
            omega
end Go.Proofs.YtafdpimkfkddaaaDoor

namespace Go.Proofs.YtafdpimkfkddaaaDoor
open Go.RowKit Go.Shelf
set_option maxRecDepth 100000

attribute [local go_sem] Oper.semAt_some

/-- an edge of a graph of n nodes -/
abbrev Ed (n : Nat) := { p : Nat × Nat // p.1 < n ∧ p.2 < n }
def edVals {n : Nat} (l : List (Ed n)) : List (Nat × Nat) := l.map Subtype.val
theorem edVals_snoc {n : Nat} (l : List (Ed n)) (x : Ed n) : edVals (l ++ [x]) = edVals l ++ [x.1] := by simp [edVals]
theorem edVals_len {n : Nat} (l : List (Ed n)) : (edVals l).length = l.length := by simp [edVals]

/-- the numbers of a set -/
def mem (xs : List Nat) : List Nat := nums xs (64 * xs.length)
/-- the edges from the first k nodes -/
def elist (xss : List (List Nat)) (k : Nat) : List (Nat × Nat) := (List.range k).flatMap fun i => (mem (st xss i)).map fun j => (i, j)
theorem elist_succ (xss : List (List Nat)) (k : Nat) : elist xss (k + 1) = elist xss k ++ (mem (st xss k)).map fun j => (k, j) := by
  unfold elist; rw [List.range_succ, List.flatMap_append]; simp

theorem edges_in (n : Nat) (a : Option Addr) (len cap : Nat) (w : World) :
    CallsIn Fence.wide n Tryd.prog 36 #[.slice a len cap] w fun e w' => e = .returned (.func (.func 45) #[] #[.pointer (some ⟨w.heap.size, 0, none⟩)]) ∧ w' = w.alloc (.cells #[.slice a len cap] 73) := by
  refine callsIn_of_wp Tryd.func36 rfl trivial ?_ rfl
  simp only [Tryd.ntmps36, List.size_toArray, List.length_cons, List.length_nil, Nat.reduceAdd, Nat.reduceSub, Array.replicate_succ, Array.replicate_zero, List.push_toArray, List.append_toArray, List.nil_append, List.cons_append]
  gi_wp2
  go_ret
  exact ⟨rfl, rfl⟩

/-- where an iterator that was entered in W stands: what it reads lies as it lay; what the body owns is the body's or new -/
structure ItInv (Fp O : Nat → Prop) (W : World) (O2 : Nat → Prop) (wr : World) : Prop where
  keeps : Keeps Fp W wr
  own : ∀ b, O2 b → O b ∨ W.heap.size ≤ b
  top : ∀ b, O2 b → b < wr.heap.size
theorem ItInv.start {Fp O : Nat → Prop} {W : World} (h : ∀ k, O k → k < W.heap.size ∧ ¬ Fp k) : ItInv Fp O W O W := ⟨Keeps.refl _ _, fun _ h => .inl h, fun k hk => (h k hk).1⟩
theorem ItInv.not {Fp O O2 : Nat → Prop} {W wr : World} (h : ItInv Fp O W O2 wr) (hO : ∀ k, O k → k < W.heap.size ∧ ¬ Fp k) (hF : ∀ k, Fp k → k < W.heap.size) {b : Nat} (hb : Fp b) : ¬ O2 b := fun h2 => by
  rcases h.own b h2 with h3 | h3
  · exact (hO b h3).2 hb
  · have := hF b hb; omega
theorem ItInv.step {Fp O O2 O3 : Nat → Prop} {W wr W' : World} (h : ItInv Fp O W O2 wr) (hO : ∀ k, O k → k < W.heap.size ∧ ¬ Fp k) (hF : ∀ k, Fp k → k < W.heap.size) (hs : StepO O2 O3 wr W') : ItInv Fp O W O3 W' :=
  ⟨h.keeps.trans (hs.keeps.mono fun k _ hk => h.not hO hF hk), fun b hb => by
    rcases hs.own b hb with h3 | h3
    · exact h.own b h3
    · exact .inr (Nat.le_trans h.keeps.size h3), hs.top⟩
theorem ItInv.below {Fp O O2 : Nat → Prop} {W wr W' : World} (h : ItInv Fp O W O2 wr) (hb : Below wr.heap.size wr W') : ItInv Fp O W O2 W' :=
  ⟨h.keeps.trans (Keeps.of_below hb fun _ hk _ => hk), h.own, fun b hb' => Nat.lt_of_lt_of_le (h.top b hb') hb.size⟩
theorem stable_below {β : Type} {B : Nat} {J : β → (Nat → Prop) → World → Prop} (hJ : Stable B J) {s : β} {O2 : Nat → Prop} {wr W' : World} (h : J s O2 wr) (hb : Below wr.heap.size wr W') : J s O2 W' :=
  hJ s O2 wr W' h (Keeps.of_below hb fun _ hk _ => hk)

theorem Tab.keeps {p : Nat → Prop} {w w' : World} (h : Tab w) (hk : Keeps p w w') (hp : p 0) : Tab w' := fun j hj => (World.cell?_of_block (hk.block _ h.pos hp)).trans (h j hj)
theorem mem_len (xs : List Nat) (h : xs.length ≤ 1024) : (mem xs).length ≤ 65536 := by
  have := nums_len xs (64 * xs.length)
  unfold mem
  omega
theorem elist_len (xss : List (List Nat)) (m : Nat) (h : ∀ k, k < m → (st xss k).length ≤ 1024) (k : Nat) (hk : k ≤ m) : (elist xss k).length ≤ k * 65536 := by
  induction k with
  | zero => simp [elist]
  | succ k ih =>
    rw [elist_succ, List.length_append, List.length_map]
    have h1 := ih (by omega)
    have h2 := mem_len _ (h k (by omega))
    omega
theorem mem_bit {xs : List Nat} {j : Nat} (h : j ∈ mem xs) : bitB xs j = true := by
  unfold mem nums at h; exact (List.mem_filter.1 h).2

theorem list_own (n : Nat) (hn : 3 ≤ n) (A : Option Addr) (c : Nat) (xs : List Nat) (w : World) (hx : RdU w w.heap.size A xs) (hroom : xs.length ≤ 1048576) (hT : Tab w) :
    CallsIn Fence.wide n Tryd.prog 44 #[.slice A xs.length c] w fun e w' => ∃ A1 c1, e = .returned (.slice A1 (mem xs).length c1) ∧ w'.ownsRow w.heap.size 3 1 (.slice A1 (mem xs).length c1) (mem xs).length (iVals (toI (mem xs))) ∧ Below w.heap.size w w' :=
  (list_in n hn A c xs w hx hroom hT).mono fun e w' ⟨v, he, hown, hb⟩ => by
    have e1 : alist xs (64 * xs.length) = toI (mem xs) := rfl
    rw [e1, toI_len] at hown
    obtain ⟨A1, c1, rfl⟩ := own_any hown
    exact ⟨A1, c1, he, hown, hb⟩
theorem zd_toI (L : List Nat) (t : Nat) (h : t < L.length) : ∃ x : Nat, zd (toI L) t = (x : Int) ∧ L[t]? = some x := ⟨L[t], by unfold zd toI; simp [List.getD, h], by simp [h]⟩
theorem take_at (L : List Nat) (t x : Nat) (h : L[t]? = some x) : L.take (t + 1) = L.take t ++ [x] := by
  obtain ⟨h1, h2⟩ := List.getElem?_eq_some_iff.1 h
  rw [List.take_succ_eq_append_getElem h1, h2]

set_option maxHeartbeats 2000000 in
theorem edges1_in (n : Nat) (hn : 4 ≤ n) (m : Nat) (hm : m ≤ 200) (Bs c : Nat) (p : Nat → Prop) (A : Option Addr) (xss : List (List Nat)) (hl : xss.length = m) (w : World) (hx : RdUUp w p A xss) (hpl : ∀ b, p b → b < w.heap.size)
    (hc : w.cell? ⟨Bs, 0, none⟩ = some (.slice A m c)) (hBs : Bs < w.heap.size) (hbits : ∀ k, k < m → ∀ j, bitB (st xss k) j = true → j < m) (hroom : ∀ k, k < m → (st xss k).length ≤ 1024) (hT : Tab w) :
    SeqO Fence.wide n Tryd.prog 45 #[.pointer (some ⟨Bs, 0, none⟩)] (fun x : Ed m => #[Value.agg #[.int .i64 (x.1.1 : Int), .int .i64 (x.1.2 : Int)]]) (fun b => p b ∨ b = Bs ∨ b = 0)
      (fun ys => edVals ys = elist xss m) (fun _ => True) (fun pre _ => pre.length < m * 65536) w := by
  have h1 : 1 ≤ n := by omega
  intro l J Jx O W hkW hO hJ hJx hY h0
  have hTp := hT.pos
  have hF : ∀ k, (p k ∨ k = Bs ∨ k = 0) → k < W.heap.size := fun k hk => by
    have := hkW.size
    rcases hk with hk | hk | hk
    · have := hpl k hk; omega
    · omega
    · omega
  have hcW : W.cell? ⟨Bs, 0, none⟩ = some (.slice A m c) := (World.cell?_of_block (hkW.block Bs hBs (.inr (.inl rfl)))).trans hc
  have hxW := hx.keeps hkW (fun b hb => .inl hb)
  have hTW := hT.keeps hkW (.inr (.inr rfl))
  clear hx hc hT hkW
  refine callsIn_of_wp Tryd.func45 rfl trivial ?_ rfl
  simp only [Tryd.ntmps45, List.size_toArray, List.length_cons, List.length_nil, Nat.reduceAdd, Nat.reduceSub, Array.replicate_succ, Array.replicate_zero, List.push_toArray, List.append_toArray, List.nil_append, List.cons_append]
  gi_wp2
  have HL := Lib.hid hl
  clear hl hcW
  gi_loopw [9] (fun i wr => ∃ k : Nat, k ≤ m ∧ i = .int .i64 k ∧ ∃ ys O2, Hid (edVals ys = elist xss k) ∧ J ys O2 wr ∧ ItInv (fun b => p b ∨ b = Bs ∨ b = 0) O W O2 wr) (fun i _ => m - (intOf i).toNat)
  case atStart => exact ⟨0, Nat.zero_le _, rfl, [], O, Lib.hid rfl, h0, ItInv.start hO⟩
  case round =>
    obtain ⟨k, hk, rfl, ys, O2, hys, hJ2, hI2⟩ := hrel
    by_cases hlt : k < m
    · obtain ⟨b, off, A2, c2, rfl, hb, hcr, hs⟩ := (hxW.keeps hI2.keeps (fun b hb => .inl hb)).at_ (k := k) (by rw [HL.out]; exact hlt)
      have hsr : RdU wr wr.heap.size A2 (st xss k) := hs.toU
      have hTr := hTW.keeps hI2.keeps (.inr (.inr rfl))
      clear hs
      have hbk := fun j hj => hbits k hlt j (mem_bit hj)
      have hmlen := mem_len _ (hroom k hlt)
      have helen := elist_len xss m hroom k hk
      gi_wp2_with (refine ⟨trivial, ?_⟩; refine (list_own (n - 1) (by omega) _ _ _ _ hsr (Nat.le_trans (hroom k hlt) (by omega)) hTr).mono ?_; rintro e wl ⟨A3, c3, rfl, hown, hbl⟩)
      gi_wp2
      obtain ⟨L, hL⟩ : ∃ L, L = mem (st xss k) := ⟨_, rfl⟩
      rw [← hL] at hbk hmlen hown ⊢
      have hJl := stable_below hJ hJ2 hbl
      have hIl := hI2.below hbl
      have hgl : ∀ g, (Value.slice A3 L.length c3).ownBlock = some g → g < wl.heap.size ∧ ¬ O2 g := fun g hg => by
        rcases hown.2 with ⟨h0, _⟩ | ⟨g', cap, cur, h0, hb0, hh, _⟩
        · rw [h0] at hg; simp [Value.ownBlock] at hg
        · rw [h0] at hg
          obtain rfl : g' = g := by simpa [Value.ownBlock] using hg
          exact ⟨(Array.getElem?_eq_some_iff.1 hh).1, fun ho => by have := hI2.top g' ho; omega⟩
      have HLm := Lib.hid hL
      have hysl : Hid (ys.length = (elist xss k).length) := Lib.hid (by have := edVals_len ys; rw [hys.out] at this; exact this.symm)
      clear hcr hsr hTr hL hJ2 hI2 hbl
      gi_loopw [17] (fun i wr2 => ∃ t : Nat, t ≤ L.length ∧ i = .int .i64 t ∧ ∃ ys2 O3, Hid (edVals ys2 = elist xss k ++ (L.take t).map fun j => (k, j)) ∧ J ys2 O3 wr2 ∧ ItInv (fun b => p b ∨ b = Bs ∨ b = 0) O W O3 wr2 ∧
          (∀ g, (Value.slice A3 L.length c3).ownBlock = some g → wr2.heap[g]? = wl.heap[g]? ∧ g < wr2.heap.size ∧ ¬ O3 g)) (fun i _ => L.length - (intOf i).toNat)
      case atStart => exact ⟨0, Nat.zero_le _, rfl, ys, O2, Lib.hid (by rw [hys.out]; simp), hJl, hIl, fun g hg => ⟨rfl, hgl g hg⟩⟩
      case round =>
        clear hJl hIl hgl
        obtain ⟨t, ht, rfl, ys2, O3, hys2, hJ3, hI3, hg3⟩ := hrel
        by_cases htl : t < L.length
        · obtain ⟨g, cap, hA3, _, _⟩ := own_shape hown (by omega)
          obtain ⟨hgs, hgt, hgo⟩ := hg3 g (by rw [hA3]; rfl)
          injection hA3 with hA3 _ hc3
          subst hA3
          subst hc3
          obtain ⟨x, hx1, hx2⟩ := zd_toI L t htl
          have hxm : x < m := hbk x (by obtain ⟨h1, h2⟩ := List.getElem?_eq_some_iff.1 hx2; rw [← h2]; exact List.getElem_mem h1)
          have hcg : wr.cell? ⟨g, t, none⟩ = some (.int .i64 (x : Int)) := by
            rw [World.cell?_of_block hgs, hown.cellAt t (by omega), iVals_at _ _ (by rw [toI_len]; exact htl), hx1]
          have hlen : ys2.length < m * 65536 := by
            have e1 := edVals_len ys2
            rw [hys2.out, List.length_append, List.length_map, List.length_take] at e1
            have e2 : (k + 1) * 65536 ≤ m * 65536 := Nat.mul_le_mul_right _ hlt
            omega
          have HX := Lib.hid hx2
          clear hx1 hx2 hgs
          obtain ⟨fn, tmps, assign, body, hy, hR⟩ := hY ys2 ⟨(k, x), hlt, hxm⟩ O3 wr hJ3 hlen
          gi_wp2
          refine hR.mono ?_
          rintro e W3 ⟨O4, hs4, (⟨rfl, hJ4⟩ | ⟨rfl, hJx4⟩)⟩
          · have hI4 := hI3.step hO hF hs4
            have hg4 : ∀ g', (Value.slice (some ⟨g, 0, none⟩) L.length c3).ownBlock = some g' → W3.heap[g']? = wl.heap[g']? ∧ g' < W3.heap.size ∧ ¬ O4 g' := fun g' hg' => by
              obtain ⟨q1, q2, q3⟩ := hg3 g' hg'
              exact ⟨(hs4.keeps.block g' q2 q3).trans q1, Nat.lt_of_lt_of_le q2 hs4.keeps.size, hs4.not q2 q3⟩
            have hys4 : Hid (edVals (ys2 ++ [⟨(k, x), hlt, hxm⟩]) = elist xss k ++ (L.take (t + 1)).map fun j => (k, j)) := Lib.hid (by rw [edVals_snoc, hys2.out, take_at L t x HX.out]; simp)
            gi_wp2
            go_roundw
            case rel => exact ⟨t + 1, by omega, by simp, _, O4, hys4, hJ4, hI4, hg4⟩
            case measure => simp [intOf]; omega
          · gi_wp2
            refine bodyPost_ret (results_none rfl _ _ _) rfl ?_
            exact ⟨⟨_, rfl⟩, .inr ⟨_, _, trivial, hJx4⟩⟩
        · obtain rfl : t = L.length := by omega
          have hys5 : Hid (edVals ys2 = elist xss (k + 1)) := Lib.hid (by rw [hys2.out, List.take_length, elist_succ, ← HLm.out])
          gi_wp2
          go_roundw
          case rel => exact ⟨k + 1, by omega, by simp, ys2, O3, hys5, hJ3, hI3⟩
          case measure => simp [intOf]; omega
    · obtain rfl : k = m := by omega
      gi_wp2
      go_end0
      exact ⟨⟨_, rfl⟩, .inl ⟨ys, O2, hys.out, hJ2⟩⟩
end Go.Proofs.YtafdpimkfkddaaaDoor

namespace Go.Proofs.YtafdpimkfkddaaaDoor
open Go.RowKit Go.Shelf
set_option maxRecDepth 100000

attribute [local go_sem] Oper.semAt_some

/-- how many of the edges lead to j -/
def cntTo (l : List (Nat × Nat)) (j : Nat) : Nat := l.countP fun e => decide (e.2 = j)
theorem cntTo_snoc (l : List (Nat × Nat)) (i x : Nat) : cntTo (l ++ [(i, x)]) = fun j => if j = x then cntTo l x + 1 else cntTo l j := by
  funext j
  unfold cntTo
  rw [List.countP_append]
  by_cases e : j = x
  · subst e; simp
  · have : ¬ x = j := fun h => e h.symm
    simp [e, this]
theorem cntTo_le (l : List (Nat × Nat)) (j : Nat) : cntTo l j ≤ l.length := List.countP_le_length

theorem rowIs_keeps {p : Nat → Prop} {w w' : World} {g t m : Nat} {f : Nat → Value} (h : w.rowIs g t m f) (hk : Keeps p w w') (hg : p g) : w'.rowIs g t m f := h.of_block (hk.block g h.lt hg)
theorem boxed_keeps {p : Nat → Prop} {w w' : World} {B t : Nat} {v : Value} (h : Boxed w B t v) (hk : Keeps p w w') (hg : p B) : Boxed w' B t v := (hk.block B h.lt hg).trans h
theorem below_keeps {p : Nat → Prop} {w0 w w' : World} {n : Nat} (h : Below n w0 w) (hk : Keeps p w w') (hn : n ≤ w.heap.size) (hp : ∀ k, k < n → p k) : Below n w0 w' := h.trans (hk.below hn hp)

theorem EBox.keeps {p : Nat → Prop} {w w' : World} {q : Nat} {x y : Int} (h : EBox w q x y) (hk : Keeps p w w') (hp : p q) : EBox w' q x y := by
  have hlt := World.block_lt_of_cell? w _ h.x
  exact ⟨(World.cell?_of_block (hk.block q hlt hp)).trans h.x, (World.cell?_of_block (hk.block q hlt hp)).trans h.y⟩

theorem boxed_set {W : World} {B t : Nat} {v : Value} (h : Boxed W B t v) {p : Addr} (hne : B ≠ p.block) (u : Value) : Boxed (W.setCell p u) B t v := (Below.heap_setCell W p u B hne).trans h
theorem rowIs_putObj {W : World} {g t m D : Nat} {f : Nat → Value} (h : W.rowIs g t m f) (hne : g ≠ D) (o : Obj) : (W.putObj D o).rowIs g t m f := h.of_block (World.putObj_heap_other hne)

/-- what holds between two rounds of predecessors' loop -/
structure PreI (T E : TypeId) (w0 : World) (Bc gc m : Nat) (l : List (Nat × Nat)) (O : Nat → Prop) (W : World) : Prop where
  own : O gc
  row : W.rowIs gc E m (fun j => .int .i64 (cntTo l j : Int))
  box : Boxed W Bc T (.slice (some ⟨gc, 0, none⟩) m m)
  below : Below w0.heap.size w0 W

theorem PreI.keeps {T E : TypeId} {w0 : World} {Bc gc m B : Nat} {l : List (Nat × Nat)} {O : Nat → Prop} {W W' : World} (h : PreI T E w0 Bc gc m l O W) (hk : Keeps (fun k => k < B ∨ O k) W W') (h1 : w0.heap.size ≤ B) (h2 : Bc < B) : PreI T E w0 Bc gc m l O W' :=
  ⟨h.own, rowIs_keeps h.row hk (.inr h.own), boxed_keeps h.box hk (.inl h2), below_keeps h.below hk h.below.size (fun _ hk => .inl (Nat.lt_of_lt_of_le hk h1))⟩

set_option maxHeartbeats 2000000 in
theorem predecessors_in (n : Nat) (hn : 6 ≤ n) (m : Nat) (hm : m ≤ 200) (A : Option Addr) (c : Nat) (xss : List (List Nat)) (hl : xss.length = m) (w : World) (hx : RdUU w w.heap.size A xss)
    (hbits : ∀ k, k < m → ∀ j, bitB (st xss k) j = true → j < m) (hroom : ∀ k, k < m → (st xss k).length ≤ 1024) (hT : Tab w) :
    CallsIn Fence.wide n Tryd.prog 48 #[.slice A m c] w fun e w' => ∃ g, e = .returned (.slice (some ⟨g, 0, none⟩) m m) ∧ w.heap.size ≤ g ∧ w'.rowIs g 3 m (fun j => .int .i64 (cntTo (elist xss m) j : Int)) ∧ Below w.heap.size w w' := by
  have h1 : 1 ≤ n := by omega
  have hmk := run_make_row' (P := Tryd.prog) 84 3 (.int .i64 0) 8 Tryd.underlying84 Tryd.infoInt rfl .i64 .i64 m (by omega) (by omega)
  refine callsIn_of_wp_marks Tryd.func48 rfl trivial ?_ rfl
  simp only [Tryd.ntmps48, List.size_toArray, List.length_cons, List.length_nil, Nat.reduceAdd, Nat.reduceSub, Array.replicate_succ, Array.replicate_zero, List.push_toArray, List.append_toArray, List.nil_append, List.cons_append]
  gi_wp2_with (refine ⟨trivial, ?_⟩; refine (edges_in (n - 1) _ _ _ _).mono ?_; rintro e w' ⟨rfl, rfl⟩)
  have hr0 := ((World.rowIs_made w (.int .i64 0) m 3).alloc (.cells #[.slice (some ⟨w.heap.size, 0, none⟩) m m] 84)).alloc (.cells #[.slice A m c] 73)
  have hb0 := (Boxed.new (w.alloc (.cells (madeCells #[.int .i64 0] m) 3)) 84 (.slice (some ⟨w.heap.size, 0, none⟩) m m)).alloc (.cells #[.slice A m c] 73)
  have hh0 := Boxed.new ((w.alloc (.cells (madeCells #[.int .i64 0] m) 3)).alloc (.cells #[.slice (some ⟨w.heap.size, 0, none⟩) m m] 84)) 73 (.slice A m c)
  obtain ⟨w3, hw3⟩ : ∃ w3, w3 = ((w.alloc (.cells (madeCells #[.int .i64 0] m) 3)).alloc (.cells #[.slice (some ⟨w.heap.size, 0, none⟩) m m] 84)).alloc (.cells #[.slice A m c] 73) := ⟨_, rfl⟩
  have hs3 : w3.heap.size = w.heap.size + 3 := by rw [hw3]; simp
  have hb3 : Below w.heap.size w w3 := by rw [hw3]; exact (((Below.refl _ _).alloc (Nat.le_refl _) _).alloc (by simp) _).alloc (by simp; omega) _
  rw [World.size_alloc] at hb0
  rw [World.size_alloc, World.size_alloc] at hh0
  rw [← hw3] at hr0 hb0 hh0 ⊢
  have hx3 := hx.below hb3
  have hT3 := hT.step hb3
  have hTn := hT.pos
  obtain ⟨gc, hgc⟩ : ∃ gc, gc = w.heap.size := ⟨_, rfl⟩
  rw [← hgc] at hr0 hb0 hh0 hs3 hx3 hTn ⊢
  have HGC := Lib.hid hgc
  have HS3 := Lib.hid hs3
  have hs3' : gc + 2 < w3.heap.size := by omega
  have hx0 := hx
  clear hw3 hx hT hmk hgc hs3
  have hI0 : PreI 84 3 w (gc + 1) gc m [] (fun k => k = gc) w3 := ⟨rfl, hr0.congr fun i hi => by simp [cntTo], hb0, hb3⟩
  refine wpIn_rangeFunc_O rfl h1 (gf := 45) (lb := #[.pointer (some ⟨gc + 1 + 1, 0, none⟩)]) rfl trivial (enters_of Tryd.func45 (by kernel_rfl) rfl)
    (edges1_in (n - 1) (by omega) m hm (gc + 1 + 1) c (fun b => b < gc) A xss hl w3 hx3.toP (fun b hb => by omega) hh0.cell (by omega) hbits hroom hT3) (Keeps.refl _ _) (fun _ => rfl)
    (fun ys O W => PreI 84 3 w (gc + 1) gc m (edVals ys) O W) (fun _ _ _ _ => False)
    ?stab (fun _ _ _ _ _ h _ => h.elim) (fun k => k = gc) (fun k hk => by subst hk; exact ⟨by omega, fun h => by rcases h with h | h | h <;> omega⟩) (fun k hk => by rcases hk with h | h | h <;> omega) hI0
    (fun pre x a' O W => PreI 84 3 w (gc + 1) gc m (edVals pre) O W ∧ ∃ q, O q ∧ q ≠ gc ∧ EBox W q x.1.1 x.1.2 ∧ a' = { tmps := #[.slice A m c, undef, .slice none 0 0, .pointer (some ⟨gc + 1, 0, none⟩), .pointer (some ⟨q, 0, none⟩), .slice A m c, .int .i64 (m : Int), .slice (some ⟨gc, 0, none⟩) m m, .slice A m c, .func (.func 45) #[] #[.pointer (some ⟨gc + 1 + 1, 0, none⟩)], .agg #[.int .i64 (x.1.1 : Int), .int .i64 (x.1.2 : Int)], undef, undef, undef, undef, undef, undef, undef, undef], defers := [] })
    ?stabx ?assign ?body ?done ?stop
  case stab =>
    intro s O W W' h hk
    exact h.keeps hk hb3.size (by omega)
  case stabx =>
    rintro pre x a' s O W W' ⟨h, q, hq, hne, hE, ha⟩ hk
    exact ⟨h.keeps hk hb3.size (by omega), q, hq, hne, hE.keeps hk (.inr hq), ha⟩
  case assign =>
    intro l pre x O W K hI hlen hsz htop hK
    have hE := EBox.new W x.1.1 x.1.2 56
    have hgl := hI.row.lt
    clear hI0 hr0 hb0 hh0
    gi_wp2
    refine hK _ (fun k => k = gc ∨ k = W.heap.size) _ ⟨(Keeps.refl _ W).alloc _, fun k hk => ?_, fun k hk => by simp; omega⟩ ⟨⟨.inl rfl, hI.row.alloc _, hI.box.alloc _, hI.below.alloc hI.below.size _⟩, W.heap.size, .inr rfl, by omega, hE, rfl⟩
    rcases hk with rfl | rfl
    · exact .inl hI.own
    · exact .inr (Nat.le_refl _)
  case body =>
    rintro l pre x a' O W ⟨hI, q, hq, hne, hE, rfl⟩ hlen hsz htop
    replace hlen : pre.length < m * 65536 := hlen
    have hcB := hI.box.cell
    have hcx := hE.x
    have hcy := hE.y
    have hrx := hI.row.cell x.2.2
    have hfx := hI.row.frozen x.1.2
    have hle := cntTo_le (edVals pre) x.1.2
    rw [edVals_len] at hle
    have hm2 : m * 65536 ≤ 13107200 := by omega
    have hx2 := x.2.2
    have hql := World.block_lt_of_cell? W _ hcx
    clear hI0 hr0 hb0 hh0
    gi_wp2
    refine ⟨fun k => k = gc, ⟨(Keeps.refl _ W).setCell (q := ⟨gc, x.1.2, none⟩) (fun _ h => h hI.own) _, fun k hk => .inl (by rw [hk]; exact hI.own), fun k hk => by rw [hk]; simpa using htop gc hI.own⟩, rfl, ?_, boxed_set hI.box (by simp) _, hI.below.setCell (p := ⟨gc, x.1.2, none⟩) (Nat.le_of_eq HGC.out.symm) _⟩
    refine (hI.row.set x.1.2 _).congr fun j hj => ?_
    rw [edVals_snoc, show x.1 = (x.1.1, x.1.2) from rfl, cntTo_snoc]
    by_cases e : j = x.1.2
    · simp [e]
    · simp [e]
  case done =>
    rintro D O xs W hD hOD hxs hI hK
    have hc := hI.box.cell
    clear hI0 hr0 hb0 hh0
    have HXS := Lib.hid hxs
    clear hxs
    gi_wp2
    refine ⟨by simp, .inl ⟨_, _, rfl, run_takeDeferred hK, ?_⟩⟩
    refine ⟨_, results_tmp rfl _ _ _, gc, rfl, Nat.le_of_eq HGC.out.symm, ?_, hI.below.trans (belowK_b (w := w) (Nat.le_refl _) W D _ _ (by have := HGC.out; omega) hK rfl rfl)⟩
    have hr := hI.row
    rw [HXS.out] at hr
    exact rowIs_putObj hr (by omega) _
  case stop =>
    rintro D c' O pre W _ _ _ h _
    exact h.elim
end Go.Proofs.YtafdpimkfkddaaaDoor

namespace Go.Proofs.YtafdpimkfkddaaaDoor

/-- a path of at least one edge -/
inductive Path (R : Nat → Nat → Bool) : Nat → Nat → Prop
  | one {a b : Nat} : R a b = true → Path R a b
  | step {a b c : Nat} : R a b = true → Path R b c → Path R a c
theorem Path.trans {R : Nat → Nat → Bool} {a b c : Nat} (h : Path R a b) (k : Path R b c) : Path R a c := by
  induction h with
  | one h => exact .step h k
  | step h _ ih => exact .step h (ih k)
theorem Path.lt1 {R : Nat → Nat → Bool} {N a b : Nat} (hR : ∀ i j, R i j = true → i < N ∧ j < N) (h : Path R a b) : a < N := by
  cases h with
  | one h => exact (hR _ _ h).1
  | step h _ => exact (hR _ _ h).1
theorem Path.lt2 {R : Nat → Nat → Bool} {N a b : Nat} (hR : ∀ i j, R i j = true → i < N ∧ j < N) (h : Path R a b) : b < N := by
  induction h with
  | one h => exact (hR _ _ h).2
  | step _ _ ih => exact ih
theorem Path.congr {R Q : Nat → Nat → Bool} (h : ∀ i j, R i j = true → Q i j = true) {a b : Nat} (p : Path R a b) : Path Q a b := by
  induction p with
  | one e => exact .one (h _ _ e)
  | step e _ ih => exact .step (h _ _ e) ih
theorem Path.into {R Q : Nat → Nat → Bool} (h : ∀ i j, R i j = true → Path Q i j) {a b : Nat} (p : Path R a b) : Path Q a b := by
  induction p with
  | one e => exact h _ _ e
  | step e _ ih => exact (h _ _ e).trans ih
/-- the last edge of a path -/
theorem Path.last {R : Nat → Nat → Bool} {a b : Nat} (p : Path R a b) : ∃ c, R c b = true ∧ (a = c ∨ Path R a c) := by
  induction p with
  | one e => exact ⟨_, e, .inl rfl⟩
  | step e _ ih =>
    obtain ⟨c, hc, h⟩ := ih
    refine ⟨c, hc, .inr ?_⟩
    rcases h with rfl | h
    · exact .one e
    · exact .step e h

/-! ### pigeons -/
theorem nodup_le : ∀ (N : Nat) (l : List Nat), l.Nodup → (∀ x, x ∈ l → x < N) → l.length ≤ N
  | 0, l, _, h => by
    cases l with
    | nil => simp
    | cons a l => exact absurd (h a List.mem_cons_self) (by omega)
  | N + 1, l, hn, h => by
    by_cases hm : N ∈ l
    · have h1 := nodup_le N (l.erase N) (hn.erase N) (fun x hx => by
        have h2 := (hn.mem_erase_iff).1 hx
        have := h x h2.2
        have := h2.1
        omega)
      rw [List.length_erase_of_mem hm] at h1
      omega
    · have := nodup_le N l hn (fun x hx => by
        have h2 := h x hx
        have : x ≠ N := fun e => hm (e ▸ hx)
        omega)
      omega
theorem exists_out (N : Nat) (d : List Nat) (h : d.length < N) : ∃ x, x < N ∧ x ∉ d := by
  false_or_by_contra
  rename_i hc
  have hall : ∀ x, x < N → x ∈ d := fun x hx => by
    false_or_by_contra
    rename_i h2
    exact hc ⟨x, hx, h2⟩
  have : ∀ (M : Nat) (l : List Nat), (∀ x, x < M → x ∈ l) → M ≤ l.length := by
    intro M
    induction M with
    | zero => intro l _; omega
    | succ M ih =>
      intro l hl
      have hm := hl M (by omega)
      have h1 := ih (l.erase M) (fun x hx => (List.mem_erase_of_ne (by omega)).2 (hl x (by omega)))
      rw [List.length_erase_of_mem hm] at h1
      have := List.length_pos_of_mem hm
      omega
  have := this N d hall
  omega
theorem pigeon (N : Nat) (s : Nat → Nat) (h : ∀ i, s i < N) : ∃ i j, i < j ∧ s i = s j := by
  false_or_by_contra
  rename_i hc
  have hn : ((List.range (N + 1)).map s).Nodup := by
    rw [List.nodup_iff_pairwise_ne, List.pairwise_map]
    exact List.pairwise_lt_range.imp fun {a b} hab e => hc ⟨a, b, hab, e⟩
  have := nodup_le N _ hn (fun x hx => by
    obtain ⟨i, _, rfl⟩ := List.mem_map.1 hx
    exact h i)
  simp at this
  omega

/-! ### the order -/
def ready (R : Nat → Nat → Bool) (N : Nat) (d : List Nat) (x : Nat) : Bool := !(d.contains x) && (List.range N).all fun p => !(R p x) || d.contains p
theorem ready_iff {R : Nat → Nat → Bool} {N : Nat} {d : List Nat} {x : Nat} : ready R N d x = true ↔ x ∉ d ∧ ∀ p, p < N → R p x = true → p ∈ d := by
  unfold ready
  simp only [Bool.and_eq_true, Bool.not_eq_true', List.all_eq_true, List.mem_range, Bool.or_eq_true, List.contains_iff_mem]
  constructor
  · rintro ⟨h1, h2⟩
    refine ⟨fun h => (by rw [← List.contains_iff_mem] at h; rw [h] at h1; cases h1), fun p hp hr => ?_⟩
    rcases h2 p hp with h | h
    · rw [hr] at h; cases h
    · exact h
  · rintro ⟨h1, h2⟩
    refine ⟨by simpa using h1, fun p hp => ?_⟩
    cases hr : R p x with
    | false => exact .inl rfl
    | true => exact .inr (h2 p hp hr)
def pick (R : Nat → Nat → Bool) (N : Nat) (d : List Nat) : Option Nat := (List.range N).find? (ready R N d)
theorem find_range {p : Nat → Bool} {N x : Nat} (h : (List.range N).find? p = some x) : x < N ∧ p x = true ∧ ∀ y, y < x → p y = false := by
  obtain ⟨h1, as_, bs, h2, h3⟩ := List.find?_eq_some_iff_append.1 h
  have hx : x = as_.length := by
    have e := congrArg (fun l => l[as_.length]?) h2
    simp only [List.getElem?_append_right (Nat.le_refl _), Nat.sub_self] at e
    by_cases hlt : as_.length < N
    · simp [hlt] at e; omega
    · have := congrArg List.length h2
      simp at this
      omega
  have hlen := congrArg List.length h2
  simp at hlen
  refine ⟨by omega, h1, fun y hy => ?_⟩
  have hm : y ∈ as_ := by
    have e := congrArg (fun l => l[y]?) h2
    simp only [List.getElem?_append_left (show y < as_.length by omega)] at e
    have hyN : y < N := by omega
    simp [hyN] at e
    have e2 := List.getElem?_eq_getElem (show y < as_.length by omega)
    rw [e2] at e
    injection e with e
    rw [e]
    exact List.getElem_mem _
  simpa using h3 y hm
theorem find_range_none {p : Nat → Bool} {N : Nat} (h : (List.range N).find? p = none) : ∀ y, y < N → p y = false := fun y hy => by
  have := List.find?_eq_none.1 h y (List.mem_range.2 hy)
  simpa using this
/-- after k rounds -/
def topoN (R : Nat → Nat → Bool) (N : Nat) : Nat → List Nat
  | 0 => []
  | k + 1 => match pick R N (topoN R N k) with
    | none => topoN R N k
    | some x => topoN R N k ++ [x]
def topo (R : Nat → Nat → Bool) (N : Nat) : List Nat := topoN R N N
theorem topoN_some {R : Nat → Nat → Bool} {N k x : Nat} (h : pick R N (topoN R N k) = some x) : topoN R N (k + 1) = topoN R N k ++ [x] := by simp only [topoN, h]
theorem topoN_none {R : Nat → Nat → Bool} {N k : Nat} (h : pick R N (topoN R N k) = none) : topoN R N (k + 1) = topoN R N k := by simp only [topoN, h]
theorem topoN_stop {R : Nat → Nat → Bool} {N k : Nat} (h : pick R N (topoN R N k) = none) (j : Nat) : topoN R N (k + j) = topoN R N k := by
  induction j with
  | zero => rfl
  | succ j ih => rw [← Nat.add_assoc, topoN_none (by rw [ih]; exact h), ih]
/-- no node twice; all below N; before each node stand all from which an edge leads to it -/
structure Good (R : Nat → Nat → Bool) (N : Nat) (d : List Nat) : Prop where
  nodup : d.Nodup
  lt : ∀ x, x ∈ d → x < N
  pre : ∀ i x, d[i]? = some x → ∀ p, p < N → R p x = true → p ∈ d.take i
theorem Good.snoc {R : Nat → Nat → Bool} {N : Nat} {d : List Nat} (h : Good R N d) {x : Nat} (hx : x < N) (hr : ready R N d x = true) : Good R N (d ++ [x]) := by
  obtain ⟨h1, h2⟩ := ready_iff.1 hr
  refine ⟨?_, fun y hy => ?_, fun i y hy p hp hR => ?_⟩
  · rw [List.nodup_append]
    exact ⟨h.nodup, by simp, fun a ha b hb => by simp at hb; subst hb; exact fun e => h1 (e ▸ ha)⟩
  · rcases List.mem_append.1 hy with h3 | h3
    · exact h.lt y h3
    · simp at h3; omega
  · rcases Nat.lt_or_ge i d.length with hi | hi
    · rw [List.getElem?_append_left hi] at hy
      rw [List.take_append_of_le_length (by omega)]
      exact h.pre i y hy p hp hR
    · rw [List.getElem?_append_right hi] at hy
      have hi2 : i = d.length := by
        rcases Nat.eq_zero_or_pos (i - d.length) with h4 | h4
        · omega
        · rw [List.getElem?_eq_none (by simp; omega)] at hy; cases hy
      subst hi2
      simp at hy
      subst hy
      rw [List.take_append_of_le_length (Nat.le_refl _), List.take_length]
      exact h2 p hp hR
theorem good_topoN (R : Nat → Nat → Bool) (N k : Nat) : Good R N (topoN R N k) := by
  induction k with
  | zero => exact ⟨by simp [topoN], fun x hx => by simp [topoN] at hx, fun i x hx => by simp [topoN] at hx⟩
  | succ k ih =>
    cases h : pick R N (topoN R N k) with
    | none => rw [topoN_none h]; exact ih
    | some x =>
      rw [topoN_some h]
      obtain ⟨h1, h2, _⟩ := find_range h
      exact ih.snoc h1 h2
theorem Good.len {R : Nat → Nat → Bool} {N : Nat} {d : List Nat} (h : Good R N d) : d.length ≤ N := nodup_le N d h.nodup h.lt
theorem Good.mem_pre {R : Nat → Nat → Bool} {N : Nat} {d : List Nat} (h : Good R N d) {x p : Nat} (hx : x ∈ d) (hp : p < N) (hR : R p x = true) : p ∈ d := by
  obtain ⟨i, hi, e⟩ := List.getElem_of_mem hx
  exact List.mem_of_mem_take (h.pre i x (by rw [List.getElem?_eq_getElem hi, e]) p hp hR)
theorem topoN_len {R : Nat → Nat → Bool} {N : Nat} : ∀ k, (topoN R N k).length ≤ k
  | 0 => by simp [topoN]
  | k + 1 => by
    have := topoN_len (R := R) (N := N) k
    cases h : pick R N (topoN R N k) with
    | none => rw [topoN_none h]; omega
    | some x => rw [topoN_some h]; simp; omega
/-- as_ long as_ each round finds one -/
theorem topoN_eq {R : Nat → Nat → Bool} {N : Nat} : ∀ k, (∀ j, j < k → pick R N (topoN R N j) ≠ none) → (topoN R N k).length = k
  | 0, _ => by simp [topoN]
  | k + 1, h => by
    have ih := topoN_eq k (fun j hj => h j (by omega))
    cases hp : pick R N (topoN R N k) with
    | none => exact absurd hp (h k (by omega))
    | some x => rw [topoN_some hp]; simp; omega
/-- the order is reached at the round that finds none, and by round N at the latest -/
theorem topo_at {R : Nat → Nat → Bool} {N k : Nat} (hk : k ≤ N) (h : pick R N (topoN R N k) = none) : topo R N = topoN R N k := by
  unfold topo
  obtain ⟨j, rfl⟩ : ∃ j, N = k + j := ⟨N - k, by omega⟩
  exact topoN_stop h j
theorem pick_full {R : Nat → Nat → Bool} {N : Nat} {d : List Nat} (h : N ≤ d.length) (hg : Good R N d) : pick R N d = none := by
  cases hp : pick R N d with
  | none => rfl
  | some x =>
    obtain ⟨h1, h2, _⟩ := find_range hp
    have := (hg.snoc h1 h2).len
    simp at this
    omega
/-- where nothing goes round, each round finds one -/
theorem pick_some {R : Nat → Nat → Bool} {N : Nat} {d : List Nat} (hc : ∀ x, ¬ Path R x x) (hl : d.length < N) : pick R N d ≠ none := by
  intro hp
  have hno := find_range_none hp
  have hpre : ∀ x, x < N → x ∉ d → ∃ p, p < N ∧ p ∉ d ∧ R p x = true := fun x hx hxd => by
    false_or_by_contra
    rename_i h2
    have := hno x hx
    have hr : ready R N d x = true := ready_iff.2 ⟨hxd, fun p hpN hR => by
      false_or_by_contra
      rename_i h3
      exact h2 ⟨p, hpN, h3, hR⟩⟩
    rw [hr] at this
    cases this
  obtain ⟨x0, hx0, hd0⟩ := exists_out N d hl
  have hstep : ∀ x : { x : Nat // x < N ∧ x ∉ d }, ∃ y : { x : Nat // x < N ∧ x ∉ d }, R y.1 x.1 = true := fun x => by
    obtain ⟨p, h1, h2, h3⟩ := hpre x.1 x.2.1 x.2.2
    exact ⟨⟨p, h1, h2⟩, h3⟩
  let f : { x : Nat // x < N ∧ x ∉ d } → { x : Nat // x < N ∧ x ∉ d } := fun x => (hstep x).choose
  let s : Nat → { x : Nat // x < N ∧ x ∉ d } := fun i => Nat.rec ⟨x0, hx0, hd0⟩ (fun _ y => f y) i
  have hs : ∀ i, R (s (i + 1)).1 (s i).1 = true := fun i => (hstep (s i)).choose_spec
  have hpath : ∀ i j, Path R (s (i + 1 + j)).1 (s i).1 := by
    intro i j
    induction j with
    | zero => exact .one (hs i)
    | succ j ih => exact .step (hs (i + 1 + j)) ih
  obtain ⟨i, j, hij, e⟩ := pigeon N (fun i => (s i).1) (fun i => (s i).2.1)
  obtain ⟨m, rfl⟩ : ∃ m, j = i + 1 + m := ⟨j - (i + 1), by omega⟩
  have hp2 := hpath i m
  rw [← e] at hp2
  exact hc _ hp2
theorem topo_full {R : Nat → Nat → Bool} {N : Nat} (hc : ∀ x, ¬ Path R x x) : (topo R N).length = N := by
  unfold topo
  have : ∀ k, k ≤ N → (topoN R N k).length = k := by
    intro k
    induction k with
    | zero => intro _; simp [topoN]
    | succ k ih =>
      intro hk
      have h1 := ih (by omega)
      cases hp : pick R N (topoN R N k) with
      | none => exact absurd hp (pick_some hc (by omega))
      | some x => rw [topoN_some hp]; simp; omega
  exact this N (Nat.le_refl _)
/-- a path leads onward in the order -/
theorem Good.path {R : Nat → Nat → Bool} {N : Nat} {d : List Nat} (h : Good R N d) (hR : ∀ i j, R i j = true → i < N ∧ j < N) {a b : Nat} (p : Path R a b) : ∀ i, d[i]? = some b → a ∈ d.take i := by
  induction p with
  | one e => exact fun i hi => h.pre i _ hi _ (hR _ _ e).1 e
  | @step a b c e p ih =>
    intro i hi
    have hb := ih i hi
    obtain ⟨j, hj, ej⟩ := List.getElem_of_mem hb
    have hji : j < i := by simp at hj; omega
    have hdj : d[j]? = some b := by
      rw [List.getElem_take] at ej
      rw [List.getElem?_eq_getElem (by simp at hj; omega), ej]
    have ha := h.pre j b hdj a (hR _ _ e).1 e
    have hsub : d.take j = (d.take i).take j := by rw [List.take_take, Nat.min_eq_left (by omega)]
    rw [hsub] at ha
    exact List.mem_of_mem_take ha
theorem Good.acyclic {R : Nat → Nat → Bool} {N : Nat} {d : List Nat} (h : Good R N d) (hR : ∀ i j, R i j = true → i < N ∧ j < N) {x : Nat} (hx : x ∈ d) : ¬ Path R x x := by
  intro p
  have : ∀ i : Nat, d[i]? = some x → False := by
    intro i
    induction i using Nat.strongRecOn with
    | ind i ih =>
      intro hi
      have hm := h.path hR p i hi
      obtain ⟨j, hj, ej⟩ := List.getElem_of_mem hm
      rw [List.getElem_take] at ej
      exact ih j (by simp at hj; omega) (by rw [List.getElem?_eq_getElem (by simp at hj; omega), ej])
  obtain ⟨i, hi, e⟩ := List.getElem_of_mem hx
  exact this i (by rw [List.getElem?_eq_getElem hi, e])
theorem Good.all {R : Nat → Nat → Bool} {N : Nat} {d : List Nat} (h : Good R N d) (hl : N ≤ d.length) {x : Nat} (hx : x < N) : x ∈ d := by
  false_or_by_contra
  rename_i hn
  have h1 : (d ++ [x]).Nodup := by
    rw [List.nodup_append]
    exact ⟨h.nodup, by simp, fun a ha b hb => by simp at hb; subst hb; exact fun e => hn (e ▸ ha)⟩
  have := nodup_le N (d ++ [x]) h1 (fun y hy => by
    rcases List.mem_append.1 hy with h3 | h3
    · exact h.lt y h3
    · simp at h3; omega)
  simp at this
  omega
/-- THE ORDER IS WHOLE IF AND ONLY IF NOTHING GOES ROUND. -/
theorem topo_iff {R : Nat → Nat → Bool} {N : Nat} (hR : ∀ i j, R i j = true → i < N ∧ j < N) : (topo R N).length = N ↔ ∀ x, ¬ Path R x x := by
  constructor
  · intro h x p
    have hg := good_topoN R N N
    exact hg.acyclic hR (hg.all (by unfold topo at h; omega) (p.lt1 hR)) p
  · exact topo_full

/-! ### Floyd and Warshall -/
def fw (R : Nat → Nat → Bool) : Nat → Nat → Nat → Bool
  | 0, i, j => R i j
  | k + 1, i, j => fw R k i j || (fw R k i k && fw R k k j)
theorem fw_mono {R : Nat → Nat → Bool} {k i j : Nat} (h : fw R k i j = true) : fw R (k + 1) i j = true := by simp [fw, h]
theorem fw_col (R : Nat → Nat → Bool) (k i : Nat) : fw R (k + 1) i k = fw R k i k := by
  simp only [fw]; cases fw R k i k <;> simp
theorem fw_row (R : Nat → Nat → Bool) (k j : Nat) : fw R (k + 1) k j = fw R k k j := by
  simp only [fw]; cases fw R k k j <;> simp
theorem fw_sound {R : Nat → Nat → Bool} : ∀ k i j, fw R k i j = true → Path R i j
  | 0, _, _, h => .one h
  | k + 1, i, j, h => by
    simp only [fw, Bool.or_eq_true, Bool.and_eq_true] at h
    rcases h with h | ⟨h1, h2⟩
    · exact fw_sound k i j h
    · exact (fw_sound k i k h1).trans (fw_sound k k j h2)
theorem fw_trans {R : Nat → Nat → Bool} : ∀ k m i j, m < k → fw R k i m = true → fw R k m j = true → fw R k i j = true
  | 0, _, _, _, h, _, _ => by omega
  | k + 1, m, i, j, hm, h1, h2 => by
    have hthru : fw R k i k = true → fw R k k j = true → fw R (k + 1) i j = true := fun a b => by simp [fw, a, b]
    by_cases e : m = k
    · subst e
      rw [fw_col] at h1
      rw [fw_row] at h2
      exact hthru h1 h2
    · have hm' : m < k := by omega
      simp only [fw, Bool.or_eq_true, Bool.and_eq_true] at h1 h2
      rcases h1 with h1 | ⟨h1, h1'⟩ <;> rcases h2 with h2 | ⟨h2, h2'⟩
      · exact fw_mono (fw_trans k m i j hm' h1 h2)
      · exact hthru (fw_trans k m i k hm' h1 h2) h2'
      · exact hthru h1 (fw_trans k m k j hm' h1' h2)
      · exact hthru h1 h2'
theorem fw_base {R : Nat → Nat → Bool} (k : Nat) {i j : Nat} (h : R i j = true) : fw R k i j = true := by
  induction k with
  | zero => exact h
  | succ k ih => exact fw_mono ih
theorem fw_iff {R : Nat → Nat → Bool} {N : Nat} (hR : ∀ i j, R i j = true → i < N ∧ j < N) (i j : Nat) : fw R N i j = true ↔ Path R i j := by
  constructor
  · exact fw_sound N i j
  · intro p
    induction p with
    | one e => exact fw_base N e
    | step e _ ih => exact fw_trans N _ _ _ (hR _ _ e).2 (fw_base N e) ih
end Go.Proofs.YtafdpimkfkddaaaDoor
