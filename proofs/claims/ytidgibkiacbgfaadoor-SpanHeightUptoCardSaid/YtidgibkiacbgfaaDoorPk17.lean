/-
  A term's graph is closed and does not go round. Plain mathematics.
  Contract of graph.Sort, whole; forkwrightkeep.alive2 answers true.
  The law GraphWrong: graph.Wrong and the reference's BWrong answer the same, for every graph.
  The law GraphBehind: what is behind what is behind is behind; nothing is behind itself; of two nodes one at most is behind the other.
-/
import Derived.Test.YtidgibkiacbgfaaDoorPk06
import Derived.Test.YtidgibkiacbgfaaDoorPk08
import Derived.Test.YtidgibkiacbgfaaDoorPk16
import Derived.Test.YtidgibkiacbgfaaDoorPk10
import Derived.Test.YtidgibkiacbgfaaDoorPk12
import Derived.Test.YtidgibkiacbgfaaDoorPk15
import Derived.Deep.RegionHeld3
import Derived.Deep.DrawnRows
import Derived.Test.YtidgibkiacbgfaaDoorPk14
namespace Go.Proofs.YtidgibkiacbgfaaDoor
open Go.RowKit
set_option maxRecDepth 100000

theorem Tm.mem_edI (T : Tm) (i n : Nat) (e : Int × Int) : e ∈ T.edI i n ↔ ∃ k : Nat, k < n ∧ T.bef (i : Int) (k : Int) = true ∧ e = ((i : Int), (k : Int)) := by
  unfold Tm.edI
  rw [List.mem_map]
  constructor
  · rintro ⟨k, hk, rfl⟩
    rw [List.mem_filter, List.mem_range] at hk
    exact ⟨k, hk.1, hk.2, rfl⟩
  · rintro ⟨k, h1, h2, rfl⟩
    exact ⟨k, by rw [List.mem_filter, List.mem_range]; exact ⟨h1, h2⟩, rfl⟩
theorem Tm.eds_flat (T : Tm) : T.eds = (List.range T.sz).flatMap fun i => T.edI i T.sz := by
  unfold Tm.eds Tm.edK
  rw [T.edI_low T.sz 0 (by omega), List.append_nil]
theorem Tm.mem_edg (T : Tm) (e : Int × Int) : e ∈ T.eds ↔ ∃ i k : Nat, T.bef (i : Int) (k : Int) = true ∧ e = ((i : Int), (k : Int)) := by
  rw [T.eds_flat, List.mem_flatMap]
  constructor
  · rintro ⟨i, _, h⟩
    obtain ⟨k, _, h2, h3⟩ := (T.mem_edI i T.sz e).1 h
    exact ⟨i, k, h2, h3⟩
  · rintro ⟨i, k, h2, h3⟩
    have := T.bef_lt _ _ h2
    exact ⟨i, List.mem_range.2 (by omega), (T.mem_edI i T.sz e).2 ⟨k, by omega, h2, h3⟩⟩
theorem eds_gR (T : Tm) (i j : Nat) : gR T.eds i j = T.bef (i : Int) (j : Int) := by
  unfold gR
  rw [Bool.eq_iff_iff, decide_eq_true_iff, T.mem_edg]
  constructor
  · rintro ⟨a, b, h, e⟩
    injection e with e1 e2
    obtain rfl : i = a := by omega
    obtain rfl : j = b := by omega
    exact h
  · intro h
    exact ⟨i, j, h, rfl⟩
theorem eds_path (T : Tm) {a b : Nat} (h : Path (gR T.eds) a b) : T.bef (a : Int) (b : Int) = true := by
  induction h with
  | one h => rwa [eds_gR T] at h
  | step h _ ih => rw [eds_gR T] at h; exact T.bef_trans _ _ _ h ih
theorem eds_fw (T : Tm) (m a b : Nat) : fw (gR T.eds) m a b = T.bef (a : Int) (b : Int) := by
  rw [Bool.eq_iff_iff]
  exact ⟨fun h => eds_path T (fw_sound _ _ _ h), fun h => fw_base m (by rw [eds_gR T]; exact h)⟩
theorem Tm.inR_eds (T : Tm) (hs : T.sz ≤ 200) : inR (T.sz : Int) T.eds = true := by
  unfold inR
  rw [Bool.and_eq_true, List.all_eq_true]
  refine ⟨by unfold okN200; simp; omega, fun e he => ?_⟩
  obtain ⟨i, k, h, rfl⟩ := (T.mem_edg e).1 he
  have := T.bef_lt _ _ h
  unfold okE nodeB
  simp
  omega
theorem Tm.full_eds (T : Tm) (hs : T.sz ≤ 200) : (ordr T.sz T.eds).length = T.sz := by
  have hle := ordr_le T.sz T.eds
  have : ¬ (ordr T.sz T.eds).length < T.sz := fun hlt => by
    obtain ⟨x, _, h⟩ := (loop_iff (T.inR_eds hs)).1 hlt
    rw [eds_fw T] at h
    have := T.bef_lt _ _ h
    omega
  omega
theorem Tm.errn_eds (T : Tm) (hs : T.sz ≤ 200) : errn (T.sz : Int) T.eds = 0 := errn_ok (T.inR_eds hs) (T.full_eds hs)

theorem range_filter (q : Nat → Bool) (a : Nat) (h : ∀ j, q j = true → j < a) : ∀ d, (List.range (a + d)).filter q = (List.range a).filter q
  | 0 => rfl
  | d + 1 => by
    have : q (a + d) = false := by
      cases hq : q (a + d) with
      | false => rfl
      | true => have := h _ hq; omega
    rw [← Nat.add_assoc, List.range_succ, List.filter_append, range_filter q a h d]
    simp [this]
theorem mem_filter_range (xs : List Nat) (m : Nat) (h : ∀ j, bitB xs j = true → j < m) : mem xs = (List.range m).filter (bitB xs) := by
  unfold mem nums
  have h2 : ∀ j, bitB xs j = true → j < 64 * xs.length := fun j hj => bit_in' xs j hj
  rw [← range_filter (bitB xs) (64 * xs.length) h2 m, Nat.add_comm, range_filter (bitB xs) m h]
theorem Tm.cls_eds (T : Tm) (hs : T.sz ≤ 200) : clsG (T.sz : Int) T.eds = T.eds := by
  have hin := T.inR_eds hs
  unfold clsG
  rw [if_pos (T.errn_eds hs), Int.toNat_natCast]
  unfold elI elist
  rw [List.map_flatMap]
  conv => rhs; rw [T.eds_flat]
  have : ∀ i ∈ List.range T.sz, (((mem (st (behs T.sz T.eds) i)).map fun j => (i, j)).map fun e => ((e.1 : Int), (e.2 : Int))) = T.edI i T.sz := by
    intro i hi
    have hi' := List.mem_range.1 hi
    rw [st_behs _ hi']
    have hb : ∀ j, bitB (beh T.sz T.eds i) j = T.bef (i : Int) (j : Int) := fun j => by rw [beh_bit hin, eds_fw T]
    rw [mem_filter_range _ T.sz (fun j hj => by rw [hb] at hj; have := T.bef_lt _ _ hj; omega), List.map_map]
    unfold Tm.edI
    rw [show bitB (beh T.sz T.eds i) = fun k : Nat => T.bef (i : Int) (k : Int) from funext hb]
    rfl
  simp only [List.flatMap]
  rw [List.map_congr_left this]
theorem Tm.nG_eds (T : Tm) (hs : T.sz ≤ 200) : nG (T.sz : Int) T.eds = T.sz := by unfold nG; rw [if_pos (T.errn_eds hs)]

/-- the two ways to read a slice of edges -/
theorem RdE.eg {w : World} {B : Nat} {A : Option Addr} {es : List (Int × Int)} (h : RdE w B A es) : RdEg w B A es := ⟨h.room, h.rd⟩
theorem Tm.rdE {w : World} {B : Nat} {A : Option Addr} (T : Tm) (hs : T.sz ≤ 200) (h : RdEg w B A T.eds) : RdE w B A T.eds := by
  have key : ∀ k, 0 ≤ (ed T.eds k).1 ∧ (ed T.eds k).1 ≤ 200 ∧ 0 ≤ (ed T.eds k).2 ∧ (ed T.eds k).2 ≤ 200 := fun k => by
    by_cases hk : k < T.eds.length
    · obtain ⟨i, j, hb, he⟩ := (T.mem_edg _).1 (ed_mem T.eds k hk)
      rw [he]
      have := T.bef_lt _ _ hb
      dsimp only
      omega
    · have : ed T.eds k = (0, 0) := by
        unfold ed
        simp only [List.getD, List.getElem?_eq_none (show T.eds.length ≤ k by omega), Option.getD_none]
      rw [this]
      dsimp only
      omega
  exact ⟨fun k => by have := key k; omega, fun k => by have := key k; omega, fun k => by have := key k; omega, fun k => by have := key k; omega, h.room, h.rd⟩
end Go.Proofs.YtidgibkiacbgfaaDoor

namespace Go.Proofs.YtidgibkiacbgfaaDoor
open Go.RowKit Go.Shelf
set_option maxRecDepth 100000

def ordG (N : Int) (es : List (Int × Int)) : List Int := if errn N es = 0 then toI (ordr N.toNat es) else []
theorem zd_toI_bd (L : List Nat) (m : Nat) (h : ∀ x, x ∈ L → x < m) (k : Nat) : 0 ≤ zd (toI L) k ∧ zd (toI L) k ≤ (m : Int) := by
  unfold zd toI
  rw [List.getD_eq_getElem?_getD, List.getElem?_map]
  cases he : L[k]? with
  | none => simp
  | some x =>
    have := h x (List.mem_of_getElem? he)
    simp
    omega
theorem sort_any (A : Option Addr) (c : Nat) (N : Int) (es : List (Int × Int)) (w : World) (he : RdE w w.heap.size A es) (hT : Tab w) :
    Calls Tryd.prog 30 #[.agg #[.int .i64 N, .slice A es.length c]] w fun e w' => ∃ A1 c1, e = .returned (.tuple #[.slice A1 (ordG N es).length c1, .int .i64 (errn N es)]) ∧ RdI w' w'.heap.size A1 (ordG N es) ∧ Below w.heap.size w w' := by
  cases hin : inR N es with
  | false =>
    refine (sort_no A c N es w he hin).mono ?_
    rintro e w' ⟨rfl, h2⟩
    have hE := errn_no hin
    have hb : ordG N es = [] := by unfold ordG; rw [if_neg (by omega)]
    rw [hb, hE]
    exact ⟨none, 0, rfl, ⟨fun k => by simp [zd], fun k => by simp [zd], by simp, fun h => by simp at h⟩, h2⟩
  | true =>
    have hm := okN_of hin
    obtain ⟨m, rfl⟩ : ∃ m : Nat, N = (m : Int) := ⟨N.toNat, by omega⟩
    refine (callsIn_wide.1 (sort_in 12 (Nat.le_refl _) A c m es w he hin hT)).mono ?_
    rintro e w' ⟨(⟨hl, v, rfl, hown⟩ | ⟨hlt, rfl⟩), h2⟩
    · have hE := errn_ok hin hl
      have hb : ordG m es = toI (ordr m es) := by unfold ordG; rw [if_pos hE, Int.toNat_natCast]
      have hgood : Good (gR es) m (ordr m es) := good_topoN _ _ _
      have hbd := zd_toI_bd (ordr m es) m hgood.lt
      obtain ⟨A1, c1, rfl, hr⟩ := own_rdI hown (fun k => by have := hbd k; omega) (fun k => by have := hbd k; omega) (by rw [toI_len]; omega)
      rw [hb, hE]
      exact ⟨A1, c1, rfl, hr, h2⟩
    · have hE := errn_loop hin hlt
      have hb : ordG m es = [] := by unfold ordG; rw [if_neg (by omega)]
      rw [hb, hE]
      exact ⟨none, 0, rfl, ⟨fun k => by simp [zd], fun k => by simp [zd], by simp, fun h => by simp at h⟩, h2⟩

theorem rdE_lit (w : World) (E : TypeId) (es : List (Int × Int)) (h : ∀ e ∈ es, (-9223372036854775808 ≤ e.1 ∧ e.1 ≤ 9223372036854775807) ∧ -9223372036854775808 ≤ e.2 ∧ e.2 ≤ 9223372036854775807) (hl : es.length ≤ 1099511627776) :
    RdE (w.alloc (.cells (eVals es).toArray E)) (w.alloc (.cells (eVals es).toArray E)).heap.size (some ⟨w.heap.size, 0, none⟩) es := by
  have hb : ∀ k, (-9223372036854775808 ≤ (ed es k).1 ∧ (ed es k).1 ≤ 9223372036854775807) ∧ -9223372036854775808 ≤ (ed es k).2 ∧ (ed es k).2 ≤ 9223372036854775807 := fun k => by
    unfold ed
    rw [List.getD_eq_getElem?_getD]
    cases he : es[k]? with
    | none => simp
    | some e => exact h e (List.mem_of_getElem? he)
  refine ⟨fun k => (hb k).1.1, fun k => (hb k).1.2, fun k => (hb k).2.1, fun k => (hb k).2.2, hl, fun _ => ⟨w.heap.size, 0, rfl, by simp, fun k hk => ?_⟩⟩
  have hg := World.alloc_heap_new w (.cells (eVals es).toArray E)
  have := eVals_at es k hk
  rw [Nat.zero_add, cell_of_row _ _ _ _ _ _ hg, cell_of_row _ _ _ _ _ _ hg]
  simpa using this

abbrev es3 : List (Int × Int) := [(2, 0), (0, 1), (2, 1)]
theorem es3_err : errn 3 es3 = 0 := by decide +kernel
theorem es3_ord : ordG 3 es3 = [2, 0, 1] := by decide +kernel
theorem es3_beh : behG 3 es3 = [[2], [], [3]] := by decide +kernel
theorem es3_cor : (corG 3 es3).length = 2 := by decide +kernel
theorem es1_err : errn 1 [(0, 0)] = 3 := by decide +kernel

end Go.Proofs.YtidgibkiacbgfaaDoor

namespace Go.Proofs.YtidgibkiacbgfaaDoor
open Go.RowKit Go.Shelf
set_option maxRecDepth 100000
attribute [local go_sem ↓] Go.wp_at_zero Go.wp_at_succ

/-- the graph's box, and all that lay when it was made, lie as they lay -/
abbrev HeldG (w1 : World) (B : Nat) (N : Int) (A : Option Addr) (l c : Nat) (w' : World) : Prop := w'.cell? ⟨B, 0, none⟩ = some (.int .i64 N) ∧ w'.cell? ⟨B, 1, none⟩ = some (.slice A l c) ∧ Below w1.heap.size w1 w'

theorem HeldG.drew {w1 W : World} {B : Nat} {N : Int} {A : Option Addr} {l c : Nat} (h : HeldG w1 B N A l c W) : HeldG w1 B N A l c W.drew := ⟨h.1, h.2.1, h.2.2.drew⟩
theorem HeldG.step {w1 W w2 : World} {B : Nat} {N : Int} {A : Option Addr} {l c : Nat} (h : HeldG w1 B N A l c W) (hs : B < w1.heap.size) (hb : Below W.heap.size W w2) : HeldG w1 B N A l c w2 := by
  have hlt : B < W.heap.size := Nat.lt_of_lt_of_le hs h.2.2.size
  exact ⟨(hb.cell (p := ⟨B, 0, none⟩) hlt).trans h.1, (hb.cell (p := ⟨B, 1, none⟩) hlt).trans h.2.1, h.2.2.trans (hb.mono h.2.2.size)⟩

end Go.Proofs.YtidgibkiacbgfaaDoor

namespace Go.Proofs.YtidgibkiacbgfaaDoor
open Go.RowKit Go.Shelf
set_option maxRecDepth 100000
attribute [local go_sem ↓] Go.wp_at_zero Go.wp_at_succ

theorem inB_bits {xs ys : List Nat} (hx : Ws xs) (hy : Ws ys) : inB xs ys = true ↔ ∀ n, bitB xs n = true → bitB ys n = true := by
  rw [inB_iff hx hy]
  constructor
  · intro h n hn
    rw [bitB_tb] at hn ⊢
    exact h _ _ (Nat.mod_lt _ (by decide)) hn
  · intro h k j hj hb
    rw [tb_bit _ _ _ hj] at hb ⊢
    exact h _ hb
theorem inB_one (c : Nat) (hc : c ≤ 65535) {ys : List Nat} (hy : Ws ys) : inB (ofS [(c : Int)]) ys = bitB ys c := by
  rw [Bool.eq_iff_iff, inB_bits (ofS_wd _) hy]
  have hb : ∀ n, bitB (ofS [(c : Int)]) n = true ↔ n = c := fun n => by
    rw [ofS_bit, decide_eq_true_iff, mem_alw]
    simp
    omega
  constructor
  · intro h
    exact h c ((hb c).2 rfl)
  · intro h n hn
    rw [(hb n).1 hn]
    exact h
theorem fw_tr {m : Nat} {es : List (Int × Int)} (h : inR m es = true) {i j k : Nat} (h1 : fw (gR es) m i j = true) (h2 : fw (gR es) m j k = true) : fw (gR es) m i k = true :=
  (fw_iff (gR_lt h) _ _).2 (((fw_iff (gR_lt h) _ _).1 h1).trans ((fw_iff (gR_lt h) _ _).1 h2))
theorem fw_irr {m : Nat} {es : List (Int × Int)} (h : inR m es = true) (hfull : (ordr m es).length = m) (i : Nat) : fw (gR es) m i i = false := by
  cases hf : fw (gR es) m i i with
  | false => rfl
  | true =>
    have := (loop_iff h).2 ⟨i, (fw_lt h hf).1, hf⟩
    omega
theorem beh_sub {m : Nat} {es : List (Int × Int)} (h : inR m es = true) {i j : Nat} (h1 : fw (gR es) m i j = true) : inB (beh m es j) (beh m es i) = true := by
  rw [inB_bits (beh_ws _ _ _) (beh_ws _ _ _)]
  intro n hn
  rw [beh_bit h] at hn ⊢
  exact fw_tr h h1 hn

/-- two cells lie as they lay, and all that lay -/
abbrev HeldB (w1 : World) (B : Nat) (v : Value) (b o : Nat) (u : Value) (w' : World) : Prop := w'.cell? ⟨B, 0, none⟩ = some v ∧ w'.cell? ⟨b, o, none⟩ = some u ∧ Below w1.heap.size w1 w'
theorem HeldB.drew {w1 W : World} {B b o : Nat} {v u : Value} (h : HeldB w1 B v b o u W) : HeldB w1 B v b o u W.drew := ⟨h.1, h.2.1, h.2.2.drew⟩
theorem HeldB.step {w1 W w2 : World} {B b o : Nat} {v u : Value} (h : HeldB w1 B v b o u W) (hb : Below W.heap.size W w2) : HeldB w1 B v b o u w2 :=
  ⟨(hb.cell (p := ⟨B, 0, none⟩) (World.block_lt_of_cell? _ _ h.1)).trans h.1, (hb.cell (p := ⟨b, o, none⟩) (World.block_lt_of_cell? _ _ h.2.1)).trans h.2.1, h.2.2.trans (hb.mono h.2.2.size)⟩
theorem HeldB.alloc {w1 W : World} {B b o : Nat} {v u : Value} (h : HeldB w1 B v b o u W) (ob : Obj) : HeldB w1 B v b o u (W.alloc ob) := h.step (below_alloc W ob)

/-- three cells lie as they lay, and all that lay -/
abbrev HeldC (w1 : World) (B : Nat) (v : Value) (b o : Nat) (u : Value) (o2 : Nat) (u2 : Value) (w' : World) : Prop := w'.cell? ⟨B, 0, none⟩ = some v ∧ w'.cell? ⟨b, o, none⟩ = some u ∧ w'.cell? ⟨b, o2, none⟩ = some u2 ∧ Below w1.heap.size w1 w'
theorem HeldC.drew {w1 W : World} {B b o o2 : Nat} {v u u2 : Value} (h : HeldC w1 B v b o u o2 u2 W) : HeldC w1 B v b o u o2 u2 W.drew := ⟨h.1, h.2.1, h.2.2.1, h.2.2.2.drew⟩
theorem HeldC.step {w1 W w2 : World} {B b o o2 : Nat} {v u u2 : Value} (h : HeldC w1 B v b o u o2 u2 W) (hb : Below W.heap.size W w2) : HeldC w1 B v b o u o2 u2 w2 :=
  ⟨(hb.cell (p := ⟨B, 0, none⟩) (World.block_lt_of_cell? _ _ h.1)).trans h.1, (hb.cell (p := ⟨b, o, none⟩) (World.block_lt_of_cell? _ _ h.2.1)).trans h.2.1, (hb.cell (p := ⟨b, o2, none⟩) (World.block_lt_of_cell? _ _ h.2.2.1)).trans h.2.2.1, h.2.2.2.trans (hb.mono h.2.2.2.size)⟩

end Go.Proofs.YtidgibkiacbgfaaDoor
