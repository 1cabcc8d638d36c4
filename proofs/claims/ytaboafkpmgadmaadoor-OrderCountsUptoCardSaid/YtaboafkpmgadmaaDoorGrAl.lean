/-
  Contract of graph.Sort, whole; forkwrightkeep.alive2 answers true.
-/
import Derived.Test.YtaboafkpmgadmaaDoorGrC
import Derived.Test.YtaboafkpmgadmaaDoorBsOnes
import Derived.Test.YtaboafkpmgadmaaDoorBsAlive
namespace Go.Proofs.YtaboafkpmgadmaaDoor
open Go.RowKit Go.Shelf
set_option maxRecDepth 100000

def ordG (N : Int) (es : List (Int × Int)) : List Int := if errn N es = 0 then toI (ordr N.toNat es) else []
theorem zd_toI_bd (L : List Nat) (m : Nat) (h : ∀ x, x ∈ L → x < m) (k : Nat) : 0 ≤ zd (toI L) k ∧ zd (toI L) k ≤ (m : Int) := by
  unfold zd toI
  rw [List.getD_eq_getElem?_getD, List.getElem?_map]
  cases he : L[k]? with
  | none => simp
  | some x =>
    have := h x (List.mem_of_getElem? he)
    simp
    omega
theorem sort_any (A : Option Addr) (c : Nat) (N : Int) (es : List (Int × Int)) (w : World) (he : RdE w w.heap.size A es) (hT : Tab w) :
    Calls Tryd.prog 13 #[.agg #[.int .i64 N, .slice A es.length c]] w fun e w' => ∃ A1 c1, e = .returned (.tuple #[.slice A1 (ordG N es).length c1, .int .i64 (errn N es)]) ∧ RdI w' w'.heap.size A1 (ordG N es) ∧ Below w.heap.size w w' := by
  cases hin : inR N es with
  | false =>
    refine (sort_no A c N es w he hin).mono ?_
    rintro e w' ⟨rfl, h2⟩
    have hE := errn_no hin
    have hb : ordG N es = [] := by unfold ordG; rw [if_neg (by omega)]
    rw [hb, hE]
    exact ⟨none, 0, rfl, ⟨fun k => by simp [zd], fun k => by simp [zd], by simp, fun h => by simp at h⟩, h2⟩
  | true =>
    have hm := okN_of hin
    obtain ⟨m, rfl⟩ : ∃ m : Nat, N = (m : Int) := ⟨N.toNat, by omega⟩
    refine (callsIn_wide.1 (sort_in 12 (Nat.le_refl _) A c m es w he hin hT)).mono ?_
    rintro e w' ⟨(⟨hl, v, rfl, hown⟩ | ⟨hlt, rfl⟩), h2⟩
    · have hE := errn_ok hin hl
      have hb : ordG m es = toI (ordr m es) := by unfold ordG; rw [if_pos hE, Int.toNat_natCast]
      have hgood : Good (gR es) m (ordr m es) := good_topoN _ _ _
      have hbd := zd_toI_bd (ordr m es) m hgood.lt
      obtain ⟨A1, c1, rfl, hr⟩ := own_rdI hown (fun k => by have := hbd k; omega) (fun k => by have := hbd k; omega) (by rw [toI_len]; omega)
      rw [hb, hE]
      exact ⟨A1, c1, rfl, hr, h2⟩
    · have hE := errn_loop hin hlt
      have hb : ordG m es = [] := by unfold ordG; rw [if_neg (by omega)]
      rw [hb, hE]
      exact ⟨none, 0, rfl, ⟨fun k => by simp [zd], fun k => by simp [zd], by simp, fun h => by simp at h⟩, h2⟩

theorem rdE_lit (w : World) (E : TypeId) (es : List (Int × Int)) (h : ∀ e ∈ es, (-9223372036854775808 ≤ e.1 ∧ e.1 ≤ 9223372036854775807) ∧ -9223372036854775808 ≤ e.2 ∧ e.2 ≤ 9223372036854775807) (hl : es.length ≤ 1099511627776) :
    RdE (w.alloc (.cells (eVals es).toArray E)) (w.alloc (.cells (eVals es).toArray E)).heap.size (some ⟨w.heap.size, 0, none⟩) es := by
  have hb : ∀ k, (-9223372036854775808 ≤ (ed es k).1 ∧ (ed es k).1 ≤ 9223372036854775807) ∧ -9223372036854775808 ≤ (ed es k).2 ∧ (ed es k).2 ≤ 9223372036854775807 := fun k => by
    unfold ed
    rw [List.getD_eq_getElem?_getD]
    cases he : es[k]? with
    | none => simp
    | some e => exact h e (List.mem_of_getElem? he)
  refine ⟨fun k => (hb k).1.1, fun k => (hb k).1.2, fun k => (hb k).2.1, fun k => (hb k).2.2, hl, fun _ => ⟨w.heap.size, 0, rfl, by simp, fun k hk => ?_⟩⟩
  have hg := World.alloc_heap_new w (.cells (eVals es).toArray E)
  have := eVals_at es k hk
  rw [Nat.zero_add, cell_of_row _ _ _ _ _ _ hg, cell_of_row _ _ _ _ _ _ hg]
  simpa using this

abbrev es3 : List (Int × Int) := [(2, 0), (0, 1), (2, 1)]
theorem es3_err : errn 3 es3 = 0 := by decide +kernel
theorem es3_ord : ordG 3 es3 = [2, 0, 1] := by decide +kernel
theorem es3_beh : behG 3 es3 = [[2], [], [3]] := by decide +kernel
theorem es3_cor : (corG 3 es3).length = 2 := by decide +kernel
theorem es1_err : errn 1 [(0, 0)] = 3 := by decide +kernel

set_option maxHeartbeats 1000000 in
theorem alive2_any (w : World) (hT : Tab w) :
    Calls Tryd.prog 19 #[] w fun e w' => e = .returned (.bool true) ∧ Below w.heap.size w w' := by
  go_enter Tryd.func19, Tryd.ntmps19
  go_wp2_with fail
  have r0 : RdE (w.alloc (.cells #[.int .i64 2, .int .i64 0, .int .i64 0, .int .i64 1, .int .i64 2, .int .i64 1] 38)) (w.alloc (.cells #[.int .i64 2, .int .i64 0, .int .i64 0, .int .i64 1, .int .i64 2, .int .i64 1] 38)).heap.size (some ⟨w.heap.size, 0, none⟩) es3 := rdE_lit w 38 es3 (by decide) (by decide)
  have hG0 := GB.new (w.alloc (.cells #[.int .i64 2, .int .i64 0, .int .i64 0, .int .i64 1, .int .i64 2, .int .i64 1] 38)) 24 3 (.slice (some ⟨w.heap.size, 0, none⟩) 3 3)
  obtain ⟨w1, hw1⟩ : ∃ w1, w1 = (w.alloc (.cells #[.int .i64 2, .int .i64 0, .int .i64 0, .int .i64 1, .int .i64 2, .int .i64 1] 38)).alloc (.cells #[.int .i64 3, .slice (some ⟨w.heap.size, 0, none⟩) 3 3] 24) := ⟨_, rfl⟩
  have hB : Below w.heap.size w w1 := by rw [hw1]; exact ((Below.refl _ _).alloc (Nat.le_refl _) _).alloc (by simp) _
  have hs := hB.size
  have hs1 : w.heap.size + 1 < w1.heap.size := by rw [hw1]; simp
  have r1 : RdE w1 w1.heap.size (some ⟨w.heap.size, 0, none⟩) es3 := by rw [hw1]; exact r0.step (below_alloc _ _)
  rw [World.size_alloc] at hG0
  rw [← hw1] at hG0 ⊢
  replace hT := hT.step hB
  clear r0 hw1
  have hgn := hG0.n
  have hge := hG0.e
  refine (sort_any _ 3 3 es3 _ r1 hT).mono ?_
  rw [es3_ord, es3_err]
  rintro e w2 ⟨A1, c1, rfl, l1, hb⟩
  replace hG0 : GB 24 w2 (w.heap.size + 1) 3 (.slice (some ⟨w.heap.size, 0, none⟩) 3 3) := (hb.block (w.heap.size + 1) hs1).trans hG0
  replace hs1 := Nat.lt_of_lt_of_le hs1 hb.size
  replace r1 := r1.step hb
  replace hT := hT.step hb
  replace hB := below_step hB hs hb
  replace hs := hB.size
  clear hb hgn hge
  have hgn := hG0.n
  have hge := hG0.e
  go_wp2_with fail
  refine (behind_any _ 3 3 es3 _ r1 hT).mono ?_
  rw [es3_beh, es3_err]
  rintro e w3 ⟨A2, c2, rfl, u2, hb⟩
  replace hG0 : GB 24 w3 (w.heap.size + 1) 3 (.slice (some ⟨w.heap.size, 0, none⟩) 3 3) := (hb.block (w.heap.size + 1) hs1).trans hG0
  replace hs1 := Nat.lt_of_lt_of_le hs1 hb.size
  replace r1 := r1.step hb
  replace l1 := l1.step hb
  replace hT := hT.step hb
  replace hB := below_step hB hs hb
  replace hs := hB.size
  clear hb hgn hge
  have hgn := hG0.n
  have hge := hG0.e
  go_wp2_with fail
  refine (core_any _ 3 3 es3 _ r1 hT).mono ?_
  rw [es3_cor, es3_err, show nG 3 es3 = 3 by decide +kernel]
  rintro e w4 ⟨A3, c3, rfl, _, hb⟩
  replace l1 := l1.step hb
  replace u2 := u2.step hb
  replace hT := hT.step hb
  replace hB := below_step hB hs hb
  replace hs := hB.size
  clear hb hgn hge hG0 hs1 r1
  go_wp2_with fail
  have hc0 := GB.new w4 24 3 (.slice A3 2 c3)
  have hb := below_alloc w4 (.cells #[.int .i64 3, .slice A3 2 c3] 24)
  replace l1 := l1.step hb
  replace u2 := u2.step hb
  replace hT := hT.step hb
  replace hB := below_step hB hs hb
  replace hs := hB.size
  clear hb
  obtain ⟨w5, hw5⟩ : ∃ w5, w5 = w4.alloc (.cells #[.int .i64 3, .slice A3 2 c3] 24) := ⟨_, rfl⟩
  have hs5 : w4.heap.size + 1 = w5.heap.size := by rw [hw5]; simp
  rw [← hw5] at l1 u2 hT hB hs hc0 ⊢
  rw [hs5]
  clear hw5 hs5
  have r4 := rd_lit w5 3 [2, 0, 1] (by decide) (by decide)
  have hb := below_alloc w5 (.cells (iVals [2, 0, 1]).toArray 3)
  replace hc0 := hc0.alloc (.cells (iVals [2, 0, 1]).toArray 3)
  replace l1 := l1.step hb
  replace u2 := u2.step hb
  replace hT := hT.step hb
  replace hB := below_step hB hs hb
  replace hs := hB.size
  clear hb
  refine (equalI_same A1 _ c1 3 [2, 0, 1] _ l1 r4).mono ?_
  rintro e w7 ⟨rfl, hb⟩
  have hc7 : GB 24 w7 w4.heap.size 3 (.slice A3 2 c3) := (hb.block w4.heap.size hc0.lt).trans hc0
  replace u2 := u2.step hb
  replace hT := hT.step hb
  replace hB := below_step hB hs hb
  replace hs := hB.size
  clear hb l1 r4 hc0
  obtain ⟨b8, off8, A8, c8, rfl, hb8, hc8, hs8⟩ := u2.at_ (k := 2) (by decide)
  have hc8' : w7.cell? ⟨b8, off8 + 2, none⟩ = some (.slice A8 1 c8) := hc8
  have hs8' : RdU w7 w7.heap.size A8 [3] := hs8
  have hce := hc7.e
  clear hc8 hs8 u2
  go_wp2_with fail
  refine (size_any A8 c8 [3] _ hs8' (by decide)).mono ?_
  rw [show ones [3] [3].length = 2 by decide +kernel]
  rintro e w' ⟨rfl, rfl⟩
  go_wp2_with fail
  have r9 := rdE_lit w7 38 [(0, 0)] (by decide) (by decide)
  have hb := below_alloc w7 (.cells (eVals [(0, 0)]).toArray 38)
  replace hT := hT.step hb
  replace hB := below_step hB hs hb
  replace hs := hB.size
  clear hb
  refine (wrong_any _ 1 1 [(0, 0)] _ r9 hT).mono ?_
  rw [es1_err]
  rintro e w9 ⟨rfl, hb⟩
  replace hB := below_step hB hs hb
  go_wp2
  go_ret
  exact ⟨rfl, hB⟩
end Go.Proofs.YtaboafkpmgadmaaDoor
