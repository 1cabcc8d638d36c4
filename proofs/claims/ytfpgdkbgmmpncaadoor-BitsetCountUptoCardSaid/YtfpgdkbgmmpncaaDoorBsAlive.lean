/-
  alive1 answers true, where the library's table holds its own numbers.
-/
import Derived.Test.YtfpgdkbgmmpncaaDoorBsList
import Derived.Test.YtfpgdkbgmmpncaaDoorBsOf
import Derived.Test.YtfpgdkbgmmpncaaDoorBsEqI
namespace Go.Proofs.YtfpgdkbgmmpncaaDoor
open Go.RowKit

theorem ofS_wd (zs : List Int) (k : Nat) : wd (ofS zs) k < 18446744073709551616 := by
  unfold ofS ofL
  rw [wd_map]
  split
  · exact setB_lt _ _
  · omega
theorem ofS_len (zs : List Int) : (ofS zs).length ≤ 1024 := by
  unfold ofS
  rw [ofL_len]
  have := gN_le (alw zs) (alw_lt zs)
  omega
theorem of_any (A : Option Addr) (c : Nat) (zs : List Int) (w : World) (hx : RdI w w.heap.size A zs) :
    Calls Tryd.prog 9 #[.slice A zs.length c] w fun e w' => ∃ A1 c1, e = .returned (.slice A1 (ofS zs).length c1) ∧ RdU w' w'.heap.size A1 (ofS zs) ∧ Below w.heap.size w w' :=
  (callsIn_wide.1 (of_in Fence.wide 3 trivial trivial trivial rfl (Nat.le_refl _) A c zs w hx)).mono fun e w' ⟨v, he, hown, hb⟩ => by
    have hl := ofS_len zs
    obtain ⟨A1, c1, rfl, hr⟩ := own_rdU hown (ofS_wd zs) (by omega)
    exact ⟨A1, c1, he, hr, hb⟩
theorem alist_zd (xs : List Nat) (n k : Nat) : 0 ≤ zd (alist xs n) k ∧ zd (alist xs n) k ≤ n := by
  unfold zd
  by_cases h : k < (alist xs n).length
  · have hm := List.getElem_mem h
    simp only [List.getD, List.getElem?_eq_getElem h, Option.getD_some]
    generalize (alist xs n)[k] = z at hm
    unfold alist at hm
    obtain ⟨j, hj, rfl⟩ := List.mem_map.1 hm
    have := List.mem_range.1 (List.mem_filter.1 hj).1
    omega
  · simp only [List.getD, List.getElem?_eq_none (by omega : (alist xs n).length ≤ k), Option.getD_none]
    omega
theorem list_any (A : Option Addr) (c : Nat) (xs : List Nat) (w : World) (hx : RdU w w.heap.size A xs) (hroom : xs.length ≤ 1048576) (hT : Tab w) :
    Calls Tryd.prog 12 #[.slice A xs.length c] w fun e w' => ∃ A1 c1, e = .returned (.slice A1 (alist xs (64 * xs.length)).length c1) ∧ RdI w' w'.heap.size A1 (alist xs (64 * xs.length)) ∧ Below w.heap.size w w' :=
  (callsIn_wide.1 (list_in 3 (Nat.le_refl _) A c xs w hx hroom hT)).mono fun e w' ⟨v, he, hown, hb⟩ => by
    have hl := alist_le xs (64 * xs.length)
    obtain ⟨A1, c1, rfl, hr⟩ := own_rdI hown (fun k => by have := alist_zd xs (64 * xs.length) k; omega) (fun k => by have := alist_zd xs (64 * xs.length) k; omega) (by omega)
    exact ⟨A1, c1, he, hr, hb⟩

theorem rdI_lit (w : World) (t : TypeId) (zs : List Int) (lo : ∀ k, -9223372036854775808 ≤ zd zs k) (hi : ∀ k, zd zs k ≤ 9223372036854775807) (hl : zs.length ≤ 1152921504606846976) :
    RdI (w.alloc (.cells (iVals zs).toArray t)) (w.alloc (.cells (iVals zs).toArray t)).heap.size (some ⟨w.heap.size, 0, none⟩) zs :=
  ⟨lo, hi, hl, fun _ => ⟨w.heap.size, 0, rfl, by simp, fun k hk => by
    have h := iVals_at zs k hk
    simp only [World.cell?, World.alloc_heap_new, Nat.zero_add]
    simpa using h⟩⟩
theorem zd_lo (zs : List Int) (h : ∀ z ∈ zs, -9223372036854775808 ≤ z ∧ z ≤ 9223372036854775807) (k : Nat) : -9223372036854775808 ≤ zd zs k ∧ zd zs k ≤ 9223372036854775807 := by
  unfold zd
  by_cases hk : k < zs.length
  · simp only [List.getD, List.getElem?_eq_getElem hk, Option.getD_some]
    exact h _ (List.getElem_mem hk)
  · simp only [List.getD, List.getElem?_eq_none (by omega : zs.length ≤ k), Option.getD_none]
    omega
theorem rd_lit (w : World) (t : TypeId) (zs : List Int) (h : ∀ z ∈ zs, -9223372036854775808 ≤ z ∧ z ≤ 9223372036854775807) (hl : zs.length ≤ 1152921504606846976) :
    RdI (w.alloc (.cells (iVals zs).toArray t)) (w.alloc (.cells (iVals zs).toArray t)).heap.size (some ⟨w.heap.size, 0, none⟩) zs :=
  rdI_lit w t zs (fun k => (zd_lo zs h k).1) (fun k => (zd_lo zs h k).2) hl
theorem below_alloc (w : World) (o : Obj) : Below w.heap.size w (w.alloc o) := (Below.refl _ w).alloc (Nat.le_refl _) _

set_option maxHeartbeats 1000000 in
theorem alive_any (w : World) (hT : Tab w) :
    Calls Tryd.prog 14 #[] w fun e w' => e = .returned (.bool true) ∧ Below w.heap.size w w' := by
  go_enter Tryd.func14, Tryd.ntmps14
  go_wp2_with fail
  have r0 := rd_lit w 3 [3, 70, 3, -1] (by decide) (by decide)
  have hs := Nat.le_refl w.heap.size
  have hb := below_alloc w (.cells (iVals [3, 70, 3, -1]).toArray 3)
  have hB := hb
  replace hT := hT.step hb
  replace hs := hB.size
  clear hb
  refine (of_any _ 4 [3, 70, 3, -1] _ r0).mono ?_
  rw [show ofS [3, 70, 3, -1] = [8, 64] by decide +kernel]
  rintro e w1 ⟨A1, c1, rfl, r1, hb⟩
  replace hT := hT.step hb
  replace hB := below_step hB hs hb
  replace hs := hB.size
  clear hb r0
  go_wp2_with fail
  have r0 := rd_lit w1 3 [3] (by decide) (by decide)
  have hb := below_alloc w1 (.cells (iVals [3]).toArray 3)
  replace r1 := r1.step hb
  replace hT := hT.step hb
  replace hB := below_step hB hs hb
  replace hs := hB.size
  clear hb
  refine (of_any _ 1 [3] _ r0).mono ?_
  rw [show ofS [3] = [8] by decide +kernel]
  rintro e w2 ⟨A2, c2, rfl, r2, hb⟩
  replace r1 := r1.step hb
  replace r0 := r0.step hb
  replace hT := hT.step hb
  replace hB := below_step hB hs hb
  replace hs := hB.size
  clear hb r0
  go_wp2_with fail
  refine (list_any A1 c1 [8, 64] _ r1 (by decide) hT).mono ?_
  rw [show alist [8, 64] (64 * [8, 64].length) = [3, 70] by decide +kernel]
  rintro e w3 ⟨A3, c3, rfl, r3, hb⟩
  replace r1 := r1.step hb
  replace r2 := r2.step hb
  replace hT := hT.step hb
  replace hB := below_step hB hs hb
  replace hs := hB.size
  clear hb
  go_wp2_with fail
  have r4 := rd_lit w3 3 [3, 70] (by decide) (by decide)
  have hb := below_alloc w3 (.cells (iVals [3, 70]).toArray 3)
  replace r1 := r1.step hb
  replace r2 := r2.step hb
  replace r3 := r3.step hb
  replace hT := hT.step hb
  replace hB := below_step hB hs hb
  replace hs := hB.size
  clear hb
  refine (equalI_same A3 _ c3 2 [3, 70] _ r3 r4).mono ?_
  rintro e w5 ⟨rfl, hb⟩
  replace r1 := r1.step hb
  replace r2 := r2.step hb
  replace r3 := r3.step hb
  replace r4 := r4.step hb
  replace hT := hT.step hb
  replace hB := below_step hB hs hb
  replace hs := hB.size
  clear hb r3 r4
  go_wp2_with fail
  refine (size_any A1 c1 [8, 64] _ r1 (by decide)).mono ?_
  rw [show ones [8, 64] [8, 64].length = 2 by decide +kernel]
  rintro e w' ⟨rfl, rfl⟩
  go_wp2_with fail
  refine (within_any A2 A1 c2 c1 [8] [8, 64] _ r2 r1).mono ?_
  rw [show inB [8] [8, 64] = true by decide +kernel]
  rintro e w' ⟨rfl, rfl⟩
  go_wp2_with fail
  refine (within_any A1 A2 c1 c2 [8, 64] [8] _ r1 r2).mono ?_
  rw [show inB [8, 64] [8] = false by decide +kernel]
  rintro e w' ⟨rfl, rfl⟩
  go_wp2_with fail
  refine (opandN_any A1 A2 c1 c2 [8, 64] [8] _ r1 r2 (by decide) (by decide)).mono ?_
  rw [show mrg andN [8, 64] [8] = [8] by decide +kernel]
  rintro e w6 ⟨A6, c6, rfl, r6, hb⟩
  replace r1 := r1.step hb
  replace r2 := r2.step hb
  replace hT := hT.step hb
  replace hB := below_step hB hs hb
  replace hs := hB.size
  clear hb r6
  go_wp2_with fail
  refine (oplessN_any A2 A1 c2 c1 [8] [8, 64] _ r2 r1 (by decide) (by decide)).mono ?_
  rw [show mrg lessN [8] [8, 64] = [] by decide +kernel]
  rintro e w7 ⟨A7, c7, rfl, r7, hb⟩
  replace r1 := r1.step hb
  replace r2 := r2.step hb
  replace hT := hT.step hb
  replace hB := below_step hB hs hb
  replace hs := hB.size
  clear hb r7
  go_wp2_with fail
  refine (oporN_any A1 A2 c1 c2 [8, 64] [8] _ r1 r2 (by decide) (by decide)).mono ?_
  rw [show mrg orN [8, 64] [8] = [8, 64] by decide +kernel]
  rintro e w8 ⟨A8, c8, rfl, r8, hb⟩
  replace r1 := r1.step hb
  replace r2 := r2.step hb
  replace hT := hT.step hb
  replace hB := below_step hB hs hb
  replace hs := hB.size
  clear hb r8
  go_wp2
  go_ret
  exact ⟨rfl, hB⟩
end Go.Proofs.YtfpgdkbgmmpncaaDoor
