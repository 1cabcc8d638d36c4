/-
  alive7 answers true; Tick, Within and Join at a nil slice.
-/
import Derived.Test.YtmnhdboakpaibaaVcG
import Derived.RangeFuncBox
namespace Go.Proofs.Ytmnhdboakpaibaa
open Go.RowKit Go.Shelf
set_option maxRecDepth 100000

theorem rdU_nilV (w : World) : RdU w w.heap.size none [] := ⟨fun k => by simp [wd], by simp, fun h => absurd h (by simp)⟩
theorem tickNil_any (i : Int) (w : World) (hi1 : -9223372036854775808 ≤ i) (hi2 : i ≤ 9223372036854775807) :
    Calls Try.prog 10 #[.slice none 0 0, .int .i64 i] w (OutU w (vTick [] i)) := tick_any none 0 [] i w (rdU_nilV w) (Nat.le_refl _) (by simp) hi1 hi2
theorem joinNil_any (A : Option Addr) (c : Nat) (xs : List Nat) (w : World) (hx : RdU w w.heap.size A xs) (hcap : xs.length ≤ c) (hl : xs.length ≤ 2097152) :
    Calls Try.prog 12 #[.slice A xs.length c, .slice none 0 0] w (OutU w (vJoin xs [])) := join_anyV A none c 0 xs [] w hx (rdU_nilV w) hcap (Nat.le_refl _) hl (by simp)
theorem vinNil_any (A : Option Addr) (c : Nat) (xs : List Nat) (w : World) (hx : RdU w w.heap.size A xs) :
    Calls Try.prog 14 #[.slice A xs.length c, .slice none 0 0] w fun e w' => e = .returned (.bool (vIn xs [])) ∧ w = w' := vin_any A none c 0 xs [] w hx (rdU_nilV w)
theorem wd_small {xs : List Nat} (h : ∀ x ∈ xs, x < 18446744073709551616) (k : Nat) : wd xs k < 18446744073709551616 := by
  unfold wd
  by_cases hk : k < xs.length
  · simp only [List.getD, List.getElem?_eq_getElem hk, Option.getD_some]
    exact h _ (List.getElem_mem hk)
  · simp only [List.getD, List.getElem?_eq_none (by omega : xs.length ≤ k), Option.getD_none]
    omega
theorem rdU_lit (w : World) (t : TypeId) (xs : List Nat) (h : ∀ x ∈ xs, x < 18446744073709551616) (hl : xs.length ≤ 1152921504606846976) :
    RdU (w.alloc (.cells (uVals xs).toArray t)) (w.alloc (.cells (uVals xs).toArray t)).heap.size (some ⟨w.heap.size, 0, none⟩) xs :=
  ⟨wd_small h, hl, fun _ => ⟨w.heap.size, 0, rfl, by simp, fun k hk => by
    have h := uVals_at xs k hk
    simp only [World.cell?, World.alloc_heap_new, Nat.zero_add]
    simpa using h⟩⟩
theorem vJoin_len (xs ys : List Nat) : (vJoin xs ys).length ≤ max xs.length ys.length := vec_len_le _ _
theorem vTick_len (xs : List Nat) (i : Int) : (vTick xs i).length ≤ xs.length + 65536 := by
  have := vec_len_le (tckF xs i) (tckN xs i)
  unfold vTick
  have h2 : tckN xs i ≤ xs.length + 65536 := by unfold tckN; split <;> omega
  omega

set_option maxHeartbeats 1000000 in
theorem alive7_any (w : World) :
    Calls Try.prog 16 #[] w fun e w' => e = .returned (.bool true) ∧ Below w.heap.size w w' := by
  have hB := Below.refl w.heap.size w
  have hs := Nat.le_refl w.heap.size
  go_enter Try.func16, Try.ntmps16
  go_wp2_with fail
  refine (tickNil_any 2 _ (by decide) (by decide)).mono ?_
  rw [show vTick [] 2 = [0, 0, 1] by decide +kernel]
  rintro e w1 ⟨A1, c1, rfl, k1, r1, hb⟩
  replace hB := below_step hB hs hb; replace hs := hB.size; clear hb
  go_wp2_with fail
  refine (tick_any A1 c1 [0, 0, 1] 0 _ r1 k1 (by decide) (by decide) (by decide)).mono ?_
  rw [show vTick [0, 0, 1] 0 = [1, 0, 1] by decide +kernel]
  rintro e w2 ⟨A2, c2, rfl, k2, r2, hb⟩
  replace r1 := r1.step hb; replace hB := below_step hB hs hb; replace hs := hB.size; clear hb
  clear r1
  go_wp2_with fail
  have r3 := rdU_lit w2 23 [1, 0, 1] (by decide) (by decide)
  have hb := (Below.refl w2.heap.size w2).alloc (Nat.le_refl _) (.cells (uVals [1, 0, 1]).toArray 23)
  replace r2 := r2.step hb; replace hB := below_step hB hs hb; replace hs := hB.size; clear hb
  refine (equalU_b A2 _ c2 3 [1, 0, 1] [1, 0, 1] _ r2 r3).mono ?_
  rw [decide_eq_true rfl]
  rintro e w3 ⟨rfl, hb⟩
  replace r2 := r2.step hb; replace r3 := r3.step hb; replace hB := below_step hB hs hb; replace hs := hB.size; clear hb
  clear r3
  go_wp2_with fail
  refine (vat_any A2 c2 [1, 0, 1] 2 _ r2).mono ?_
  rw [show vAt [1, 0, 1] 2 = 1 by decide +kernel]
  rintro e w4 ⟨rfl, rfl⟩
  go_wp2_with fail
  refine (tickNil_any 2 _ (by decide) (by decide)).mono ?_
  rw [show vTick [] 2 = [0, 0, 1] by decide +kernel]
  rintro e w5 ⟨A4, c4, rfl, k4, r4, hb⟩
  replace r2 := r2.step hb; replace hB := below_step hB hs hb; replace hs := hB.size; clear hb
  go_wp2_with fail
  refine (vin_any A4 A2 c4 c2 [0, 0, 1] [1, 0, 1] _ r4 r2).mono ?_
  rw [show vIn [0, 0, 1] [1, 0, 1] = true by decide +kernel]
  rintro e w6 ⟨rfl, rfl⟩
  clear r4
  go_wp2_with fail
  refine (vinNil_any A2 c2 [1, 0, 1] _ r2).mono ?_
  rw [show vIn [1, 0, 1] [] = false by decide +kernel]
  rintro e w7 ⟨rfl, rfl⟩
  go_wp2_with fail
  refine (joinNil_any A2 c2 [1, 0, 1] _ r2 k2 (by decide)).mono ?_
  rw [show vJoin [1, 0, 1] [] = [1, 0, 1] by decide +kernel]
  rintro e w8 ⟨A5, c5, rfl, k5, r5, hb⟩
  replace r2 := r2.step hb; replace hB := below_step hB hs hb; replace hs := hB.size; clear hb
  go_wp2_with fail
  go_ret
  exact ⟨rfl, hB⟩
end Go.Proofs.Ytmnhdboakpaibaa
