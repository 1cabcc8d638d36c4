/-
  The law VectorTells answers true, for every two slices of at most 2^20 words and every int.
-/
import Derived.Test.YtmnhdboakpaibaaVcAl
namespace Go.Proofs.Ytmnhdboakpaibaa
open Go.RowKit Go.Shelf
set_option maxRecDepth 100000

set_option maxHeartbeats 4000000 in
theorem vtells_any (A B : Option Addr) (ca cb : Nat) (xs ys : List Nat) (i : Int) (w : World) (hx : RdU w w.heap.size A xs) (hy : RdU w w.heap.size B ys) (hca : xs.length ≤ ca) (hcb : ys.length ≤ cb) (hxl : xs.length ≤ 1048576) (hyl : ys.length ≤ 1048576) (hi1 : -9223372036854775808 ≤ i) (hi2 : i ≤ 9223372036854775807) :
    Calls Try.prog 3 #[.slice A xs.length ca, .slice B ys.length cb, .int .i64 i] w fun e w' => e = .returned (.bool true) ∧ Below w.heap.size w w' := by
  have hB := Below.refl w.heap.size w
  have hs := Nat.le_refl w.heap.size
  go_enter Try.func3, Try.ntmps3
  go_wp2_with fail
  refine (vat_any A ca xs i _ hx).mono ?_
  rintro e w1 ⟨rfl, rfl⟩
  go_wp2_with fail
  refine (hand_any A ca xs i _ hx).mono ?_
  rintro e w2 ⟨rfl, rfl⟩
  go_wp2_with fail
  refine (tick_any A ca xs i _ hx hca (by omega) hi1 hi2).mono ?_
  rintro e w3 ⟨A1, c1, rfl, k1, r1, hb⟩
  replace hx := hx.step hb; replace hy := hy.step hb; replace hB := below_step hB hs hb; replace hs := hB.size; clear hb
  go_wp2_with fail
  refine (gtick_any A ca xs i _ hx hxl).mono ?_
  rintro e w4 ⟨A2, c2, rfl, k2, r2, hb⟩
  replace hx := hx.step hb; replace hy := hy.step hb; replace r1 := r1.step hb; replace hB := below_step hB hs hb; replace hs := hB.size; clear hb
  go_wp2_with fail
  refine (equalU_b A1 A2 c1 c2 _ _ _ r1 r2).mono ?_
  rw [decide_eq_true rfl]
  rintro e w5 ⟨rfl, hb⟩
  replace hx := hx.step hb; replace hy := hy.step hb; replace r1 := r1.step hb; replace r2 := r2.step hb; replace hB := below_step hB hs hb; replace hs := hB.size; clear hb
  clear r1 r2
  go_wp2_with fail
  refine (join_anyV A B ca cb xs ys _ hx hy hca hcb (by omega) (by omega)).mono ?_
  rintro e w6 ⟨A3, c3, rfl, k3, r3, hb⟩
  replace hx := hx.step hb; replace hy := hy.step hb; replace hB := below_step hB hs hb; replace hs := hB.size; clear hb
  go_wp2_with fail
  refine (gjoin_any A B ca cb xs ys _ hx hy hxl hyl).mono ?_
  rintro e w7 ⟨A4, c4, rfl, k4, r4, hb⟩
  replace hx := hx.step hb; replace hy := hy.step hb; replace r3 := r3.step hb; replace hB := below_step hB hs hb; replace hs := hB.size; clear hb
  go_wp2_with fail
  refine (equalU_b A3 A4 c3 c4 _ _ _ r3 r4).mono ?_
  rw [decide_eq_true rfl]
  rintro e w8 ⟨rfl, hb⟩
  replace hx := hx.step hb; replace hy := hy.step hb; replace r3 := r3.step hb; replace r4 := r4.step hb; replace hB := below_step hB hs hb; replace hs := hB.size; clear hb
  clear r3 r4
  go_wp2_with fail
  refine (vin_any A B ca cb xs ys _ hx hy).mono ?_
  rintro e w9 ⟨rfl, rfl⟩
  go_wp2_with fail
  refine (gvin_any A B ca cb xs ys _ hx hy).mono ?_
  rintro e w10 ⟨rfl, rfl⟩
  go_wp2_with fail
  go_ret
  exact ⟨rfl, hB⟩
end Go.Proofs.Ytmnhdboakpaibaa
