/-
  The law VectorJoins answers true, for every three slices of at most 2^20 words.
-/
import Derived.Test.YtmnhdboakpaibaaVcAl
namespace Go.Proofs.Ytmnhdboakpaibaa
open Go.RowKit Go.Shelf
set_option maxRecDepth 100000

set_option maxHeartbeats 4000000 in
theorem vjoins_any (A B C : Option Addr) (ca cb cc : Nat) (xs ys us : List Nat) (w : World) (hx : RdU w w.heap.size A xs) (hy : RdU w w.heap.size B ys) (hu : RdU w w.heap.size C us) (hca : xs.length ≤ ca) (hcb : ys.length ≤ cb) (hcc : us.length ≤ cc) (hxl : xs.length ≤ 1048576) (hyl : ys.length ≤ 1048576) (hul : us.length ≤ 1048576) :
    Calls Try.prog 4 #[.slice A xs.length ca, .slice B ys.length cb, .slice C us.length cc] w fun e w' => e = .returned (.bool true) ∧ Below w.heap.size w w' := by
  have hB := Below.refl w.heap.size w
  have hs := Nat.le_refl w.heap.size
  have q := vIn_join xs ys us
  have l1 := vJoin_len xs ys
  have l2 := vJoin_len ys us
  go_enter Try.func4, Try.ntmps4
  go_wp2_with fail
  refine (alive7_any _).mono ?_
  rintro e w1 ⟨rfl, hb⟩
  replace hx := hx.step hb; replace hy := hy.step hb; replace hu := hu.step hb; replace hB := below_step hB hs hb; replace hs := hB.size; clear hb
  go_wp2_with fail
  refine (join_anyV A B ca cb xs ys _ hx hy hca hcb (by omega) (by omega)).mono ?_
  rintro e w2 ⟨A1, c1, rfl, k1, r1, hb⟩
  replace hx := hx.step hb; replace hy := hy.step hb; replace hu := hu.step hb; replace hB := below_step hB hs hb; replace hs := hB.size; clear hb
  go_wp2_with fail
  refine (join_anyV B A cb ca ys xs _ hy hx hcb hca (by omega) (by omega)).mono ?_
  rintro e w3 ⟨A2, c2, rfl, k2, r2, hb⟩
  replace hx := hx.step hb; replace hy := hy.step hb; replace hu := hu.step hb; replace r1 := r1.step hb; replace hB := below_step hB hs hb; replace hs := hB.size; clear hb
  go_wp2_with fail
  refine (equalU_b A1 A2 c1 c2 _ _ _ r1 r2).mono ?_
  rw [decide_eq_true (vJoin_comm xs ys)]
  rintro e w4 ⟨rfl, hb⟩
  replace hx := hx.step hb; replace hy := hy.step hb; replace hu := hu.step hb; replace r1 := r1.step hb; replace r2 := r2.step hb; replace hB := below_step hB hs hb; replace hs := hB.size; clear hb
  clear r1 r2
  go_wp2_with fail
  refine (join_anyV B C cb cc ys us _ hy hu hcb hcc (by omega) (by omega)).mono ?_
  rintro e w5 ⟨A3, c3, rfl, k3, r3, hb⟩
  replace hx := hx.step hb; replace hy := hy.step hb; replace hu := hu.step hb; replace hB := below_step hB hs hb; replace hs := hB.size; clear hb
  go_wp2_with fail
  refine (join_anyV A A3 ca c3 xs (vJoin ys us) _ hx r3 hca k3 (by omega) (by omega)).mono ?_
  rintro e w6 ⟨A4, c4, rfl, k4, r4, hb⟩
  replace hx := hx.step hb; replace hy := hy.step hb; replace hu := hu.step hb; replace r3 := r3.step hb; replace hB := below_step hB hs hb; replace hs := hB.size; clear hb
  clear r3
  go_wp2_with fail
  refine (join_anyV A B ca cb xs ys _ hx hy hca hcb (by omega) (by omega)).mono ?_
  rintro e w7 ⟨A5, c5, rfl, k5, r5, hb⟩
  replace hx := hx.step hb; replace hy := hy.step hb; replace hu := hu.step hb; replace r4 := r4.step hb; replace hB := below_step hB hs hb; replace hs := hB.size; clear hb
  go_wp2_with fail
  refine (join_anyV A5 C c5 cc (vJoin xs ys) us _ r5 hu k5 hcc (by omega) (by omega)).mono ?_
  rintro e w8 ⟨A6, c6, rfl, k6, r6, hb⟩
  replace hx := hx.step hb; replace hy := hy.step hb; replace hu := hu.step hb; replace r4 := r4.step hb; replace r5 := r5.step hb; replace hB := below_step hB hs hb; replace hs := hB.size; clear hb
  clear r5
  go_wp2_with fail
  refine (equalU_b A4 A6 c4 c6 _ _ _ r4 r6).mono ?_
  rw [decide_eq_true (vJoin_assoc xs ys us)]
  rintro e w9 ⟨rfl, hb⟩
  replace hx := hx.step hb; replace hy := hy.step hb; replace hu := hu.step hb; replace r4 := r4.step hb; replace r6 := r6.step hb; replace hB := below_step hB hs hb; replace hs := hB.size; clear hb
  clear r4 r6
  go_wp2_with fail
  refine (join_anyV A A ca ca xs xs _ hx hx hca hca (by omega) (by omega)).mono ?_
  rintro e w10 ⟨A7, c7, rfl, k7, r7, hb⟩
  replace hx := hx.step hb; replace hy := hy.step hb; replace hu := hu.step hb; replace hB := below_step hB hs hb; replace hs := hB.size; clear hb
  go_wp2_with fail
  refine (joinNil_any A ca xs _ hx hca (by omega)).mono ?_
  rintro e w11 ⟨A8, c8, rfl, k8, r8, hb⟩
  replace hx := hx.step hb; replace hy := hy.step hb; replace hu := hu.step hb; replace r7 := r7.step hb; replace hB := below_step hB hs hb; replace hs := hB.size; clear hb
  go_wp2_with fail
  refine (equalU_b A7 A8 c7 c8 _ _ _ r7 r8).mono ?_
  rw [decide_eq_true (vJoin_self xs)]
  rintro e w12 ⟨rfl, hb⟩
  replace hx := hx.step hb; replace hy := hy.step hb; replace hu := hu.step hb; replace r7 := r7.step hb; replace r8 := r8.step hb; replace hB := below_step hB hs hb; replace hs := hB.size; clear hb
  clear r7 r8
  go_wp2_with fail
  refine (join_anyV A B ca cb xs ys _ hx hy hca hcb (by omega) (by omega)).mono ?_
  rintro e w13 ⟨A9, c9, rfl, k9, r9, hb⟩
  replace hx := hx.step hb; replace hy := hy.step hb; replace hu := hu.step hb; replace hB := below_step hB hs hb; replace hs := hB.size; clear hb
  go_wp2_with fail
  refine (vin_any A9 C c9 cc (vJoin xs ys) us _ r9 hu).mono ?_
  rw [q]
  rintro e w14 ⟨rfl, rfl⟩
  cases ha : vIn xs us <;> cases hb : vIn ys us
  all_goals
    rw [ha, hb] at q
    simp only [Bool.and_true, Bool.and_false]
    repeat (go_wp2_with fail; first
      | (with_reducible refine (vin_any A C ca cc xs us _ hx hu).mono ?_; rw [ha]; rintro e w' ⟨rfl, rfl⟩)
      | (with_reducible refine (vin_any B C cb cc ys us _ hy hu).mono ?_; rw [hb]; rintro e w' ⟨rfl, rfl⟩))
    go_wp2_with fail
    go_ret
    exact ⟨rfl, hB⟩
end Go.Proofs.Ytmnhdboakpaibaa
