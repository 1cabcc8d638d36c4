/-
  The law BitsetAlgebra answers true, for every three slices of at most 2^20 words, where the library's table holds its own numbers.
-/
import Derived.Test.YtfpgdkbgmmpncaaDoorBsLawWithin
namespace Go.Proofs.YtfpgdkbgmmpncaaDoor
open Go.RowKit

set_option maxHeartbeats 4000000 in
theorem algebraLaw_any (A B C : Option Addr) (ca cb cc : Nat) (xs ys us : List Nat) (w : World) (hx : RdU w w.heap.size A xs) (hy : RdU w w.heap.size B ys) (hu : RdU w w.heap.size C us)
    (hxl : xs.length ≤ 1048576) (hyl : ys.length ≤ 1048576) (hul : us.length ≤ 1048576) (hT : Tab w) :
    Calls Tryd.prog 4 #[.slice A xs.length ca, .slice B ys.length cb, .slice C us.length cc] w fun e w' => e = .returned (.bool true) ∧ Below w.heap.size w w' := by
  have wx : Ws xs := hx.lt
  have wy : Ws ys := hy.lt
  have wu : Ws us := hu.lt
  go_enter Tryd.func4, Tryd.ntmps4
  go_wp2_with fail
  have hs := Nat.le_refl w.heap.size
  refine (alive_any w hT).mono ?_
  rintro e w0 ⟨rfl, hB⟩
  replace hx := hx.step hB
  replace hy := hy.step hB
  replace hu := hu.step hB
  replace hs := hB.size
  clear hT
  go_wp2_with fail
  refine (opandN_any A B ca cb xs ys _ hx hy (by omega) (by omega)).mono ?_
  rintro e w1 ⟨A1, c1, rfl, r1, hb⟩
  replace hx := hx.step hb
  replace hy := hy.step hb
  replace hu := hu.step hb
  replace hB := below_step hB hs hb
  replace hs := hB.size
  clear hb
  have le1 := mrg_le andN xs ys
  go_wp2_with fail
  refine (opandN_any B A cb ca ys xs _ hy hx (by omega) (by omega)).mono ?_
  rintro e w2 ⟨A2, c2, rfl, r2, hb⟩
  replace hx := hx.step hb
  replace hy := hy.step hb
  replace hu := hu.step hb
  replace r1 := r1.step hb
  replace hB := below_step hB hs hb
  replace hs := hB.size
  clear hb
  have le2 := mrg_le andN ys xs
  go_wp2_with fail
  have heq : decide ((mrg andN xs ys) = (mrg andN ys xs)) = true := decide_eq_true (and_comm' wx wy)
  refine (equalU_b A1 A2 c1 c2 (mrg andN xs ys) (mrg andN ys xs) _ r1 r2).mono ?_
  rw [heq]
  rintro e we ⟨rfl, hb⟩
  replace hx := hx.step hb
  replace hy := hy.step hb
  replace hu := hu.step hb
  replace r1 := r1.step hb
  replace r2 := r2.step hb
  replace hB := below_step hB hs hb
  replace hs := hB.size
  clear hb r1 r2 le1 le2 heq
  go_wp2_with fail
  refine (oporN_any A B ca cb xs ys _ hx hy (by omega) (by omega)).mono ?_
  rintro e w3 ⟨A3, c3, rfl, r3, hb⟩
  replace hx := hx.step hb
  replace hy := hy.step hb
  replace hu := hu.step hb
  replace hB := below_step hB hs hb
  replace hs := hB.size
  clear hb
  have le3 := mrg_le orN xs ys
  go_wp2_with fail
  refine (oporN_any B A cb ca ys xs _ hy hx (by omega) (by omega)).mono ?_
  rintro e w4 ⟨A4, c4, rfl, r4, hb⟩
  replace hx := hx.step hb
  replace hy := hy.step hb
  replace hu := hu.step hb
  replace r3 := r3.step hb
  replace hB := below_step hB hs hb
  replace hs := hB.size
  clear hb
  have le4 := mrg_le orN ys xs
  go_wp2_with fail
  have heq : decide ((mrg orN xs ys) = (mrg orN ys xs)) = true := decide_eq_true (or_comm' wx wy)
  refine (equalU_b A3 A4 c3 c4 (mrg orN xs ys) (mrg orN ys xs) _ r3 r4).mono ?_
  rw [heq]
  rintro e we ⟨rfl, hb⟩
  replace hx := hx.step hb
  replace hy := hy.step hb
  replace hu := hu.step hb
  replace r3 := r3.step hb
  replace r4 := r4.step hb
  replace hB := below_step hB hs hb
  replace hs := hB.size
  clear hb r3 r4 le3 le4 heq
  go_wp2_with fail
  refine (oporN_any B C cb cc ys us _ hy hu (by omega) (by omega)).mono ?_
  rintro e w5 ⟨A5, c5, rfl, r5, hb⟩
  replace hx := hx.step hb
  replace hy := hy.step hb
  replace hu := hu.step hb
  replace hB := below_step hB hs hb
  replace hs := hB.size
  clear hb
  have le5 := mrg_le orN ys us
  go_wp2_with fail
  refine (opandN_any A A5 ca c5 xs (mrg orN ys us) _ hx r5 (by omega) (by omega)).mono ?_
  rintro e w6 ⟨A6, c6, rfl, r6, hb⟩
  replace hx := hx.step hb
  replace hy := hy.step hb
  replace hu := hu.step hb
  replace r5 := r5.step hb
  replace hB := below_step hB hs hb
  replace hs := hB.size
  clear hb
  have le6 := mrg_le andN xs (mrg orN ys us)
  go_wp2_with fail
  refine (opandN_any A B ca cb xs ys _ hx hy (by omega) (by omega)).mono ?_
  rintro e w7 ⟨A7, c7, rfl, r7, hb⟩
  replace hx := hx.step hb
  replace hy := hy.step hb
  replace hu := hu.step hb
  replace r5 := r5.step hb
  replace r6 := r6.step hb
  replace hB := below_step hB hs hb
  replace hs := hB.size
  clear hb
  have le7 := mrg_le andN xs ys
  go_wp2_with fail
  refine (opandN_any A C ca cc xs us _ hx hu (by omega) (by omega)).mono ?_
  rintro e w8 ⟨A8, c8, rfl, r8, hb⟩
  replace hx := hx.step hb
  replace hy := hy.step hb
  replace hu := hu.step hb
  replace r5 := r5.step hb
  replace r6 := r6.step hb
  replace r7 := r7.step hb
  replace hB := below_step hB hs hb
  replace hs := hB.size
  clear hb
  have le8 := mrg_le andN xs us
  go_wp2_with fail
  refine (oporN_any A7 A8 c7 c8 (mrg andN xs ys) (mrg andN xs us) _ r7 r8 (by omega) (by omega)).mono ?_
  rintro e w9 ⟨A9, c9, rfl, r9, hb⟩
  replace hx := hx.step hb
  replace hy := hy.step hb
  replace hu := hu.step hb
  replace r5 := r5.step hb
  replace r6 := r6.step hb
  replace r7 := r7.step hb
  replace r8 := r8.step hb
  replace hB := below_step hB hs hb
  replace hs := hB.size
  clear hb
  have le9 := mrg_le orN (mrg andN xs ys) (mrg andN xs us)
  go_wp2_with fail
  have heq : decide ((mrg andN xs (mrg orN ys us)) = (mrg orN (mrg andN xs ys) (mrg andN xs us))) = true := decide_eq_true (and_over wx wy wu)
  refine (equalU_b A6 A9 c6 c9 (mrg andN xs (mrg orN ys us)) (mrg orN (mrg andN xs ys) (mrg andN xs us)) _ r6 r9).mono ?_
  rw [heq]
  rintro e we ⟨rfl, hb⟩
  replace hx := hx.step hb
  replace hy := hy.step hb
  replace hu := hu.step hb
  replace r5 := r5.step hb
  replace r6 := r6.step hb
  replace r7 := r7.step hb
  replace r8 := r8.step hb
  replace r9 := r9.step hb
  replace hB := below_step hB hs hb
  replace hs := hB.size
  clear hb r5 r6 r7 r8 r9 le5 le6 le7 le8 le9 heq
  go_wp2_with fail
  refine (opandN_any B C cb cc ys us _ hy hu (by omega) (by omega)).mono ?_
  rintro e w10 ⟨A10, c10, rfl, r10, hb⟩
  replace hx := hx.step hb
  replace hy := hy.step hb
  replace hu := hu.step hb
  replace hB := below_step hB hs hb
  replace hs := hB.size
  clear hb
  have le10 := mrg_le andN ys us
  go_wp2_with fail
  refine (oporN_any A A10 ca c10 xs (mrg andN ys us) _ hx r10 (by omega) (by omega)).mono ?_
  rintro e w11 ⟨A11, c11, rfl, r11, hb⟩
  replace hx := hx.step hb
  replace hy := hy.step hb
  replace hu := hu.step hb
  replace r10 := r10.step hb
  replace hB := below_step hB hs hb
  replace hs := hB.size
  clear hb
  have le11 := mrg_le orN xs (mrg andN ys us)
  go_wp2_with fail
  refine (oporN_any A B ca cb xs ys _ hx hy (by omega) (by omega)).mono ?_
  rintro e w12 ⟨A12, c12, rfl, r12, hb⟩
  replace hx := hx.step hb
  replace hy := hy.step hb
  replace hu := hu.step hb
  replace r10 := r10.step hb
  replace r11 := r11.step hb
  replace hB := below_step hB hs hb
  replace hs := hB.size
  clear hb
  have le12 := mrg_le orN xs ys
  go_wp2_with fail
  refine (oporN_any A C ca cc xs us _ hx hu (by omega) (by omega)).mono ?_
  rintro e w13 ⟨A13, c13, rfl, r13, hb⟩
  replace hx := hx.step hb
  replace hy := hy.step hb
  replace hu := hu.step hb
  replace r10 := r10.step hb
  replace r11 := r11.step hb
  replace r12 := r12.step hb
  replace hB := below_step hB hs hb
  replace hs := hB.size
  clear hb
  have le13 := mrg_le orN xs us
  go_wp2_with fail
  refine (opandN_any A12 A13 c12 c13 (mrg orN xs ys) (mrg orN xs us) _ r12 r13 (by omega) (by omega)).mono ?_
  rintro e w14 ⟨A14, c14, rfl, r14, hb⟩
  replace hx := hx.step hb
  replace hy := hy.step hb
  replace hu := hu.step hb
  replace r10 := r10.step hb
  replace r11 := r11.step hb
  replace r12 := r12.step hb
  replace r13 := r13.step hb
  replace hB := below_step hB hs hb
  replace hs := hB.size
  clear hb
  have le14 := mrg_le andN (mrg orN xs ys) (mrg orN xs us)
  go_wp2_with fail
  have heq : decide ((mrg orN xs (mrg andN ys us)) = (mrg andN (mrg orN xs ys) (mrg orN xs us))) = true := decide_eq_true (or_over wx wy wu)
  refine (equalU_b A11 A14 c11 c14 (mrg orN xs (mrg andN ys us)) (mrg andN (mrg orN xs ys) (mrg orN xs us)) _ r11 r14).mono ?_
  rw [heq]
  rintro e we ⟨rfl, hb⟩
  replace hx := hx.step hb
  replace hy := hy.step hb
  replace hu := hu.step hb
  replace r10 := r10.step hb
  replace r11 := r11.step hb
  replace r12 := r12.step hb
  replace r13 := r13.step hb
  replace r14 := r14.step hb
  replace hB := below_step hB hs hb
  replace hs := hB.size
  clear hb r10 r11 r12 r13 r14 le10 le11 le12 le13 le14 heq
  go_wp2_with fail
  refine (opandN_any A B ca cb xs ys _ hx hy (by omega) (by omega)).mono ?_
  rintro e w15 ⟨A15, c15, rfl, r15, hb⟩
  replace hx := hx.step hb
  replace hy := hy.step hb
  replace hu := hu.step hb
  replace hB := below_step hB hs hb
  replace hs := hB.size
  clear hb
  have le15 := mrg_le andN xs ys
  go_wp2_with fail
  refine (oplessN_any A B ca cb xs ys _ hx hy (by omega) (by omega)).mono ?_
  rintro e w16 ⟨A16, c16, rfl, r16, hb⟩
  replace hx := hx.step hb
  replace hy := hy.step hb
  replace hu := hu.step hb
  replace r15 := r15.step hb
  replace hB := below_step hB hs hb
  replace hs := hB.size
  clear hb
  have le16 := mrg_le lessN xs ys
  go_wp2_with fail
  refine (oporN_any A15 A16 c15 c16 (mrg andN xs ys) (mrg lessN xs ys) _ r15 r16 (by omega) (by omega)).mono ?_
  rintro e w17 ⟨A17, c17, rfl, r17, hb⟩
  replace hx := hx.step hb
  replace hy := hy.step hb
  replace hu := hu.step hb
  replace r15 := r15.step hb
  replace r16 := r16.step hb
  replace hB := below_step hB hs hb
  replace hs := hB.size
  clear hb
  have le17 := mrg_le orN (mrg andN xs ys) (mrg lessN xs ys)
  go_wp2_with fail
  refine (orNil_any A ca xs _ hx (by omega)).mono ?_
  rintro e w18 ⟨A18, c18, rfl, r18, hb⟩
  replace hx := hx.step hb
  replace hy := hy.step hb
  replace hu := hu.step hb
  replace r15 := r15.step hb
  replace r16 := r16.step hb
  replace r17 := r17.step hb
  replace hB := below_step hB hs hb
  replace hs := hB.size
  clear hb
  go_wp2_with fail
  have heq : decide ((mrg orN (mrg andN xs ys) (mrg lessN xs ys)) = (mrg orN xs [])) = true := decide_eq_true (and_less wx wy)
  refine (equalU_b A17 A18 c17 c18 (mrg orN (mrg andN xs ys) (mrg lessN xs ys)) (mrg orN xs []) _ r17 r18).mono ?_
  rw [heq]
  rintro e we ⟨rfl, hb⟩
  replace hx := hx.step hb
  replace hy := hy.step hb
  replace hu := hu.step hb
  replace r15 := r15.step hb
  replace r16 := r16.step hb
  replace r17 := r17.step hb
  replace r18 := r18.step hb
  replace hB := below_step hB hs hb
  replace hs := hB.size
  clear hb r15 r16 r17 r18 le15 le16 le17 heq
  go_wp2_with fail
  refine (oplessN_any A B ca cb xs ys _ hx hy (by omega) (by omega)).mono ?_
  rintro e w19 ⟨A19, c19, rfl, r19, hb⟩
  replace hx := hx.step hb
  replace hy := hy.step hb
  replace hu := hu.step hb
  replace hB := below_step hB hs hb
  replace hs := hB.size
  clear hb
  have le19 := mrg_le lessN xs ys
  go_wp2_with fail
  refine (opandN_any A19 B c19 cb (mrg lessN xs ys) ys _ r19 hy (by omega) (by omega)).mono ?_
  rw [less_and wx wy]
  rintro e w20 ⟨A20, c20, rfl, r20, hb⟩
  replace hx := hx.step hb
  replace hy := hy.step hb
  replace hu := hu.step hb
  replace r19 := r19.step hb
  replace hB := below_step hB hs hb
  replace hs := hB.size
  clear hb
  have le20 := mrg_le andN (mrg lessN xs ys) ys
  go_wp2
  go_ret
  exact ⟨rfl, hB⟩
end Go.Proofs.YtfpgdkbgmmpncaaDoor
