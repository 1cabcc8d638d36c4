/-
  The walk of the law BitsetSets: it answers true for every two slices of at most 2^20 words.
-/
import Derived.Test.YtfpgdkbgmmpncaaBsD
namespace Go.Proofs.Ytfpgdkbgmmpncaa
open Go.RowKit

theorem less_awl (xs ys : List Nat) (hx : ∀ k, wd xs k < 18446744073709551616) (hy : ∀ k, wd ys k < 18446744073709551616) : mrg lessN xs ys = awl (fun n => fL (bitB xs n) (bitB ys n)) (64 * max xs.length ys.length) :=
  awl_mrg rfl rfl (fun _ _ h _ => lessN_lt _ _ h) (fun _ _ _ _ hy hj => testBit_lessN _ _ hy _ hj) xs ys hx hy
theorem and_awl (xs ys : List Nat) (hx : ∀ k, wd xs k < 18446744073709551616) (hy : ∀ k, wd ys k < 18446744073709551616) : mrg andN xs ys = awl (fun n => fA (bitB xs n) (bitB ys n)) (64 * max xs.length ys.length) :=
  awl_mrg rfl rfl (fun _ _ h _ => andN_lt _ _ h) (fun _ _ _ _ _ _ => Nat.testBit_and _ _ _) xs ys hx hy
theorem or_awl (xs ys : List Nat) (hx : ∀ k, wd xs k < 18446744073709551616) (hy : ∀ k, wd ys k < 18446744073709551616) : mrg orN xs ys = awl (fun n => fO (bitB xs n) (bitB ys n)) (64 * max xs.length ys.length) :=
  awl_mrg rfl rfl (fun _ _ h h' => orN_lt _ _ h h') (fun _ _ _ _ _ _ => Nat.testBit_or _ _ _) xs ys hx hy
theorem mrg_room {f : Nat → Nat → Nat} {xs ys : List Nat} (hx : xs.length ≤ 35184372088832) (hy : ys.length ≤ 35184372088832) : (mrg f xs ys).length ≤ 1152921504606846976 := by
  have := mrg_le f xs ys; omega
theorem inB_less (xs ys : List Nat) : inB xs ys = decide ((mrg lessN xs ys).length = 0) := by
  unfold inB
  rw [Bool.eq_iff_iff, decide_eq_true_iff, decide_eq_true_iff]
  constructor
  · intro h
    rcases mrg_noTail lessN xs ys with e | e
    · rw [e]; rfl
    · exfalso
      rw [mrg_wd rfl] at e
      by_cases hk : (mrg lessN xs ys).length - 1 < xs.length
      · exact e (h _ hk)
      · rw [wd_out xs _ (by omega)] at e
        exact e (Nat.zero_and _)
  · intro h k _
    have := mrg_wd (f := lessN) rfl xs ys k
    rw [← this]
    exact wd_out _ _ (by omega)

set_option maxHeartbeats 1000000 in
theorem sets_any (A A' : Option Addr) (c c' : Nat) (xs ys : List Nat) (w : World) (hx : RdU w w.heap.size A xs) (hy : RdU w w.heap.size A' ys) (hxl : xs.length ≤ 1048576) (hyl : ys.length ≤ 1048576) :
    Calls Try.prog 3 #[.slice A xs.length c, .slice A' ys.length c'] w fun e w' => e = .returned (.bool true) ∧ Below w.heap.size w w' := by
  have hrl := mrg_room (f := lessN) (xs := xs) (ys := ys) (by omega) (by omega)
  have hra := mrg_room (f := andN) (xs := xs) (ys := ys) (by omega) (by omega)
  have hro := mrg_room (f := orN) (xs := xs) (ys := ys) (by omega) (by omega)
  have hll : ∀ k, wd (mrg lessN xs ys) k < 18446744073709551616 := fun k => by rw [mrg_wd rfl]; exact lessN_lt _ _ (hx.lt k)
  have hla : ∀ k, wd (mrg andN xs ys) k < 18446744073709551616 := fun k => by rw [mrg_wd rfl]; exact andN_lt _ _ (hx.lt k)
  have hlo : ∀ k, wd (mrg orN xs ys) k < 18446744073709551616 := fun k => by rw [mrg_wd rfl]; exact orN_lt _ _ (hx.lt k) (hy.lt k)
  go_enter Try.func3, Try.ntmps3
  go_wp2_with fail
  -- less
  refine (awherefL_any A A' c c' xs ys _ hx hy hxl hyl).mono ?_
  rintro e w1 ⟨v1, zs, rfl, hz, hown1, hB1⟩
  rw [← less_awl xs ys hx.lt hy.lt] at hz
  subst hz
  obtain ⟨A1, c1, rfl, r1⟩ := own_rdU hown1 hll hrl
  clear hown1
  have hx1 := hx.step hB1
  have hy1 := hy.step hB1
  have s1 := hB1.size
  go_wp2_with fail
  -- And
  refine (opandN_any A A' c c' xs ys _ hx1 hy1 (by omega) (by omega)).mono ?_
  rintro e w2 ⟨A2, c2, rfl, r2, hb2⟩
  have hB2 := below_step hB1 s1 hb2
  have hx2 := hx1.step hb2
  have hy2 := hy1.step hb2
  have r1' := r1.step hb2
  have s2 := hB2.size
  clear hb2 hx1 hy1 hB1 s1 r1
  go_wp2_with fail
  refine (awherefA_any A A' c c' xs ys _ hx2 hy2 hxl hyl).mono ?_
  rintro e w3 ⟨v3, zs, rfl, hz, hown3, hb3⟩
  rw [← and_awl xs ys hx.lt hy.lt] at hz
  subst hz
  obtain ⟨A3, c3, rfl, r3⟩ := own_rdU hown3 hla hra
  have hB3 := below_step hB2 s2 hb3
  have hx3 := hx2.step hb3
  have hy3 := hy2.step hb3
  have r13 := r1'.step hb3
  have r23 := r2.step hb3
  have s3 := hB3.size
  clear hb3 hx2 hy2 hB2 s2 r1' r2 hown3
  go_wp2_with fail
  refine (equalU_same A2 A3 c2 c3 _ _ r23 r3).mono ?_
  rintro e w4 ⟨rfl, hb4⟩
  have hB4 := below_step hB3 s3 hb4
  have hx4 := hx3.step hb4
  have hy4 := hy3.step hb4
  have r14 := r13.step hb4
  have s4 := hB4.size
  clear hb4 hx3 hy3 hB3 s3 r13 r23 r3
  go_wp2_with fail
  -- Or
  refine (oporN_any A A' c c' xs ys _ hx4 hy4 (by omega) (by omega)).mono ?_
  rintro e w5 ⟨A5, c5, rfl, r5, hb5⟩
  have hB5 := below_step hB4 s4 hb5
  have hx5 := hx4.step hb5
  have hy5 := hy4.step hb5
  have r15 := r14.step hb5
  have s5 := hB5.size
  clear hb5 hx4 hy4 hB4 s4 r14
  go_wp2_with fail
  refine (awherefO_any A A' c c' xs ys _ hx5 hy5 hxl hyl).mono ?_
  rintro e w6 ⟨v6, zs, rfl, hz, hown6, hb6⟩
  rw [← or_awl xs ys hx.lt hy.lt] at hz
  subst hz
  obtain ⟨A6, c6, rfl, r6⟩ := own_rdU hown6 hlo hro
  have hB6 := below_step hB5 s5 hb6
  have hx6 := hx5.step hb6
  have hy6 := hy5.step hb6
  have r16 := r15.step hb6
  have r56 := r5.step hb6
  have s6 := hB6.size
  clear hb6 hx5 hy5 hB5 s5 r15 r5 hown6
  go_wp2_with fail
  refine (equalU_same A5 A6 c5 c6 _ _ r56 r6).mono ?_
  rintro e w7 ⟨rfl, hb7⟩
  have hB7 := below_step hB6 s6 hb7
  have hx7 := hx6.step hb7
  have hy7 := hy6.step hb7
  have r17 := r16.step hb7
  have s7 := hB7.size
  clear hb7 hx6 hy6 hB6 s6 r16 r56 r6
  go_wp2_with fail
  -- Less
  refine (oplessN_any A A' c c' xs ys _ hx7 hy7 (by omega) (by omega)).mono ?_
  rintro e w8 ⟨A8, c8, rfl, r8, hb8⟩
  have hB8 := below_step hB7 s7 hb8
  have hx8 := hx7.step hb8
  have hy8 := hy7.step hb8
  have r18 := r17.step hb8
  have s8 := hB8.size
  clear hb8 hx7 hy7 hB7 s7 r17
  go_wp2_with fail
  refine (equalU_same A8 A1 c8 c1 _ _ r8 r18).mono ?_
  rintro e w9 ⟨rfl, hb9⟩
  have hB9 := below_step hB8 s8 hb9
  have hx9 := hx8.step hb9
  have hy9 := hy8.step hb9
  have s9 := hB9.size
  clear hb9 hx8 hy8 hB8 s8 r18 r8
  go_wp2_with fail
  -- Size
  refine (size_any A c xs _ hx9 (by omega)).mono ?_
  rintro e w' ⟨rfl, rfl⟩
  go_wp2_with fail
  refine (alist_any A c xs _ hx9 hxl).mono ?_
  rintro e w10 ⟨v10, rfl, hown10, hb10⟩
  have hB10 := below_step hB9 s9 hb10
  have hx10 := hx9.step hb10
  have hy10 := hy9.step hb10
  obtain ⟨A10, c10, rfl⟩ := own_any hown10
  rw [alist_ones]
  have hon := ones_le xs xs.length
  clear hb10 hx9 hy9 hB9 s9 hown10
  go_wp2_with fail
  -- Within
  refine (within_any A A' c c' xs ys _ hx10 hy10).mono ?_
  rintro e w' ⟨rfl, rfl⟩
  rw [inB_less]
  by_cases h0 : (mrg lessN xs ys).length = 0
  · have hd : decide ((mrg lessN xs ys).length = 0) = true := by simpa using h0
    have hd2 : (((mrg lessN xs ys).length : Int) == 0) = true := by simpa using h0
    have H0 := Lib.hid h0
    clear h0
    go_wp2
    go_ret
    exact ⟨ret_b (by have := H0.out; simpa using this), hB10⟩
  · have hd : decide ((mrg lessN xs ys).length = 0) = false := by simpa using h0
    have hd2 : (((mrg lessN xs ys).length : Int) == 0) = false := by simpa using h0
    have H0 := Lib.hid h0
    clear h0
    go_wp2
    go_ret
    exact ⟨ret_b (by have := H0.out; simpa using this), hB10⟩

end Go.Proofs.Ytfpgdkbgmmpncaa
