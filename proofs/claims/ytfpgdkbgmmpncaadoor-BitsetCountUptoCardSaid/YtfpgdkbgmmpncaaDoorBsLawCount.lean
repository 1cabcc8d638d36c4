/-
  The law BitsetCount answers true, for every two slices of at most 2^19 words, where the library's table holds its own numbers.
-/
import Derived.Test.YtfpgdkbgmmpncaaDoorBsLawWithin
namespace Go.Proofs.YtfpgdkbgmmpncaaDoor
open Go.RowKit

theorem mod_two (x : Nat) : x % 2 = (x.testBit 0).toNat := by
  rw [Nat.testBit_zero]
  rcases Nat.mod_two_eq_zero_or_one x with h | h <;> simp [h]
theorem cnt_both (n x y : Nat) : cnt n (orN x y) + cnt n (andN x y) = cnt n x + cnt n y := by
  induction n generalizing x y with
  | zero => rfl
  | succ n ih =>
    have h := ih (x / 2) (y / 2)
    have e1 : orN x y / 2 = orN (x / 2) (y / 2) := by unfold orN; exact Nat.or_div_two
    have e2 : andN x y / 2 = andN (x / 2) (y / 2) := by unfold andN; exact Nat.and_div_two
    show orN x y % 2 + cnt n (orN x y / 2) + (andN x y % 2 + cnt n (andN x y / 2)) = x % 2 + cnt n (x / 2) + (y % 2 + cnt n (y / 2))
    rw [e1, e2]
    have m : orN x y % 2 + andN x y % 2 = x % 2 + y % 2 := by
      rw [mod_two, mod_two, mod_two x, mod_two y]
      unfold orN andN
      rw [Nat.testBit_or, Nat.testBit_and]
      cases x.testBit 0 <;> cases y.testBit 0 <;> rfl
    omega
theorem cnt_of0 (n : Nat) : cnt n 0 = 0 := by
  induction n with
  | zero => rfl
  | succ n ih => show 0 % 2 + cnt n (0 / 2) = 0; simpa using ih
theorem ones_ext (xs : List Nat) (d : Nat) : ones xs (xs.length + d) = ones xs xs.length := by
  induction d with
  | zero => rfl
  | succ d ih => rw [← Nat.add_assoc, ones_succ, ih, wd_out xs _ (by omega), cnt_of0]; rfl
theorem ones_at (xs : List Nat) (m : Nat) (h : xs.length ≤ m) : ones xs m = ones xs xs.length := by
  obtain ⟨d, rfl⟩ : ∃ d, m = xs.length + d := ⟨m - xs.length, by omega⟩
  exact ones_ext xs d
theorem ones_both (xs ys : List Nat) : ones xs xs.length + ones ys ys.length = ones (mrg orN xs ys) (mrg orN xs ys).length + ones (mrg andN xs ys) (mrg andN xs ys).length := by
  have l1 := mrg_le andN xs ys
  have l2 := mrg_le orN xs ys
  obtain ⟨m, hm⟩ : ∃ m, m = max xs.length ys.length := ⟨_, rfl⟩
  rw [← ones_at xs m (by omega), ← ones_at ys m (by omega), ← ones_at (mrg orN xs ys) m (by omega), ← ones_at (mrg andN xs ys) m (by omega)]
  clear l1 l2 hm
  induction m with
  | zero => rfl
  | succ m ih =>
    rw [ones_succ, ones_succ, ones_succ, ones_succ, mrg_wd rfl, mrg_wd rfl]
    have := cnt_both 64 (wd xs m) (wd ys m)
    omega

set_option maxHeartbeats 4000000 in
theorem countLaw_any (A B : Option Addr) (ca cb : Nat) (xs ys : List Nat) (w : World) (hx : RdU w w.heap.size A xs) (hy : RdU w w.heap.size B ys)
    (hxl : xs.length ≤ 1048576) (hyl : ys.length ≤ 1048576) (hT : Tab w) :
    Calls Tryd.prog 5 #[.slice A xs.length ca, .slice B ys.length cb] w fun e w' => e = .returned (.bool true) ∧ Below w.heap.size w w' := by
  have hboth := ones_both xs ys
  have l1 := mrg_le andN xs ys
  have l2 := mrg_le orN xs ys
  have o1 := ones_le xs xs.length
  have o2 := ones_le ys ys.length
  have o3 := ones_le (mrg orN xs ys) (mrg orN xs ys).length
  have o4 := ones_le (mrg andN xs ys) (mrg andN xs ys).length
  obtain ⟨n1, h1⟩ : ∃ n, ones xs xs.length = n := ⟨_, rfl⟩
  obtain ⟨n2, h2⟩ : ∃ n, ones ys ys.length = n := ⟨_, rfl⟩
  obtain ⟨n3, h3⟩ : ∃ n, ones (mrg orN xs ys) (mrg orN xs ys).length = n := ⟨_, rfl⟩
  obtain ⟨n4, h4⟩ : ∃ n, ones (mrg andN xs ys) (mrg andN xs ys).length = n := ⟨_, rfl⟩
  rw [h1] at o1
  rw [h2] at o2
  rw [h3] at o3
  rw [h4] at o4
  rw [h1, h2, h3, h4] at hboth
  have b1 : n1 ≤ 67108864 := by omega
  have b2 : n2 ≤ 67108864 := by omega
  have b3 : n3 ≤ 67108864 := by omega
  have b4 : n4 ≤ 67108864 := by omega
  have heq : (((n1 : Int) + (n2 : Int)) == ((n3 : Int) + (n4 : Int))) = true := by simp; omega
  have H1 := Lib.hid h1
  have H2 := Lib.hid h2
  have H3 := Lib.hid h3
  have H4 := Lib.hid h4
  have L1 : (mrg andN xs ys).length ≤ 36028797018963968 := by omega
  have L2 : (mrg orN xs ys).length ≤ 36028797018963968 := by omega
  have L3 : xs.length ≤ 36028797018963968 := by omega
  have L4 : ys.length ≤ 36028797018963968 := by omega
  clear hboth o1 o2 o3 o4 l1 l2 h1 h2 h3 h4
  go_enter Tryd.func5, Tryd.ntmps5
  go_wp2_with fail
  have hs := Nat.le_refl w.heap.size
  refine (alive_any w hT).mono ?_
  rintro e w0 ⟨rfl, hB⟩
  replace hx := hx.step hB
  replace hy := hy.step hB
  replace hT := hT.step hB
  replace hs := hB.size
  go_wp2_with fail
  refine (size_any A ca xs _ hx L3).mono ?_
  rw [H1.out]
  rintro e w' ⟨rfl, rfl⟩
  go_wp2_with fail
  refine (size_any B cb ys _ hy L4).mono ?_
  rw [H2.out]
  rintro e w' ⟨rfl, rfl⟩
  go_wp2_with fail
  refine (oporN_any A B ca cb xs ys _ hx hy (by omega) (by omega)).mono ?_
  rintro e w1 ⟨A1, c1, rfl, r1, hb⟩
  replace hx := hx.step hb
  replace hy := hy.step hb
  replace hT := hT.step hb
  replace hB := below_step hB hs hb
  replace hs := hB.size
  clear hb
  go_wp2_with fail
  refine (size_any A1 c1 _ _ r1 L2).mono ?_
  rw [H3.out]
  rintro e w' ⟨rfl, rfl⟩
  clear r1
  go_wp2_with fail
  refine (opandN_any A B ca cb xs ys _ hx hy (by omega) (by omega)).mono ?_
  rintro e w2 ⟨A2, c2, rfl, r2, hb⟩
  replace hx := hx.step hb
  replace hy := hy.step hb
  replace hT := hT.step hb
  replace hB := below_step hB hs hb
  replace hs := hB.size
  clear hb
  go_wp2_with fail
  refine (size_any A2 c2 _ _ r2 L1).mono ?_
  rw [H4.out]
  rintro e w' ⟨rfl, rfl⟩
  clear r2
  go_wp2_with fail
  refine (size_any A ca xs _ hx L3).mono ?_
  rw [H1.out]
  rintro e w' ⟨rfl, rfl⟩
  go_wp2_with fail
  refine (list_any A ca xs _ hx hxl hT).mono ?_
  rw [alist_ones, H1.out]
  rintro e w3 ⟨A3, c3, rfl, r3, hb⟩
  replace hB := below_step hB hs hb
  clear hb r3
  go_wp2
  go_ret
  exact ⟨rfl, hB⟩
end Go.Proofs.YtfpgdkbgmmpncaaDoor
