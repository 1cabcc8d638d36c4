/-
  Words bit by bit, from the lowest: plain arithmetic, no condition but a word's 64 bits.
-/
import Derived.Lib.TrailingZeros
import Derived.Test.YtaboafkpmgadmaaDoorBsB
namespace Go.Proofs.YtaboafkpmgadmaaDoor
open Go.RowKit

/-- x without its lowest j bits -/
def hiB (j x : Nat) : Nat := 2 ^ j * (x / 2 ^ j)
theorem hiB_zero (x : Nat) : hiB 0 x = x := by simp [hiB]
theorem hiB_le (j x : Nat) : hiB j x ≤ x := Nat.mul_div_le x (2 ^ j)
theorem testBit_hiB (j x i : Nat) : (hiB j x).testBit i = (decide (j ≤ i) && x.testBit i) := by
  unfold hiB
  rw [Nat.mul_comm, Nat.testBit_mul_two_pow, Nat.testBit_div_two_pow]
  by_cases h : j ≤ i
  · simp [h, show i - j + j = i by omega]
  · simp [h]
theorem two_pow_bit (t m i : Nat) : (2 ^ t * (2 * m + 1)).testBit i = (decide (t ≤ i) && (2 * m + 1).testBit (i - t)) := by
  rw [Nat.mul_comm, Nat.testBit_mul_two_pow]
theorem two_pow_pred_bit (t m i : Nat) : (2 ^ t * (2 * m + 1) - 1).testBit i = if i < t then (2 ^ t - 1).testBit i else (2 * m).testBit (i - t) := by
  have h : 0 < 2 ^ t := Nat.two_pow_pos t
  have e : 2 ^ t * (2 * m + 1) - 1 = 2 ^ t * (2 * m) + (2 ^ t - 1) := by rw [Nat.mul_add]; omega
  rw [e, Nat.testBit_two_pow_mul_add _ (by omega)]
theorem hi_step (j x : Nat) (hx : x < 18446744073709551616) (h0 : hiB j x ≠ 0) :
    j ≤ Lib.ctz 64 (hiB j x) ∧ Lib.ctz 64 (hiB j x) < 64 ∧ x.testBit (Lib.ctz 64 (hiB j x)) = true ∧ (∀ i, j ≤ i → i < Lib.ctz 64 (hiB j x) → x.testBit i = false) ∧
    hiB j x &&& (hiB j x - 1) = hiB (Lib.ctz 64 (hiB j x) + 1) x := by
  have hlt := Nat.lt_of_le_of_lt (hiB_le j x) hx
  obtain ⟨m, hm, ht⟩ := Lib.ctzFrom_spec 64 (hiB j x) (by omega) (by omega)
  have e : Lib.ctz 64 (hiB j x) = Lib.ctzFrom 64 (hiB j x) := by simp [Lib.ctz, h0]
  rw [e]
  generalize Lib.ctzFrom 64 (hiB j x) = t at hm ht
  have hb : ∀ i, (decide (j ≤ i) && x.testBit i) = (decide (t ≤ i) && (2 * m + 1).testBit (i - t)) := fun i => by rw [← testBit_hiB, hm, two_pow_bit]
  have h1 := hb t
  simp only [Nat.le_refl, decide_true, Nat.sub_self, Bool.true_and, Nat.testBit_zero] at h1
  have hodd : decide ((2 * m + 1) % 2 = 1) = true := by simp
  rw [hodd] at h1
  simp only [Bool.and_eq_true, decide_eq_true_eq] at h1
  refine ⟨h1.1, ht, h1.2, fun i hj hi => ?_, ?_⟩
  · have h2 := hb i
    simp only [hj, decide_true, Bool.true_and] at h2
    rw [h2]
    simp; omega
  · apply Nat.eq_of_testBit_eq
    intro i
    rw [Nat.testBit_and, testBit_hiB (t + 1), testBit_hiB, hm, two_pow_pred_bit, hb i]
    by_cases hi : i < t
    · rw [show decide (t ≤ i) = false by simp; omega, show decide (t + 1 ≤ i) = false by simp; omega]; simp
    · rw [if_neg hi]
      by_cases he : i = t
      · subst he; rw [show decide (i + 1 ≤ i) = false by simp]; simp
      · obtain ⟨d, rfl⟩ : ∃ d, i = t + (d + 1) := ⟨i - t - 1, by omega⟩
        have h3 := hb (t + (d + 1))
        rw [show decide (j ≤ t + (d + 1)) = true by simp; omega, show decide (t ≤ t + (d + 1)) = true by simp, Bool.true_and, Bool.true_and] at h3
        rw [show decide (t ≤ t + (d + 1)) = true by simp, show decide (t + 1 ≤ t + (d + 1)) = true by simp, Bool.true_and, Bool.true_and, h3, show t + (d + 1) - t = d + 1 by omega, Nat.testBit_succ, Nat.testBit_succ,
          show (2 * m + 1) / 2 = m by omega, show 2 * m / 2 = m by omega, Bool.and_self]
theorem hi_done (j x : Nat) (h0 : hiB j x = 0) (i : Nat) (hj : j ≤ i) : x.testBit i = false := by
  have h := testBit_hiB j x i
  rw [h0] at h
  simpa [hj] using h.symm

/-- the numbers below n that are in xs -/
def nums (xs : List Nat) (n : Nat) : List Nat := (List.range n).filter (bitB xs)
theorem nums_yes (xs : List Nat) (n : Nat) (h : bitB xs n = true) : nums xs (n + 1) = nums xs n ++ [n] := by
  unfold nums; rw [List.range_succ, List.filter_append]; simp [h]
theorem nums_no (xs : List Nat) (n : Nat) (h : bitB xs n = false) : nums xs (n + 1) = nums xs n := by
  unfold nums; rw [List.range_succ, List.filter_append]; simp [h]
theorem nums_skip (xs : List Nat) (a d : Nat) (h : ∀ i, a ≤ i → i < a + d → bitB xs i = false) : nums xs (a + d) = nums xs a := by
  induction d with
  | zero => rfl
  | succ d ih => rw [← Nat.add_assoc, nums_no xs _ (h _ (by omega) (by omega)), ih fun i h1 h2 => h i h1 (by omega)]
theorem nums_len (xs : List Nat) (n : Nat) : (nums xs n).length ≤ n := by
  unfold nums; exact Nat.le_trans (List.length_filter_le _ _) (by simp)
theorem bitB_word (xs : List Nat) (k i : Nat) (hi : i < 64) : bitB xs (64 * k + i) = (wd xs k).testBit i := by
  unfold bitB; rw [show (64 * k + i) / 64 = k by omega, show (64 * k + i) % 64 = i by omega]
theorem nums_next (xs : List Nat) (k j t : Nat) (hjt : j ≤ t) (ht : t < 64) (h1 : (wd xs k).testBit t = true) (h2 : ∀ i, j ≤ i → i < t → (wd xs k).testBit i = false) :
    nums xs (64 * k + t) = nums xs (64 * k + j) ∧ nums xs (64 * k + (t + 1)) = nums xs (64 * k + j) ++ [64 * k + t] := by
  have e : nums xs (64 * k + t) = nums xs (64 * k + j) := by
    obtain ⟨d, rfl⟩ : ∃ d, t = j + d := ⟨t - j, by omega⟩
    rw [← Nat.add_assoc]
    refine nums_skip xs (64 * k + j) d fun i hi1 hi2 => ?_
    obtain ⟨c, rfl⟩ : ∃ c, i = 64 * k + c := ⟨i - 64 * k, by omega⟩
    rw [bitB_word xs k c (by omega)]
    exact h2 c (by omega) (by omega)
  refine ⟨e, ?_⟩
  rw [← Nat.add_assoc, nums_yes xs _ (by rw [bitB_word xs k t ht]; exact h1), e]
theorem nums_end (xs : List Nat) (k j : Nat) (hj : j ≤ 64) (h : ∀ i, j ≤ i → (wd xs k).testBit i = false) : nums xs (64 * (k + 1)) = nums xs (64 * k + j) := by
  rw [show 64 * (k + 1) = 64 * k + j + (64 - j) by omega]
  refine nums_skip xs (64 * k + j) (64 - j) fun i hi1 hi2 => ?_
  obtain ⟨c, rfl⟩ : ∃ c, i = 64 * k + c := ⟨i - 64 * k, by omega⟩
  rw [bitB_word xs k c (by omega)]
  exact h c (by omega)
end Go.Proofs.YtaboafkpmgadmaaDoor
