/-
  The number of orders of a term's leaves, by sets laid from behind, is Tm.cnt. Plain mathematics.
  The law SpCounts, as a walk: it answers true and leaves the memory of before as it was.
  A term that comes in as an argument: what its reading as data says of memory. No condition.
  Work, span and width of terms: plain mathematics; no condition.
-/
import Derived.Test.YtidgibkiacbgfaaDoorPk06
import Derived.Test.YtidgibkiacbgfaaDoorPk18
import Derived.Test.YtidgibkiacbgfaaDoorPk09
import Derived.Test.YtidgibkiacbgfaaDoorPk17
import Derived.Test.YtidgibkiacbgfaaDoorPk00
import Derived.Test.YtidgibkiacbgfaaDoorRows
import Derived.ProofKit
import Derived.OpenShut
import Derived.Deep.Slices
import Derived.Lib.SmallJoins
namespace Go.Proofs.YtidgibkiacbgfaaDoor
set_option maxRecDepth 100000

/-- two sets, one behind the other -/
def cat (a A B : Nat) : Nat := A ||| (B <<< a)
theorem cat_bit {a A : Nat} (hA : A < 2 ^ a) (B j : Nat) : (cat a A B).testBit j = if j < a then A.testBit j else B.testBit (j - a) := by
  unfold cat
  rw [Nat.testBit_or, Nat.testBit_shiftLeft]
  by_cases h : j < a
  · rw [if_pos h, decide_eq_false (by omega), Bool.false_and, Bool.or_false]
  · rw [if_neg h, decide_eq_true (by omega), Bool.true_and, Nat.testBit_lt_two_pow (Nat.lt_of_lt_of_le hA (Nat.pow_le_pow_right (by omega) (by omega))), Bool.false_or]
theorem cat_lt {a b A B : Nat} (hA : A < 2 ^ a) (hB : B < 2 ^ b) : cat a A B < 2 ^ (a + b) := by
  refine Nat.lt_pow_two_of_testBit _ fun j hj => ?_
  rw [cat_bit hA, if_neg (by omega)]
  exact Nat.testBit_lt_two_pow (Nat.lt_of_lt_of_le hB (Nat.pow_le_pow_right (by omega) (by omega)))
theorem cat_er_lo {a A n : Nat} (hA : A < 2 ^ a) (B : Nat) (hn : n < a) : er (cat a A B) n = cat a (er A n) B := by
  apply Nat.eq_of_testBit_eq
  intro j
  rw [er_bit, cat_bit hA, cat_bit (er_lt hA hn), er_bit]
  by_cases h : j < a
  · rw [if_pos h, if_pos h]
  · rw [if_neg h, if_neg h, decide_eq_false (by omega), Bool.xor_false]
theorem cat_er_hi {a A : Nat} (hA : A < 2 ^ a) (B n : Nat) : er (cat a A B) (a + n) = cat a A (er B n) := by
  apply Nat.eq_of_testBit_eq
  intro j
  rw [er_bit, cat_bit hA, cat_bit hA, er_bit]
  by_cases h : j < a
  · rw [if_pos h, if_pos h, decide_eq_false (by omega), Bool.xor_false]
  · rw [if_neg h, if_neg h]
    congr 1
    rw [decide_eq_decide]
    omega
theorem sumN_split (a b : Nat) (g : Nat → Nat) : sumN (a + b) g = sumN a g + sumN b fun n => g (a + n) := by
  induction b with
  | zero => rfl
  | succ b ih => rw [← Nat.add_assoc]; simp only [sumN, ih]; omega
/-- f from a on -/
def sh (f : Nat → Nat → Bool) (a : Nat) (i j : Nat) : Bool := f (a + i) (a + j)
theorem okG_iff {f : Nat → Nat → Bool} {m S n : Nat} : okG f m S n = true ↔ S.testBit n = true ∧ ∀ j, j < m → f n j = true → (er S n).testBit j = true := by
  unfold okG
  rw [Bool.and_eq_true, wb_iff]
theorem okG_hi {f : Nat → Nat → Bool} {a A : Nat} (hA : A < 2 ^ a) (b B : Nat) (h : ∀ i j, j < a → f (a + i) j = false) (n : Nat) : okG f (a + b) (cat a A B) (a + n) = okG (sh f a) b B n := by
  rw [Bool.eq_iff_iff, okG_iff, okG_iff, cat_er_hi hA, cat_bit hA, if_neg (by omega), Nat.add_sub_cancel_left]
  refine and_congr_right fun _ => ⟨fun k j hj hf => ?_, fun k j hj hf => ?_⟩
  · have := k (a + j) (by omega) hf
    rwa [cat_bit hA, if_neg (by omega), Nat.add_sub_cancel_left] at this
  · have hja : ¬ j < a := fun hlt => by rw [h n j hlt] at hf; cases hf
    rw [cat_bit hA, if_neg hja]
    exact k (j - a) (by omega) (by unfold sh; rwa [show a + (j - a) = j by omega])
theorem okG_lo {f : Nat → Nat → Bool} {a A : Nat} (hA : A < 2 ^ a) (b B : Nat) (h : ∀ i j, i < a → f i (a + j) = false) {n : Nat} (hn : n < a) : okG f (a + b) (cat a A B) n = okG f a A n := by
  rw [Bool.eq_iff_iff, okG_iff, okG_iff, cat_er_lo hA B hn, cat_bit hA, if_pos hn]
  refine and_congr_right fun _ => ⟨fun k j hj hf => ?_, fun k j hj hf => ?_⟩
  · have := k j (by omega) hf
    rwa [cat_bit (er_lt hA hn), if_pos hj] at this
  · have hja : j < a := by
      refine Nat.lt_of_not_le fun hle => ?_
      have := h n (j - a) hn
      rw [show a + (j - a) = j by omega, hf] at this
      cases this
    rw [cat_bit (er_lt hA hn), if_pos hja]
    exact k j hja hf
/-- the number of bits below m -/
def pc (m S : Nat) : Nat := sumN m fun j => if S.testBit j = true then 1 else 0
theorem pc_er {m S n : Nat} (hn : n < m) (h : S.testBit n = true) : pc m S = pc m (er S n) + 1 := by
  unfold pc
  refine sumN_single hn (fun j _ hj => ?_) ?_
  · rw [er_bit, decide_eq_false (fun e => hj e.symm), Bool.xor_false]
  · rw [if_pos h, er_self h]; simp
theorem sumN_mul (c : Nat) (g : Nat → Nat) : ∀ N, sumN N (fun n => c * g n) = c * sumN N g
  | 0 => rfl
  | N + 1 => by simp only [sumN, sumN_mul c g N, Nat.mul_add]
theorem cat_pos {a A : Nat} (hA : A < 2 ^ a) {B : Nat} (h : 0 < A ∨ 0 < B) : 0 < cat a A B := by
  refine Nat.pos_of_ne_zero fun e => ?_
  have hb : ∀ j, (cat a A B).testBit j = false := fun j => by rw [e, Nat.zero_testBit]
  have h1 : A = 0 := Nat.eq_of_testBit_eq fun j => by
    rw [Nat.zero_testBit]
    by_cases hj : j < a
    · have := hb j
      rwa [cat_bit hA, if_pos hj] at this
    · exact Nat.testBit_lt_two_pow (Nat.lt_of_lt_of_le hA (Nat.pow_le_pow_right (by omega) (by omega)))
  have h2 : B = 0 := Nat.eq_of_testBit_eq fun j => by
    have := hb (a + j)
    rw [cat_bit hA, if_neg (by omega), Nat.add_sub_cancel_left] at this
    rw [this, Nat.zero_testBit]
  omega
/-- what is laid first out of A -/
theorem gC_sum {f : Nat → Nat → Bool} {m : Nat} (hm : m ≤ 14) {S : Nat} (hS : S < 2 ^ m) : (sumN m fun n => if okG f m S n = true then gC f m (er S n) else 0) = if S = 0 then 0 else gC f m S := by
  by_cases h : S = 0
  · rw [if_pos h]
    refine sumN_zero fun n _ => ?_
    rw [if_neg]
    rw [okG_iff, h, Nat.zero_testBit]
    simp
  · rw [if_neg h, gC_eq hm hS (by omega)]
theorem pc_zero (m : Nat) : pc m 0 = 0 := sumN_zero fun j _ => by rw [Nat.zero_testBit]; rfl
theorem pc_pos {a A : Nat} (hA : A < 2 ^ a) (h : 0 < A) : ∃ p, pc a A = p + 1 := by
  refine ⟨pc a A - 1, ?_⟩
  have : pc a A ≠ 0 := fun e => by
    have : A = 0 := Nat.eq_of_testBit_eq fun j => by
      rw [Nat.zero_testBit]
      by_cases hj : j < a
      · cases hb : A.testBit j with
        | false => rfl
        | true => have := pc_er hj hb; omega
      · exact Nat.testBit_lt_two_pow (Nat.lt_of_lt_of_le hA (Nat.pow_le_pow_right (by omega) (by omega)))
    omega
  omega
theorem gC_par {f : Nat → Nat → Bool} {a b : Nat} (hm : a + b ≤ 14) (h1 : ∀ i j, i < a → f i (a + j) = false) (h2 : ∀ i j, j < a → f (a + i) j = false) :
    ∀ d A B, A + B ≤ d → A < 2 ^ a → B < 2 ^ b → gC f (a + b) (cat a A B) = ch (pc a A) (pc b B) * (gC f a A * gC (sh f a) b B) := by
  intro d
  induction d with
  | zero =>
    intro A B hd _ _
    obtain rfl : A = 0 := by omega
    obtain rfl : B = 0 := by omega
    rw [pc_zero, pc_zero]
    simp [cat, gC_zero, ch]
  | succ d ih =>
    intro A B hd hA hB
    by_cases h0 : 0 < A ∨ 0 < B
    · rw [gC_eq hm (cat_lt hA hB) (cat_pos hA h0), sumN_split]
      have e1 : (sumN a fun n => if okG f (a + b) (cat a A B) n = true then gC f (a + b) (er (cat a A B) n) else 0) = ch (pc a A - 1) (pc b B) * gC (sh f a) b B * (if A = 0 then 0 else gC f a A) := by
        rw [← gC_sum (show a ≤ 14 by omega) hA, ← sumN_mul]
        refine sumN_congr fun n hn => ?_
        rw [okG_lo hA b B h1 hn]
        by_cases ho : okG f a A n = true
        · have hb := (okG_iff.1 ho).1
          have hs := er_small hA hn (by omega) hb
          have hp := pc_er hn hb
          rw [if_pos ho, if_pos ho, cat_er_lo hA B hn, ih _ _ (by omega) (er_lt hA hn) hB, hp, Nat.add_sub_cancel, Nat.mul_assoc, Nat.mul_comm (gC f a _)]
        · rw [if_neg ho, if_neg ho, Nat.mul_zero]
      have e2 : (sumN b fun n => if okG f (a + b) (cat a A B) (a + n) = true then gC f (a + b) (er (cat a A B) (a + n)) else 0) = ch (pc a A) (pc b B - 1) * gC f a A * (if B = 0 then 0 else gC (sh f a) b B) := by
        rw [← gC_sum (show b ≤ 14 by omega) hB, ← sumN_mul]
        refine sumN_congr fun n hn => ?_
        rw [okG_hi hA b B h2]
        by_cases ho : okG (sh f a) b B n = true
        · have hb := (okG_iff.1 ho).1
          have hs := er_small hB hn (by omega) hb
          have hp := pc_er hn hb
          rw [if_pos ho, if_pos ho, cat_er_hi hA, ih _ _ (by omega) hA (er_lt hB hn), hp, Nat.add_sub_cancel, Nat.mul_assoc]
        · rw [if_neg ho, if_neg ho, Nat.mul_zero]
      rw [e1, e2]
      rcases Nat.eq_zero_or_pos A with hA0 | hA0
      · subst hA0
        rw [if_pos rfl, if_neg (by omega), pc_zero, ch_one, ch_one, gC_zero]
        simp
      · rcases Nat.eq_zero_or_pos B with hB0 | hB0
        · subst hB0
          rw [if_pos rfl, if_neg (by omega), pc_zero, ch_zero, ch_zero, gC_zero]
          simp
        · rw [if_neg (by omega), if_neg (by omega)]
          obtain ⟨p, hp⟩ := pc_pos hA hA0
          obtain ⟨q, hq⟩ := pc_pos hB hB0
          rw [hp, hq, Nat.add_sub_cancel, Nat.add_sub_cancel]
          simp only [ch]
          rw [Nat.add_mul, Nat.mul_assoc, Nat.mul_assoc, Nat.mul_comm (gC (sh f a) b B)]
    · exact ih A B (by omega) hA hB

/-- what is not closed to behind counts nothing -/
theorem gC_none {f : Nat → Nat → Bool} {a b : Nat} (hm : a + b ≤ 14) (h1 : ∀ i j, i < a → j < b → f i (a + j) = true) :
    ∀ d A B, A + B ≤ d → 0 < A → A < 2 ^ a → B < 2 ^ b → (∃ j, j < b ∧ B.testBit j = false) → gC f (a + b) (cat a A B) = 0 := by
  intro d
  induction d with
  | zero => intro A B h1 h2; omega
  | succ d ih =>
    intro A B hd h0 hA hB hj
    obtain ⟨j, hj, hb⟩ := hj
    rw [gC_eq hm (cat_lt hA hB) (cat_pos hA (Or.inl h0)), sumN_split]
    have e1 : (sumN a fun n => if okG f (a + b) (cat a A B) n = true then gC f (a + b) (er (cat a A B) n) else 0) = 0 := by
      refine sumN_zero fun n hn => ?_
      rw [if_neg]
      intro ho
      have := (okG_iff.1 ho).2 (a + j) (by omega) (h1 n j hn hj)
      rw [cat_er_lo hA B hn, cat_bit (er_lt hA hn), if_neg (by omega), Nat.add_sub_cancel_left, hb] at this
      cases this
    rw [e1, Nat.zero_add]
    refine sumN_zero fun n hn => ?_
    by_cases ho : okG f (a + b) (cat a A B) (a + n) = true
    · have hbn := (okG_iff.1 ho).1
      rw [cat_bit hA, if_neg (by omega), Nat.add_sub_cancel_left] at hbn
      have hs := er_small hB hn (by omega) hbn
      rw [if_pos ho, cat_er_hi hA]
      exact ih _ _ (by omega) h0 hA (er_lt hB hn) ⟨n, hn, er_self hbn⟩
    · rw [if_neg ho]
theorem gC_right {f : Nat → Nat → Bool} {a b : Nat} (hm : a + b ≤ 14) (h2 : ∀ i j, j < a → f (a + i) j = false) :
    ∀ d B, B ≤ d → B < 2 ^ b → gC f (a + b) (cat a 0 B) = gC (sh f a) b B := by
  have hA : 0 < 2 ^ a := Nat.two_pow_pos a
  intro d
  induction d with
  | zero =>
    intro B hd _
    obtain rfl : B = 0 := by omega
    simp [cat, gC_zero]
  | succ d ih =>
    intro B hd hB
    rcases Nat.eq_zero_or_pos B with h0 | h0
    · exact ih B (by omega) hB
    · rw [gC_eq hm (cat_lt hA hB) (cat_pos hA (Or.inr h0)), sumN_split, gC_eq (show b ≤ 14 by omega) hB h0]
      have e1 : (sumN a fun n => if okG f (a + b) (cat a 0 B) n = true then gC f (a + b) (er (cat a 0 B) n) else 0) = 0 := by
        refine sumN_zero fun n hn => ?_
        rw [if_neg]
        intro ho
        have := (okG_iff.1 ho).1
        rw [cat_bit hA, if_pos hn, Nat.zero_testBit] at this
        cases this
      rw [e1, Nat.zero_add]
      refine sumN_congr fun n hn => ?_
      rw [okG_hi hA b B h2]
      by_cases ho : okG (sh f a) b B n = true
      · have hs := er_small hB hn (by omega) (okG_iff.1 ho).1
        rw [if_pos ho, if_pos ho, cat_er_hi hA, ih _ (by omega) (er_lt hB hn)]
      · rw [if_neg ho, if_neg ho]
theorem okG_full {f : Nat → Nat → Bool} {a A : Nat} (hA : A < 2 ^ a) {b B : Nat} (h : ∀ j, j < b → B.testBit j = true) {n : Nat} (hn : n < a) : okG f (a + b) (cat a A B) n = okG f a A n := by
  rw [Bool.eq_iff_iff, okG_iff, okG_iff, cat_er_lo hA B hn, cat_bit hA, if_pos hn]
  refine and_congr_right fun _ => ⟨fun k j hj hf => ?_, fun k j hj hf => ?_⟩
  · have := k j (by omega) hf
    rwa [cat_bit (er_lt hA hn), if_pos hj] at this
  · rw [cat_bit (er_lt hA hn)]
    by_cases hja : j < a
    · rw [if_pos hja]; exact k j hja hf
    · rw [if_neg hja]; exact h _ (by omega)
theorem gC_seq {f : Nat → Nat → Bool} {a b B : Nat} (hm : a + b ≤ 14) (h1 : ∀ i j, i < a → j < b → f i (a + j) = true) (h2 : ∀ i j, j < a → f (a + i) j = false) (hB : B < 2 ^ b) (hfull : ∀ j, j < b → B.testBit j = true) :
    ∀ d A, A ≤ d → A < 2 ^ a → gC f (a + b) (cat a A B) = gC f a A * gC (sh f a) b B := by
  intro d
  induction d with
  | zero =>
    intro A hd _
    obtain rfl : A = 0 := by omega
    rw [gC_right hm h2 B B (Nat.le_refl _) hB, gC_zero, Nat.one_mul]
  | succ d ih =>
    intro A hd hA
    rcases Nat.eq_zero_or_pos A with h0 | h0
    · exact ih A (by omega) hA
    · rw [gC_eq hm (cat_lt hA hB) (cat_pos hA (Or.inl h0)), sumN_split, gC_eq (show a ≤ 14 by omega) hA h0]
      have e2 : (sumN b fun n => if okG f (a + b) (cat a A B) (a + n) = true then gC f (a + b) (er (cat a A B) (a + n)) else 0) = 0 := by
        refine sumN_zero fun n hn => ?_
        by_cases ho : okG f (a + b) (cat a A B) (a + n) = true
        · rw [if_pos ho, cat_er_hi hA]
          exact gC_none hm h1 _ _ _ (Nat.le_refl _) h0 hA (er_lt hB hn) ⟨n, hn, er_self (hfull n hn)⟩
        · rw [if_neg ho]
      rw [e2, Nat.add_zero, Nat.mul_comm, ← sumN_mul]
      refine sumN_congr fun n hn => ?_
      rw [okG_full hA hfull hn]
      by_cases ho : okG f a A n = true
      · have hs := er_small hA hn (by omega) (okG_iff.1 ho).1
        rw [if_pos ho, if_pos ho, cat_er_lo hA B hn, ih _ (by omega) (er_lt hA hn), Nat.mul_comm]
      · rw [if_neg ho, if_neg ho, Nat.mul_zero]
theorem gC_congr {f g : Nat → Nat → Bool} {m : Nat} (h : ∀ i j, i < m → j < m → f i j = g i j) (S : Nat) : gC f m S = gC g m S := by
  have : ∀ k S, gK f m k S = gK g m k S := by
    intro k
    induction k with
    | zero => intro S; rfl
    | succ k ih =>
      intro S
      show (if S = 0 then 1 else _) = (if S = 0 then 1 else _)
      by_cases h0 : S = 0
      · rw [if_pos h0, if_pos h0]
      · rw [if_neg h0, if_neg h0]
        refine sumN_congr fun n hn => ?_
        have : okG f m S n = okG g m S n := by
          rw [Bool.eq_iff_iff, okG_iff, okG_iff]
          refine and_congr_right fun _ => ⟨fun k j hj hf => k j hj (by rw [h n j hn hj]; exact hf), fun k j hj hf => k j hj (by rw [← h n j hn hj]; exact hf)⟩
        rw [this, ih]
  exact this S S
theorem cat_full (a b : Nat) : cat a (2 ^ a - 1) (2 ^ b - 1) = 2 ^ (a + b) - 1 := by
  apply Nat.eq_of_testBit_eq
  intro j
  rw [cat_bit (by have := Nat.two_pow_pos a; omega), Nat.testBit_two_pow_sub_one, Nat.testBit_two_pow_sub_one, Nat.testBit_two_pow_sub_one]
  by_cases h : j < a
  · rw [if_pos h, decide_eq_true h, decide_eq_true (by omega)]
  · rw [if_neg h, decide_eq_decide]; omega
theorem pc_full (m : Nat) : pc m (2 ^ m - 1) = m := by
  have : ∀ k, k ≤ m → sumN k (fun j => if (2 ^ m - 1).testBit j = true then 1 else 0) = k := by
    intro k
    induction k with
    | zero => intro _; rfl
    | succ k ih =>
      intro hk
      show sumN k _ + (if _ then 1 else 0) = k + 1
      rw [ih (by omega), if_pos (by rw [Nat.testBit_two_pow_sub_one]; simp; omega)]
  exact this m (Nat.le_refl _)
/-- who is ahead, by numbers -/
def Tm.bN (T : Tm) (i j : Nat) : Bool := T.bef (i : Int) (j : Int)
theorem Tm.bN_high (T : Tm) (i j : Nat) (h : j ≤ i) : T.bN i j = false := T.bef_out _ _ (by omega)
theorem Tm.seq_rightN (l r : Tm) (i j : Nat) : (Tm.seq l r).bN (l.sz + i) (l.sz + j) = r.bN i j := by
  unfold Tm.bN
  rw [Tm.bef, l.bef_out _ _ (by omega), decide_eq_false (show ¬ (((l.sz + i : Nat) : Int) < (l.sz : Int)) by omega), show ((l.sz + i : Nat) : Int) - l.sz = i by omega, show ((l.sz + j : Nat) : Int) - l.sz = j by omega]
  simp
theorem Tm.par_rightN (l r : Tm) (i j : Nat) : (Tm.par l r).bN (l.sz + i) (l.sz + j) = r.bN i j := by
  unfold Tm.bN
  rw [Tm.bef, l.bef_out _ _ (by omega), show ((l.sz + i : Nat) : Int) - l.sz = i by omega, show ((l.sz + j : Nat) : Int) - l.sz = j by omega]
  simp
theorem full_lt (m : Nat) : 2 ^ m - 1 < 2 ^ m := by have := Nat.two_pow_pos m; omega
theorem Tm.gC_cnt (T : Tm) (hs : T.sz ≤ 14) : gC T.bN T.sz (2 ^ T.sz - 1) = T.cnt := by
  induction T with
  | nil => rfl
  | one a =>
    show gC (Tm.one a).bN 1 1 = 1
    rw [gC_eq (by omega) (by omega) (by omega)]
    show (0 + if okG (Tm.one a).bN 1 1 0 = true then gC (Tm.one a).bN 1 (er 1 0) else 0) = 1
    rw [if_pos (okG_iff.2 ⟨rfl, fun j _ hf => by cases hf⟩)]
    rfl
  | seq l r il ir =>
    have hs' : l.sz + r.sz ≤ 14 := hs
    have e1 := gC_seq (f := (Tm.seq l r).bN) (a := l.sz) (b := r.sz) hs' (fun i j hi hj => Tm.seq_cross l r _ _ (by omega) (by omega) (by omega) (by omega)) (fun i j hj => Tm.bN_high _ _ _ (by omega)) (full_lt _) (fun j hj => by rw [Nat.testBit_two_pow_sub_one]; exact decide_eq_true hj) _ _ (Nat.le_refl _) (full_lt l.sz)
    rw [cat_full] at e1
    show gC _ (l.sz + r.sz) (2 ^ (l.sz + r.sz) - 1) = l.cnt * r.cnt
    rw [e1, gC_congr (f := (Tm.seq l r).bN) (g := l.bN) (m := l.sz) (fun i j hi hj => Tm.seq_left l r _ _ (by omega) (by omega)), gC_congr (f := sh (Tm.seq l r).bN l.sz) (g := r.bN) (m := r.sz) (fun i j _ _ => Tm.seq_rightN l r i j), il (by omega), ir (by omega)]
  | par l r il ir =>
    have hs' : l.sz + r.sz ≤ 14 := hs
    have e1 := gC_par (f := (Tm.par l r).bN) (a := l.sz) (b := r.sz) hs' (fun i j hi => Tm.par_cross l r _ _ (by omega) (by omega)) (fun i j hj => Tm.bN_high _ _ _ (by omega)) _ _ _ (Nat.le_refl _) (full_lt l.sz) (full_lt r.sz)
    rw [cat_full, pc_full, pc_full] at e1
    show gC _ (l.sz + r.sz) (2 ^ (l.sz + r.sz) - 1) = l.cnt * r.cnt * ch l.sz r.sz
    rw [e1, gC_congr (f := (Tm.par l r).bN) (g := l.bN) (m := l.sz) (fun i j hi hj => Tm.par_left l r _ _ (by omega) (by omega)), gC_congr (f := sh (Tm.par l r).bN l.sz) (g := r.bN) (m := r.sz) (fun i j _ _ => Tm.par_rightN l r i j), il (by omega), ir (by omega), Nat.mul_comm]
end Go.Proofs.YtidgibkiacbgfaaDoor

namespace Go.Proofs.YtidgibkiacbgfaaDoor
open Go.RowKit
set_option maxRecDepth 100000

/-- the orders of a term's graph, counted from behind, are those of the term -/
theorem cnt_eds (T : Tm) (hs : T.sz ≤ 14) : cntV (T.sz : Int) T.eds = ((T.cnt % 18446744073709551616 : Nat) : Int) ∧ cntE (T.sz : Int) T.eds = 0 := by
  have h := cnt_ok (T.errn_eds (by omega)) hs
  rw [gC_congr (g := T.bN) (fun i j _ _ => eds_fw T T.sz i j), T.gC_cnt hs] at h
  exact h

set_option maxHeartbeats 2000000 in
theorem spCountsLaw_many (T : Tm) (h : Hd) (w : World) (hT : TIn w w.heap.size T h) (hs : T.sz ≤ 1048576) (hTab : Tab w) (hbig : 200 < T.sz) :
    Calls Tryd.prog 3 #[.agg h.cells] w fun e w' => e = .returned (.bool true) ∧ Below w.heap.size w w' := by
  have key : ∃ w1, w1 = w.alloc (.cells h.cells 26) ∧ Below w.heap.size w w1 ∧ TB 26 w1 w.heap.size h := ⟨_, rfl, (Below.refl _ _).alloc (Nat.le_refl _) _, TB.new _ _ _⟩
  obtain ⟨w1, hw1, hb, ht⟩ := key
  have hs1 : w.heap.size + 1 = w1.heap.size := by rw [hw1]; simp
  have hTi := (hT.below hb (Nat.le_refl _)).more (show w.heap.size ≤ w1.heap.size by omega)
  have hTa : Tab w1 := hTab.step hb
  obtain ⟨k, c, x, l, A, q, cap⟩ := h
  dsimp only [Hd.cells] at hw1 ⊢
  clear hT hTab hs1
  go_enter Tryd.func3, Tryd.ntmps3
  go_wp2_with fail
  rw [← hw1]
  clear hw1
  refine (alive4_any w1 hTa).mono ?_
  rintro e w2 ⟨rfl, hb2⟩
  replace hTi := (hTi.below hb2 (Nat.le_refl _)).more hb2.size
  replace hTa := hTa.step hb2
  replace ht : TB 26 _ _ _ := (hb2.block _ ht.lt).trans ht
  replace hb := hb.trans (hb2.mono hb.size)
  clear hb2
  have t0 := ht.c0
  have t1 := ht.c1
  have t2 := ht.c2
  have t3 := ht.c3
  have t4 := ht.c4
  dsimp only at t0 t1 t2 t3 t4
  go_wp2_with fail
  refine (graph_many T _ _ hTi hs hbig).mono ?_
  rintro e w3 ⟨rfl, hb3⟩
  replace hTi := (hTi.below hb3 (Nat.le_refl _)).more hb3.size
  replace hTa := hTa.step hb3
  replace ht : TB 26 _ _ _ := (hb3.block _ ht.lt).trans ht
  replace hb := hb.trans (hb3.mono hb.size)
  clear hb3
  clear t0 t1 t2 t3 t4
  have hbf := hb.trans (((Below.refl w3.heap.size w3).alloc (Nat.le_refl _) (.cells #[.int .i64 0, .slice none 0 0] 30)).mono hb.size)
  go_wp2_with fail
  go_ret
  exact ⟨rfl, hbf⟩

set_option maxHeartbeats 2000000 in
theorem spCountsLaw_mid (T : Tm) (h : Hd) (w : World) (hT : TIn w w.heap.size T h) (hs : T.sz ≤ 1048576) (hTab : Tab w) (hfew : T.sz ≤ 200) (hmid : 12 < T.sz) :
    Calls Tryd.prog 3 #[.agg h.cells] w fun e w' => e = .returned (.bool true) ∧ Below w.heap.size w w' := by
  have key : ∃ w1, w1 = w.alloc (.cells h.cells 26) ∧ Below w.heap.size w w1 ∧ TB 26 w1 w.heap.size h := ⟨_, rfl, (Below.refl _ _).alloc (Nat.le_refl _) _, TB.new _ _ _⟩
  obtain ⟨w1, hw1, hb, ht⟩ := key
  have hs1 : w.heap.size + 1 = w1.heap.size := by rw [hw1]; simp
  have hTi := (hT.below hb (Nat.le_refl _)).more (show w.heap.size ≤ w1.heap.size by omega)
  have hTa : Tab w1 := hTab.step hb
  obtain ⟨k, c, x, l, A, q, cap⟩ := h
  dsimp only [Hd.cells] at hw1 ⊢
  clear hT hTab hs1
  go_enter Tryd.func3, Tryd.ntmps3
  go_wp2_with fail
  rw [← hw1]
  clear hw1
  refine (alive4_any w1 hTa).mono ?_
  rintro e w2 ⟨rfl, hb2⟩
  replace hTi := (hTi.below hb2 (Nat.le_refl _)).more hb2.size
  replace hTa := hTa.step hb2
  replace ht : TB 26 _ _ _ := (hb2.block _ ht.lt).trans ht
  replace hb := hb.trans (hb2.mono hb.size)
  clear hb2
  have t0 := ht.c0
  have t1 := ht.c1
  have t2 := ht.c2
  have t3 := ht.c3
  have t4 := ht.c4
  dsimp only at t0 t1 t2 t3 t4
  go_wp2_with fail
  refine (graph_few T _ _ hTi hfew).mono ?_
  rintro e w3 ⟨A3, c3, rfl, hown, hb3⟩
  replace hTi := (hTi.below hb3 (Nat.le_refl _)).more hb3.size
  replace hTa := hTa.step hb3
  replace ht : TB 26 _ _ _ := (hb3.block _ ht.lt).trans ht
  replace hb := hb.trans (hb3.mono hb.size)
  clear hb3
  clear t0 t1 t2 t3 t4
  clear hown
  have hbf := hb.trans (((Below.refl w3.heap.size w3).alloc (Nat.le_refl _) (.cells #[.int .i64 (T.sz : Int), .slice A3 T.eds.length c3] 30)).mono hb.size)
  have hgt : (12 : Int) < (T.sz : Int) := by omega
  have hdc : decide ((12 : Int) < (T.sz : Int)) = true := decide_eq_true hgt
  clear hTi hTa ht hb hs hfew hmid
  go_wp2_with fail
  go_ret
  exact ⟨rfl, hbf⟩

set_option maxHeartbeats 2000000 in
theorem spCountsLaw_few (T : Tm) (h : Hd) (w : World) (hT : TIn w w.heap.size T h) (hs : T.sz ≤ 1048576) (hTab : Tab w) (hfew : T.sz ≤ 12) :
    Calls Tryd.prog 3 #[.agg h.cells] w fun e w' => e = .returned (.bool true) ∧ Below w.heap.size w w' := by
  have key : ∃ w1, w1 = w.alloc (.cells h.cells 26) ∧ Below w.heap.size w w1 ∧ TB 26 w1 w.heap.size h := ⟨_, rfl, (Below.refl _ _).alloc (Nat.le_refl _) _, TB.new _ _ _⟩
  obtain ⟨w1, hw1, hb, ht⟩ := key
  have hs1 : w.heap.size + 1 = w1.heap.size := by rw [hw1]; simp
  have hTi := (hT.below hb (Nat.le_refl _)).more (show w.heap.size ≤ w1.heap.size by omega)
  have hTa : Tab w1 := hTab.step hb
  obtain ⟨k, c, x, l, A, q, cap⟩ := h
  dsimp only [Hd.cells] at hw1 ⊢
  clear hT hTab hs1
  go_enter Tryd.func3, Tryd.ntmps3
  go_wp2_with fail
  rw [← hw1]
  clear hw1
  refine (alive4_any w1 hTa).mono ?_
  rintro e w2 ⟨rfl, hb2⟩
  replace hTi := (hTi.below hb2 (Nat.le_refl _)).more hb2.size
  replace hTa := hTa.step hb2
  replace ht : TB 26 _ _ _ := (hb2.block _ ht.lt).trans ht
  replace hb := hb.trans (hb2.mono hb.size)
  clear hb2
  have t0 := ht.c0
  have t1 := ht.c1
  have t2 := ht.c2
  have t3 := ht.c3
  have t4 := ht.c4
  dsimp only at t0 t1 t2 t3 t4
  go_wp2_with fail
  refine (graph_few T _ _ hTi (by omega)).mono ?_
  rintro e w3 ⟨A3, c3, rfl, hown, hb3⟩
  have hr3 := own_rdEg hown (eds_len T (by omega))
  replace hTi := (hTi.below hb3 (Nat.le_refl _)).more hb3.size
  replace hTa := hTa.step hb3
  replace ht : TB 26 _ _ _ := (hb3.block _ ht.lt).trans ht
  replace hb := hb.trans (hb3.mono hb.size)
  clear hb3
  clear t0 t1 t2 t3 t4
  clear hown
  obtain ⟨w4, hw4⟩ : ∃ w4, w4 = w3.alloc (.cells #[.int .i64 (T.sz : Int), .slice A3 T.eds.length c3] 30) := ⟨_, rfl⟩
  have hb4 : Below w3.heap.size w3 w4 := by rw [hw4]; exact (Below.refl _ _).alloc (Nat.le_refl _) _
  have g4 : GrB w4 w3.heap.size (T.sz : Int) (.slice A3 T.eds.length c3) := by rw [hw4]; exact World.alloc_heap_new w3 _
  replace hr3 := (hr3.below hb4).more hb4.size
  replace hTi := (hTi.below hb4 (Nat.le_refl _)).more hb4.size
  replace hTa := hTa.step hb4
  replace ht : TB 26 _ _ _ := (hb4.block _ ht.lt).trans ht
  replace hb := hb.trans (hb4.mono hb.size)
  clear hb4
  have n4 := g4.n
  have e4 := g4.e
  rw [hw4] at n4 e4
  have hgt : ¬ ((12 : Int) < (T.sz : Int)) := by omega
  have hdc : decide ((12 : Int) < (T.sz : Int)) = false := decide_eq_false hgt
  obtain ⟨z, hz⟩ : ∃ z, z = T.sz := ⟨_, rfl⟩
  obtain ⟨ne, hne⟩ : ∃ ne, ne = T.eds.length := ⟨_, rfl⟩
  have HZ := Lib.hid hz
  have HNE := Lib.hid hne
  have HFEW := Lib.hid hfew
  have HSS := Lib.hid hs
  rw [← hz, ← hne] at n4 e4 g4 hw4
  rw [← hz] at hgt hdc ⊢
  rw [← hne]
  clear hz hne hfew hs
  go_wp2_with fail
  rw [← hw4]
  clear n4 e4 hw4
  have hoc := ocount_any A3 c3 (T.sz : Int) T.eds w4 (T.rdE (by have := HFEW.out; omega) hr3) hTa
  rw [(cnt_eds T (by have := HFEW.out; omega)).1, (cnt_eds T (by have := HFEW.out; omega)).2] at hoc
  rw [← HZ.out, ← HNE.out] at hoc
  refine hoc.mono ?_
  rintro e w5 ⟨rfl, hb5⟩
  clear hoc hr3
  replace hTi := (hTi.below hb5 (Nat.le_refl _)).more hb5.size
  replace hTa := hTa.step hb5
  replace ht : TB 26 _ _ _ := (hb5.block _ ht.lt).trans ht
  replace hb := hb.trans (hb5.mono hb.size)
  clear hb5
  have t0 := ht.c0
  have t1 := ht.c1
  have t2 := ht.c2
  have t3 := ht.c3
  have t4 := ht.c4
  dsimp only at t0 t1 t2 t3 t4
  obtain ⟨y, hy⟩ : ∃ y, y = T.cnt % 18446744073709551616 := ⟨_, rfl⟩
  have HY := Lib.hid hy
  rw [← hy]
  clear hy
  go_wp2_with fail
  have hsc := count_any T _ _ hTi HSS.out hTa
  rw [← HY.out] at hsc
  refine hsc.mono ?_
  rintro e w6 ⟨rfl, hb6⟩
  have hbf := hb.trans (hb6.mono hb.size)
  clear hsc hb6 hb hTi hTa ht t0 t1 t2 t3 t4
  go_wp2_with fail
  go_ret
  exact ⟨by simp, hbf⟩

theorem spCountsLaw_any (T : Tm) (h : Hd) (w : World) (hT : TIn w w.heap.size T h) (hs : T.sz ≤ 1048576) (hTab : Tab w) :
    Calls Tryd.prog 3 #[.agg h.cells] w fun e w' => e = .returned (.bool true) ∧ Below w.heap.size w w' := by
  by_cases hb : 200 < T.sz
  · exact spCountsLaw_many T h w hT hs hTab hb
  · by_cases hm : 12 < T.sz
    · exact spCountsLaw_mid T h w hT hs hTab (by omega) hm
    · exact spCountsLaw_few T h w hT hs hTab (by omega)
end Go.Proofs.YtidgibkiacbgfaaDoor

namespace Go.Proofs.YtidgibkiacbgfaaDoor
open Go.ChangeShapes Go.WideShapes Go.ChangeAt Go.RowKit Go.Deep Go.Joins

theorem bulk_pos {H : Type} (d : DataW H) : 1 ≤ Rows.uptoBulk d := by
  cases d with
  | lit l => cases l <;> simp [Rows.uptoBulk]
  | _ => simp [Rows.uptoBulk]
theorem small_le {H : Type} {l : List (DataW H)} (hk : Rows.uptoSmall H l = true) : Rows.uptoBulkAll l ≤ 1048576 := of_decide_eq_true hk

theorem open_tm {H : Type} {enc : TypeId × Value → H} {P : Program} {W : World} {tt ta tk : TypeId} {f0 f1 f2 a0 a1 a2 : Field}
    (hT : P.underlying tt = some (.struct #[f0, f1, f2])) (hC : P.cellsOf tt = 5) (o0 : f0.offset = 0) (o1 : f1.offset = 1) (o2 : f2.offset = 4) (i0 : P.underlying f0.type = some (.int .i64)) (c0 : P.cellsOf f0.type = 1)
    (e1 : f1.type = ta) (hA : P.underlying ta = some (.struct #[a0, a1, a2])) (cA : P.cellsOf ta = 3) (p0 : a0.offset = 0) (p1 : a1.offset = 1) (p2 : a2.offset = 2)
    (q0 : P.underlying a0.type = some (.int .i64)) (q1 : P.underlying a1.type = some .bool) (q2 : P.underlying a2.type = some (.int .i64)) (r0 : P.cellsOf a0.type = 1) (r1 : P.cellsOf a1.type = 1) (r2 : P.cellsOf a2.type = 1)
    (e2 : f2.type = tk) (hK : P.underlying tk = some (.slice tt)) (cK : P.cellsOf tk = 1) :
    ∀ (N n : Nat) (cs : List Value) (y : DataW H × List MemPlace), Rows.uptoBulk y.1 ≤ N → DataW.trod enc P W 0 (fun _ => true) true n tt cs = some y → (∀ x ∈ y.2, x.block < W.heap.size) →
      ∃ (T : Tm) (h : Hd), cs = h.cells.toList ∧ TIn W W.heap.size T h ∧ T.sz ≤ Rows.uptoBulk y.1 := by
  intro N
  induction N using Nat.strongRecOn with
  | _ N ih =>
    intro n cs y hN h hlt
    obtain ⟨xs, m, rfl, rfl, hl, hlen, hf⟩ := DataW.trod_struct hT h
    rw [hC] at hl
    match xs, hlen, cs, hl with
    | [y0, y1, y2], _, [v0, v1, v2, v3, v4], _ =>
      have g0 := hf 0 f0 rfl
      have g1 := hf 1 f1 rfl
      have g2 := hf 2 f2 rfl
      simp [o0, o1, o2, c0, e1, e2, cA, cK] at g0 g1 g2
      obtain ⟨k, hv0, rfl, _⟩ := DataW.trod_int i0 g0
      obtain ⟨zs, m', rfl, rfl, _, hlen', hf'⟩ := DataW.trod_struct hA g1
      match zs, hlen' with
      | [z0, z1, z2], _ =>
        have k0 := hf' 0 a0 rfl
        have k1 := hf' 1 a1 rfl
        have k2 := hf' 2 a2 rfl
        simp [p0, p1, p2, r0, r1, r2] at k0 k1 k2
        obtain ⟨c, hv1, rfl, _⟩ := DataW.trod_int q0 k0
        obtain ⟨x, hv2, rfl⟩ := DataW.trod_bool q1 k1
        obtain ⟨l, hv3, rfl, _⟩ := DataW.trod_int q2 k2
        simp at hv0 hv1 hv2 hv3
        subst hv0 hv1 hv2 hv3
        rcases open_slice hK g2 with ⟨hcs, rfl⟩ | ⟨a, len, cap, mm, nn, D, Pl, hcs, _, hle, hm, hmm, rfl, hx⟩
        · simp at hcs
          subst hcs
          by_cases hk : k = 1
          · subst hk
            refine ⟨.one (c, x, l), ⟨1, c, x, l, none, 0, 0⟩, rfl, ⟨rfl, rfl⟩, ?_⟩
            have := bulk_pos (DataW.agg (H := H) [.lit (.int .i64 1), .agg [.lit (.int .i64 c), .lit (.bool x), .lit (.int .i64 l)], .nil])
            simpa [Tm.sz] using this
          · exact ⟨.nil, ⟨k, c, x, l, none, 0, 0⟩, rfl, ⟨hk, .inr (show (0 : Nat) < 2 by omega)⟩, Nat.zero_le _⟩
        · simp at hcs
          subst hcs
          by_cases hk : k = 1
          · subst hk
            refine ⟨.one (c, x, l), ⟨1, c, x, l, some a, len, cap⟩, rfl, ⟨rfl, rfl⟩, ?_⟩
            exact bulk_pos _
          · by_cases hk2 : (k = 2 ∨ k = 3) ∧ 2 ≤ len
            · obtain ⟨hk3, hlen2⟩ := hk2
              have hlm : len ≤ mm := by rw [hmm]; split <;> omega
              obtain ⟨cs0, hc0, ht0⟩ := hx 0 (by omega)
              obtain ⟨cs1, hc1, ht1⟩ := hx 1 (by omega)
              obtain ⟨rest, hrest⟩ : ∃ rest, (List.range len).map D = D 0 :: D 1 :: rest := by
                obtain ⟨j, rfl⟩ : ∃ j, len = j + 2 := ⟨len - 2, by omega⟩
                refine ⟨(List.range j).map (D ∘ Nat.succ ∘ Nat.succ), ?_⟩
                rw [List.range_succ_eq_map, List.range_succ_eq_map]
                simp
              have hbulk : Rows.uptoBulk (D 0) + Rows.uptoBulk (D 1) + 1 ≤ Rows.uptoBulk (DataW.agg (([((DataW.lit (.int .i64 k), []) : DataW H × List MemPlace), (DataW.agg ([((DataW.lit (.int .i64 c), []) : DataW H × List MemPlace), (.lit (.bool x), []), (.lit (.int .i64 l), [])].map (·.1)), [((DataW.lit (.int .i64 c), []) : DataW H × List MemPlace), (.lit (.bool x), []), (.lit (.int .i64 l), [])].flatMap (·.2)), (.slice ((List.range len).map D) ((List.range (mm - len)).map fun j => D (len + j)), MemPlace.row a (mm * P.cellsOf tt) ++ (List.range mm).flatMap Pl)]).map (·.1))) := by
                simp only [List.map_cons, List.map_nil, Rows.uptoBulk, Rows.uptoBulkAll, hrest]
                omega
              have hlt0 : ∀ z ∈ Pl 0, z.block < W.heap.size := fun z hz => hlt z (by simp; first | exact .inr (.inr ⟨0, by omega, hz⟩) | exact .inr ⟨0, by omega, hz⟩)
              have hlt1 : ∀ z ∈ Pl 1, z.block < W.heap.size := fun z hz => hlt z (by simp; first | exact .inr (.inr ⟨1, by omega, hz⟩) | exact .inr ⟨1, by omega, hz⟩)
              have hbN := Nat.le_trans hbulk hN
              obtain ⟨T0, h0, rfl, hT0, hs0⟩ := ih (Rows.uptoBulk (D 0)) (by omega) nn cs0 (D 0, Pl 0) (Nat.le_refl _) ht0 hlt0
              obtain ⟨T1, h1, rfl, hT1, hs1⟩ := ih (Rows.uptoBulk (D 1)) (by omega) nn cs1 (D 1, Pl 1) (Nat.le_refl _) ht1 hlt1
              rw [hC] at hc0 hc1
              obtain ⟨_, _, hcell0⟩ := World.cells?_some hc0
              obtain ⟨_, _, hcell1⟩ := World.cells?_some hc1
              obtain ⟨b, off, spot⟩ := a
              have hspot : spot = none := by
                have := hcell0 0 (by omega)
                simpa [Addr.add] using World.cell?_spot this
              subst hspot
              have hb : b < W.heap.size := World.block_lt_of_cell? _ _ (hcell0 0 (by omega))
              have at0 : HdAt W b off h0 := by
                refine ⟨?_, ?_, ?_, ?_, ?_⟩
                · simpa [add_plain, Hd.cells] using hcell0 0 (by omega)
                · simpa [add_plain, Hd.cells] using hcell0 1 (by omega)
                · simpa [add_plain, Hd.cells] using hcell0 2 (by omega)
                · simpa [add_plain, Hd.cells] using hcell0 3 (by omega)
                · simpa [add_plain, Hd.cells] using hcell0 4 (by omega)
              have at1 : HdAt W b (off + 5) h1 := by
                refine ⟨?_, ?_, ?_, ?_, ?_⟩
                · simpa [add_plain, Hd.cells] using hcell1 0 (by omega)
                · simpa [add_plain, Hd.cells] using hcell1 1 (by omega)
                · simpa [add_plain, Hd.cells] using hcell1 2 (by omega)
                · simpa [add_plain, Hd.cells] using hcell1 3 (by omega)
                · simpa [add_plain, Hd.cells] using hcell1 4 (by omega)
              rcases hk3 with rfl | rfl
              · exact ⟨.seq T0 T1, ⟨2, c, x, l, some ⟨b, off, none⟩, len, cap⟩, rfl, ⟨rfl, hlen2, b, off, h0, h1, rfl, hb, at0, at1, hT0, hT1⟩, by refine Nat.le_trans ?_ (Nat.le_of_succ_le hbulk); simp only [Tm.sz]; dsimp only at hs0 hs1; omega⟩
              · exact ⟨.par T0 T1, ⟨3, c, x, l, some ⟨b, off, none⟩, len, cap⟩, rfl, ⟨rfl, hlen2, b, off, h0, h1, rfl, hb, at0, at1, hT0, hT1⟩, by refine Nat.le_trans ?_ (Nat.le_of_succ_le hbulk); simp only [Tm.sz]; dsimp only at hs0 hs1; omega⟩
            · refine ⟨.nil, ⟨k, c, x, l, some a, len, cap⟩, rfl, ⟨hk, ?_⟩, Nat.zero_le _⟩
              dsimp only
              omega
end Go.Proofs.YtidgibkiacbgfaaDoor

namespace Go.Proofs.YtidgibkiacbgfaaDoor

/-- what a composition makes of its kids' measures: added (true), or the larger one -/
def jn (b : Bool) (x y : Nat) : Nat := if b then x + y else max x y
theorem jn_le (b : Bool) (x y : Nat) : jn b x y ≤ x + y := by cases b <;> simp [jn] <;> omega

def Tm.ms (s p : Bool) : Tm → Nat
  | .nil => 0
  | .one _ => 1
  | .seq l r => jn s (l.ms s p) (r.ms s p)
  | .par l r => jn p (l.ms s p) (r.ms s p)
theorem Tm.ms_le (s p : Bool) (T : Tm) : T.ms s p ≤ T.sz := by
  induction T with
  | nil => exact Nat.le_refl _
  | one a => exact Nat.le_refl _
  | seq l r il ir => simp only [Tm.ms, Tm.sz]; have := jn_le s (l.ms s p) (r.ms s p); omega
  | par l r il ir => simp only [Tm.ms, Tm.sz]; have := jn_le p (l.ms s p) (r.ms s p); omega
theorem Tm.ms_work (T : Tm) : T.ms true true = T.sz := by
  induction T with
  | nil => rfl
  | one a => rfl
  | seq l r il ir => simp only [Tm.ms, Tm.sz, il, ir]; rfl
  | par l r il ir => simp only [Tm.ms, Tm.sz, il, ir]; rfl

/-- the span, and the width -/
abbrev Tm.sn (T : Tm) : Nat := T.ms true false
abbrev Tm.wd (T : Tm) : Nat := T.ms false true
theorem Tm.sn_seq (l r : Tm) : (Tm.seq l r).sn = l.sn + r.sn := rfl
theorem Tm.sn_par (l r : Tm) : (Tm.par l r).sn = max l.sn r.sn := rfl
theorem Tm.wd_seq (l r : Tm) : (Tm.seq l r).wd = max l.wd r.wd := rfl
theorem Tm.wd_par (l r : Tm) : (Tm.par l r).wd = l.wd + r.wd := rfl

theorem area_step {a b c d x y : Nat} (h1 : a ≤ b * c) (h2 : x ≤ d * y) : a + x ≤ (b + d) * max c y := by
  have e1 : b * c ≤ b * max c y := Nat.mul_le_mul_left _ (Nat.le_max_left _ _)
  have e2 : d * y ≤ d * max c y := Nat.mul_le_mul_left _ (Nat.le_max_right _ _)
  rw [Nat.add_mul]
  omega
theorem Tm.area (T : Tm) : T.sz ≤ T.sn * T.wd := by
  induction T with
  | nil => exact Nat.le_refl _
  | one a => exact Nat.le_refl _
  | seq l r il ir =>
    rw [Tm.sn_seq, Tm.wd_seq]
    simp only [Tm.sz]
    exact area_step il ir
  | par l r il ir =>
    rw [Tm.sn_par, Tm.wd_par, Nat.mul_comm]
    rw [Nat.mul_comm] at il ir
    simp only [Tm.sz]
    exact area_step il ir
theorem Tm.ms_zero (s p : Bool) (T : Tm) : T.sz = 0 ↔ T.ms s p = 0 := by
  have key : ∀ (b : Bool) (x y : Nat), jn b x y = 0 ↔ x = 0 ∧ y = 0 := fun b x y => by cases b <;> simp [jn] <;> omega
  induction T with
  | nil => exact Iff.rfl
  | one a => simp [Tm.sz, Tm.ms]
  | seq l r il ir => simp only [Tm.sz, Tm.ms, key, ← il, ← ir]; omega
  | par l r il ir => simp only [Tm.sz, Tm.ms, key, ← il, ← ir]; omega

/-- how long a longest chain is that ends at leaf k -/
def Tm.ce : Tm → Int → Nat
  | .nil, _ => 0
  | .one _, _ => 1
  | .seq l r, k => if k < l.sz then l.ce k else l.sn + r.ce (k - l.sz)
  | .par l r, k => if k < l.sz then l.ce k else r.ce (k - l.sz)

theorem Tm.ce_range (T : Tm) : ∀ k : Int, 0 ≤ k → k < T.sz → 1 ≤ T.ce k ∧ T.ce k ≤ T.sn := by
  induction T with
  | nil => intro k h0 h1; simp only [Tm.sz] at h1; omega
  | one a => intro k h0 h1; exact ⟨Nat.le_refl _, Nat.le_refl _⟩
  | seq l r il ir =>
    intro k h0 h1
    simp only [Tm.sz] at h1
    rw [Tm.sn_seq]
    simp only [Tm.ce]
    split
    · have := il k h0 (by assumption); omega
    · have := ir (k - l.sz) (by omega) (by omega); omega
  | par l r il ir =>
    intro k h0 h1
    simp only [Tm.sz] at h1
    rw [Tm.sn_par]
    simp only [Tm.ce]
    split
    · have := il k h0 (by assumption); omega
    · have := ir (k - l.sz) (by omega) (by omega); omega
theorem Tm.ce_top (T : Tm) : 0 < T.sz → ∃ k : Int, 0 ≤ k ∧ k < T.sz ∧ T.ce k = T.sn := by
  induction T with
  | nil => intro h; simp only [Tm.sz] at h; omega
  | one a => intro h; exact ⟨0, by omega, by simp [Tm.sz], rfl⟩
  | seq l r il ir =>
    intro h
    simp only [Tm.sz] at h
    rw [Tm.sn_seq]
    by_cases hr : 0 < r.sz
    · obtain ⟨k, h0, h1, h2⟩ := ir hr
      refine ⟨k + l.sz, by omega, by simp only [Tm.sz]; omega, ?_⟩
      simp only [Tm.ce]
      rw [if_neg (by omega), show k + (l.sz : Int) - l.sz = k by omega, h2]
    · obtain ⟨k, h0, h1, h2⟩ := il (by omega)
      have hz : r.sn = 0 := (r.ms_zero true false).1 (by omega)
      refine ⟨k, h0, by simp only [Tm.sz]; omega, ?_⟩
      simp only [Tm.ce]
      rw [if_pos h1, h2, hz]
      rfl
  | par l r il ir =>
    intro h
    simp only [Tm.sz] at h
    rw [Tm.sn_par]
    by_cases hc : l.sn ≤ r.sn
    · have hr : 0 < r.sz := by
        apply Nat.pos_of_ne_zero
        intro hz
        have h1 := (r.ms_zero true false).1 hz
        have h2 : l.sz = 0 := (l.ms_zero true false).2 (by show l.sn = 0; have : r.sn = 0 := h1; omega)
        omega
      obtain ⟨k, h0, h1, h2⟩ := ir hr
      refine ⟨k + l.sz, by omega, by simp only [Tm.sz]; omega, ?_⟩
      simp only [Tm.ce]
      rw [if_neg (by omega), show k + (l.sz : Int) - l.sz = k by omega, h2]
      omega
    · have hl : 0 < l.sz := by
        apply Nat.pos_of_ne_zero
        intro hz
        have h1 : l.sn = 0 := (l.ms_zero true false).1 hz
        omega
      obtain ⟨k, h0, h1, h2⟩ := il hl
      refine ⟨k, h0, by simp only [Tm.sz]; omega, ?_⟩
      simp only [Tm.ce]
      rw [if_pos h1, h2]
      omega

/-- a chain goes on -/
theorem Tm.ce_step (T : Tm) : ∀ i j : Int, T.bef i j = true → T.ce i + 1 ≤ T.ce j := by
  induction T with
  | nil => intro i j h; simp [Tm.bef] at h
  | one a => intro i j h; simp [Tm.bef] at h
  | seq l r il ir =>
    intro i j h
    have hb := Tm.bef_lt _ _ _ h
    simp only [Tm.sz] at hb
    simp only [Tm.ce]
    by_cases hi : i < l.sz
    · by_cases hj : j < l.sz
      · rw [if_pos hi, if_pos hj]
        rw [Tm.seq_left l r _ _ hi hj] at h
        exact il _ _ h
      · rw [if_pos hi, if_neg hj]
        have h1 := (l.ce_range i hb.1 hi).2
        have h2 := (r.ce_range (j - l.sz) (by omega) (by omega)).1
        omega
    · by_cases hj : j < l.sz
      · omega
      · rw [if_neg hi, if_neg hj]
        rw [Tm.seq_right l r _ _ (by omega) (by omega)] at h
        have := ir _ _ h
        omega
  | par l r il ir =>
    intro i j h
    have hb := Tm.bef_lt _ _ _ h
    simp only [Tm.sz] at hb
    simp only [Tm.ce]
    by_cases hi : i < l.sz
    · by_cases hj : j < l.sz
      · rw [if_pos hi, if_pos hj]
        rw [Tm.par_left l r _ _ hi hj] at h
        exact il _ _ h
      · rw [Tm.par_cross l r _ _ hi (by omega)] at h
        cases h
    · by_cases hj : j < l.sz
      · omega
      · rw [if_neg hi, if_neg hj]
        rw [Tm.par_right l r _ _ (by omega) (by omega)] at h
        exact ir _ _ h

/-- a chain that is longer than one leaf has a leaf before its last one -/
theorem Tm.ce_prev (T : Tm) : ∀ j : Int, 0 ≤ j → j < T.sz → T.ce j = 1 ∨ ∃ i, T.bef i j = true ∧ T.ce j = T.ce i + 1 := by
  induction T with
  | nil => intro j h0 h1; simp only [Tm.sz] at h1; omega
  | one a => intro j h0 h1; exact .inl rfl
  | seq l r il ir =>
    intro j h0 h1
    simp only [Tm.sz] at h1
    by_cases hj : j < l.sz
    · have e : (Tm.seq l r).ce j = l.ce j := by simp only [Tm.ce]; rw [if_pos hj]
      rw [e]
      rcases il j h0 hj with h | ⟨i, h2, h3⟩
      · exact .inl h
      · have hb := l.bef_lt _ _ h2
        refine .inr ⟨i, by rw [Tm.seq_left l r _ _ (by omega) hj]; exact h2, ?_⟩
        simp only [Tm.ce]
        rw [if_pos (by omega), h3]
    · have e : (Tm.seq l r).ce j = l.sn + r.ce (j - l.sz) := by simp only [Tm.ce]; rw [if_neg hj]
      rw [e]
      rcases ir (j - l.sz) (by omega) (by omega) with h | ⟨i, h2, h3⟩
      · by_cases hl : 0 < l.sz
        · obtain ⟨i, i0, i1, hi⟩ := l.ce_top hl
          refine .inr ⟨i, Tm.seq_cross l r i j i0 i1 (by omega) (by omega), ?_⟩
          simp only [Tm.ce]
          rw [if_pos i1, hi, h]
        · have hz : l.sn = 0 := (l.ms_zero true false).1 (by omega)
          left
          omega
      · have hb := r.bef_lt _ _ h2
        refine .inr ⟨i + l.sz, ?_, ?_⟩
        · rw [Tm.seq_right l r _ _ (by omega) (by omega), show i + (l.sz : Int) - l.sz = i by omega]; exact h2
        · simp only [Tm.ce]
          rw [if_neg (by omega), show i + (l.sz : Int) - l.sz = i by omega]
          omega
  | par l r il ir =>
    intro j h0 h1
    simp only [Tm.sz] at h1
    by_cases hj : j < l.sz
    · have e : (Tm.par l r).ce j = l.ce j := by simp only [Tm.ce]; rw [if_pos hj]
      rw [e]
      rcases il j h0 hj with h | ⟨i, h2, h3⟩
      · exact .inl h
      · have hb := l.bef_lt _ _ h2
        refine .inr ⟨i, by rw [Tm.par_left l r _ _ (by omega) hj]; exact h2, ?_⟩
        simp only [Tm.ce]
        rw [if_pos (by omega), h3]
    · have e : (Tm.par l r).ce j = r.ce (j - l.sz) := by simp only [Tm.ce]; rw [if_neg hj]
      rw [e]
      rcases ir (j - l.sz) (by omega) (by omega) with h | ⟨i, h2, h3⟩
      · exact .inl h
      · have hb := r.bef_lt _ _ h2
        refine .inr ⟨i + l.sz, ?_, ?_⟩
        · rw [Tm.par_right l r _ _ (by omega) (by omega), show i + (l.sz : Int) - l.sz = i by omega]; exact h2
        · simp only [Tm.ce]
          rw [if_neg (by omega), show i + (l.sz : Int) - l.sz = i by omega]
          omega

/-- the inner loop: how long a chain is that ends at j, the leaves below k looked at -/
def Tm.inn (T : Tm) (j : Nat) : Nat → Nat
  | 0 => 1
  | k + 1 => if T.bef (k : Int) (j : Int) then max (T.inn j k) (T.ce (k : Int) + 1) else T.inn j k
theorem Tm.inn_ge (T : Tm) (j : Nat) : ∀ k i : Nat, i < k → T.bef (i : Int) (j : Int) = true → T.ce (i : Int) + 1 ≤ T.inn j k := by
  intro k
  induction k with
  | zero => intro i h; omega
  | succ k ih =>
    intro i h hb
    simp only [Tm.inn]
    by_cases hik : i = k
    · subst hik; rw [if_pos hb]; omega
    · have := ih i (by omega) hb
      split <;> omega
theorem Tm.inn_le (T : Tm) (j : Nat) (hj : j < T.sz) : ∀ k : Nat, 1 ≤ T.inn j k ∧ T.inn j k ≤ T.ce (j : Int) := by
  have h1 := (T.ce_range (j : Int) (by omega) (by omega)).1
  intro k
  induction k with
  | zero => exact ⟨Nat.le_refl _, h1⟩
  | succ k ih =>
    simp only [Tm.inn]
    split
    · rename_i hb
      have := T.ce_step _ _ hb
      omega
    · exact ih
theorem Tm.inn_all (T : Tm) (j : Nat) (hj : j < T.sz) : T.inn j j = T.ce (j : Int) := by
  have h1 := T.inn_le j hj j
  rcases T.ce_prev (j : Int) (by omega) (by omega) with h | ⟨i, h2, h3⟩
  · omega
  · have hb := T.bef_lt _ _ h2
    obtain ⟨i, rfl⟩ : ∃ n : Nat, i = n := ⟨i.toNat, by omega⟩
    have := T.inn_ge j j i (by omega) h2
    omega
/-- the outer loop: the longest chain that ends below k -/
def Tm.bst (T : Tm) : Nat → Nat
  | 0 => 0
  | k + 1 => max (T.bst k) (T.ce (k : Int))
theorem Tm.bst_ge (T : Tm) : ∀ k i : Nat, i < k → T.ce (i : Int) ≤ T.bst k := by
  intro k
  induction k with
  | zero => intro i h; omega
  | succ k ih =>
    intro i h
    simp only [Tm.bst]
    by_cases hik : i = k
    · subst hik; omega
    · have := ih i (by omega); omega
theorem Tm.bst_le (T : Tm) : ∀ k : Nat, k ≤ T.sz → T.bst k ≤ T.sn := by
  intro k
  induction k with
  | zero => intro _; exact Nat.zero_le _
  | succ k ih =>
    intro h
    simp only [Tm.bst]
    have := ih (by omega)
    have := (T.ce_range (k : Int) (by omega) (by omega)).2
    omega
theorem Tm.bst_all (T : Tm) : T.bst T.sz = T.sn := by
  have h1 := T.bst_le T.sz (Nat.le_refl _)
  by_cases h0 : 0 < T.sz
  · obtain ⟨k, k0, k1, hk⟩ := T.ce_top h0
    obtain ⟨k, rfl⟩ : ∃ n : Nat, k = n := ⟨k.toNat, by omega⟩
    have := T.bst_ge T.sz k (by omega)
    omega
  · have hz : T.sn = 0 := (T.ms_zero true false).1 (by omega)
    omega
end Go.Proofs.YtidgibkiacbgfaaDoor
