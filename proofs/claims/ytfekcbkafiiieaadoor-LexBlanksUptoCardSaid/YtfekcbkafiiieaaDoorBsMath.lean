/-
  Plain mathematics of sets as lists of words: trimming, merging, bits.
-/
import Derived.Test.YtfekcbkafiiieaaDoorBsMem
namespace Go.Proofs.YtfekcbkafiiieaaDoor

def andN (x y : Nat) : Nat := x &&& y
def orN (x y : Nat) : Nat := x ||| y
/-- x without y -/
def lessN (x y : Nat) : Nat := x &&& (18446744073709551615 - y)

theorem andN_lt (x y : Nat) (hx : x < 18446744073709551616) : andN x y < 18446744073709551616 := Nat.lt_of_le_of_lt Nat.and_le_left hx
theorem orN_lt (x y : Nat) (hx : x < 18446744073709551616) (hy : y < 18446744073709551616) : orN x y < 18446744073709551616 := by
  have : x ||| y < 2 ^ 64 := Nat.or_lt_two_pow (by omega) (by omega)
  unfold orN; omega
theorem lessN_lt (x y : Nat) (hx : x < 18446744073709551616) : lessN x y < 18446744073709551616 := Nat.lt_of_le_of_lt Nat.and_le_left hx
theorem testBit_lessN (x y : Nat) (hy : y < 18446744073709551616) (j : Nat) (hj : j < 64) : (lessN x y).testBit j = (x.testBit j && !y.testBit j) := by
  have h : (2 ^ 64 - (y + 1)).testBit j = (decide (j < 64) && !y.testBit j) := Nat.testBit_two_pow_sub_succ (by omega) j
  have e : 18446744073709551615 - y = 2 ^ 64 - (y + 1) := by omega
  unfold lessN
  rw [Nat.testBit_and, e, h]
  simp [hj]

/-- the least n such that h is 0 from n on, below N -/
def trim (h : Nat → Nat) : Nat → Nat
  | 0 => 0
  | n + 1 => if h n = 0 then trim h n else n + 1
theorem trim_le (h : Nat → Nat) (n : Nat) : trim h n ≤ n := by
  induction n with
  | zero => simp [trim]
  | succ n ih => simp only [trim]; split <;> omega
theorem trim_zero (h : Nat → Nat) (n : Nat) (hn : h n = 0) : trim h (n + 1) = trim h n := by simp [trim, hn]
theorem trim_stop (h : Nat → Nat) (n : Nat) (hn : h n ≠ 0) : trim h (n + 1) = n + 1 := by simp [trim, hn]
theorem trim_above (h : Nat → Nat) (n k : Nat) (h1 : trim h n ≤ k) (h2 : k < n) : h k = 0 := by
  induction n with
  | zero => omega
  | succ n ih =>
    by_cases h0 : h n = 0
    · rw [trim_zero h n h0] at h1
      by_cases e : k = n
      · rw [e]; exact h0
      · exact ih h1 (by omega)
    · rw [trim_stop h n h0] at h1
      omega
theorem trim_last (h : Nat → Nat) (n : Nat) (hp : 0 < trim h n) : h (trim h n - 1) ≠ 0 := by
  induction n with
  | zero => simp [trim] at hp
  | succ n ih =>
    by_cases h0 : h n = 0
    · rw [trim_zero h n h0] at hp ⊢
      exact ih hp
    · rw [trim_stop h n h0]
      simpa using h0

/-- no last word is zero -/
def NoTail (xs : List Nat) : Prop := xs = [] ∨ wd xs (xs.length - 1) ≠ 0
theorem wd_map (h : Nat → Nat) (n k : Nat) : wd ((List.range n).map h) k = if k < n then h k else 0 := by
  unfold wd
  by_cases hk : k < n <;> simp [List.getD, hk]
theorem ext_wd (xs ys : List Nat) (hl : xs.length = ys.length) (h : ∀ k, k < xs.length → wd xs k = wd ys k) : xs = ys := by
  apply List.ext_getElem hl
  intro i h1 h2
  have := h i h1
  unfold wd at this
  simpa [List.getD, h1, h2] using this
theorem noTail_le {xs ys : List Nat} (hx : NoTail xs) (h : ∀ k, wd xs k = wd ys k) : xs.length ≤ ys.length := by
  rcases hx with rfl | hx
  · simp
  · rcases Nat.lt_or_ge ys.length xs.length with hlt | hge
    · rw [h, wd_out ys _ (by omega)] at hx
      exact absurd rfl hx
    · exact hge
/-- two lists without a zero at the end that have the same words are the same -/
theorem noTail_ext {xs ys : List Nat} (hx : NoTail xs) (hy : NoTail ys) (h : ∀ k, wd xs k = wd ys k) : xs = ys :=
  ext_wd xs ys (Nat.le_antisymm (noTail_le hx h) (noTail_le hy fun k => (h k).symm)) fun k _ => h k

/-- word by word, and no zero at the end -/
def mrg (f : Nat → Nat → Nat) (xs ys : List Nat) : List Nat :=
  (List.range (trim (fun k => f (wd xs k) (wd ys k)) (max xs.length ys.length))).map (fun k => f (wd xs k) (wd ys k))
theorem mrg_wd {f : Nat → Nat → Nat} (h0 : f 0 0 = 0) (xs ys : List Nat) (k : Nat) : wd (mrg f xs ys) k = f (wd xs k) (wd ys k) := by
  unfold mrg
  rw [wd_map]
  split
  · rfl
  · by_cases hk : k < max xs.length ys.length
    · exact (trim_above (fun k => f (wd xs k) (wd ys k)) _ k (by omega) hk).symm
    · rw [wd_out xs k (by omega), wd_out ys k (by omega), h0]
theorem mrg_len (f : Nat → Nat → Nat) (xs ys : List Nat) : (mrg f xs ys).length = trim (fun k => f (wd xs k) (wd ys k)) (max xs.length ys.length) := by simp [mrg]
theorem mrg_le (f : Nat → Nat → Nat) (xs ys : List Nat) : (mrg f xs ys).length ≤ max xs.length ys.length := by rw [mrg_len]; exact trim_le _ _
theorem mrg_noTail (f : Nat → Nat → Nat) (xs ys : List Nat) : NoTail (mrg f xs ys) := by
  by_cases h : (mrg f xs ys).length = 0
  · exact .inl (List.length_eq_zero_iff.1 h)
  · right
    have hl := mrg_len f xs ys
    have ht := trim_last (fun k => f (wd xs k) (wd ys k)) (max xs.length ys.length) (by omega)
    rw [hl]
    unfold mrg
    rw [wd_map, if_pos (by omega)]
    exact ht
/-- a list whose words are f's, with no zero at the end, is the merge -/
theorem mrg_uniq {f : Nat → Nat → Nat} (h0 : f 0 0 = 0) {xs ys zs : List Nat} (hz : NoTail zs) (h : ∀ k, wd zs k = f (wd xs k) (wd ys k)) : mrg f xs ys = zs :=
  noTail_ext (mrg_noTail f xs ys) hz fun k => by rw [mrg_wd h0, h]
theorem eq_of_bits {a b : Nat} (ha : a < 18446744073709551616) (hb : b < 18446744073709551616) (h : ∀ j, j < 64 → a.testBit j = b.testBit j) : a = b := by
  apply Nat.eq_of_testBit_eq
  intro i
  by_cases hi : i < 64
  · exact h i hi
  · have p : 2 ^ 64 ≤ 2 ^ i := Nat.pow_le_pow_right (by omega) (by omega)
    rw [Nat.testBit_lt_two_pow (by omega), Nat.testBit_lt_two_pow (by omega)]
theorem andN_lt' (xs ys : List Nat) (hx : ∀ k, wd xs k < 18446744073709551616) (k : Nat) : andN (wd xs k) (wd ys k) < 18446744073709551616 := andN_lt _ _ (hx k)

/-- bit n of a set -/
def bitB (xs : List Nat) (n : Nat) : Bool := (wd xs (n / 64)).testBit (n % 64)

/-- the list with zeros up to word m -/
def ext (L : List Nat) (m : Nat) : List Nat := L ++ List.replicate (m + 1 - L.length) 0
theorem ext_len (L : List Nat) (m : Nat) (h : L.length ≤ m + 1) : (ext L m).length = m + 1 := by simp [ext]; omega
theorem wd_ext (L : List Nat) (m k : Nat) : wd (ext L m) k = wd L k := by
  unfold wd ext
  by_cases hk : k < L.length
  · simp [List.getD, List.getElem?_append_left hk]
  · simp only [List.getD]
    rw [List.getElem?_append_right (by omega), List.getElem?_eq_none (by omega : L.length ≤ k)]
    by_cases h2 : k - L.length < m + 1 - L.length <;> simp [h2]
theorem wd_set (L : List Nat) (m k x : Nat) (hm : m < L.length) : wd (L.set m x) k = if k = m then x else wd L k := by
  unfold wd
  by_cases e : k = m
  · subst e; simp [List.getD, hm]
  · simp only [List.getD, if_neg e]; rw [List.getElem?_set_ne (by omega)]
/-- number i put into the list -/
def put (L : List Nat) (i : Nat) : List Nat := (ext L (i / 64)).set (i / 64) (wd L (i / 64) + 2 ^ (i % 64))
theorem put_len (L : List Nat) (i : Nat) (h : L.length ≤ i / 64 + 1) : (put L i).length = i / 64 + 1 := by
  unfold put; rw [List.length_set]; exact ext_len L _ h
theorem wd_put (L : List Nat) (i k : Nat) (h : L.length ≤ i / 64 + 1) : wd (put L i) k = if k = i / 64 then wd L (i / 64) + 2 ^ (i % 64) else wd L k := by
  unfold put
  rw [wd_set _ _ _ _ (by rw [ext_len L _ h]; omega), wd_ext]
/-- the numbers below i at which p holds, put one by one -/
def awl (p : Nat → Bool) : Nat → List Nat
  | 0 => []
  | i + 1 => if p i then put (awl p i) i else awl p i
theorem awl_yes (p : Nat → Bool) (i : Nat) (h : p i = true) : awl p (i + 1) = put (awl p i) i := by simp [awl, h]
theorem awl_no (p : Nat → Bool) (i : Nat) (h : p i = false) : awl p (i + 1) = awl p i := by simp [awl, h]
theorem awl_len (p : Nat → Bool) (i : Nat) : (awl p i).length ≤ (i + 63) / 64 := by
  induction i with
  | zero => simp [awl]
  | succ i ih =>
    by_cases h : p i = true
    · rw [awl_yes p i h, put_len _ _ (by omega)]; omega
    · rw [awl_no p i (by simpa using h)]; omega
theorem add_bit (x r j : Nat) (hx : x < 2 ^ r) : (x + 2 ^ r).testBit j = (decide (j = r) || x.testBit j) := by
  have e : x + 2 ^ r = 2 ^ r * 1 + x := by omega
  rw [e, Nat.testBit_two_pow_mul_add _ hx]
  by_cases h : j < r
  · simp [h]; omega
  · have hx2 : x.testBit j = false := Nat.testBit_lt_two_pow (Nat.lt_of_lt_of_le hx (Nat.pow_le_pow_right (by omega) (by omega)))
    rw [if_neg h, hx2]
    by_cases e : j = r
    · subst e; simp
    · have : 0 < j - r := by omega
      obtain ⟨d, hd⟩ : ∃ d, j - r = d + 1 := ⟨j - r - 1, by omega⟩
      rw [hd]
      simp [Nat.testBit_succ, e]
theorem awl_ok (p : Nat → Bool) (i : Nat) : (∀ k, wd (awl p i) k < 18446744073709551616) ∧ (∀ k j, j < 64 → (wd (awl p i) k).testBit j = (decide (64 * k + j < i) && p (64 * k + j))) ∧ NoTail (awl p i) := by
  induction i with
  | zero => exact ⟨fun k => by simp [awl, wd], fun k j hj => by simp [awl, wd], .inl rfl⟩
  | succ i ih =>
    obtain ⟨h1, h2, h3⟩ := ih
    by_cases h : p i = true
    · rw [awl_yes p i h]
      have hl : (awl p i).length ≤ i / 64 + 1 := by have := awl_len p i; omega
      have hx : wd (awl p i) (i / 64) < 2 ^ (i % 64) := by
        apply Nat.lt_pow_two_of_testBit
        intro j hj
        by_cases hj2 : j < 64
        · rw [h2 _ j hj2]
          have : ¬ 64 * (i / 64) + j < i := by omega
          simp [this]
        · have p2 : 2 ^ 64 ≤ 2 ^ j := Nat.pow_le_pow_right (by omega) (by omega)
          have := h1 (i / 64)
          exact Nat.testBit_lt_two_pow (by omega)
      have hr : 2 ^ (i % 64) ≤ 2 ^ 63 := Nat.pow_le_pow_right (by omega) (by omega)
      have hr2 : 0 < 2 ^ (i % 64) := Nat.pow_pos (by omega)
      refine ⟨fun k => ?_, fun k j hj => ?_, .inr ?_⟩
      · rw [wd_put _ _ _ hl]
        split
        · omega
        · exact h1 k
      · rw [wd_put _ _ _ hl]
        split
        · next e =>
          subst e
          rw [add_bit _ _ _ hx, h2 _ j hj]
          by_cases e : j = i % 64
          · have e2 : 64 * (i / 64) + j = i := by omega
            rw [e2, h]
            simp [e]
          · have hiff : (64 * (i / 64) + j < i + 1) ↔ (64 * (i / 64) + j < i) := by omega
            simp [e, hiff]
        · next e =>
          rw [h2 k j hj]
          have hiff : (64 * k + j < i + 1) ↔ (64 * k + j < i) := by omega
          simp [hiff]
      · rw [put_len _ _ hl, wd_put _ _ _ hl, if_pos (by omega)]
        omega
    · have h' : p i = false := by simpa using h
      rw [awl_no p i h']
      refine ⟨h1, fun k j hj => ?_, h3⟩
      rw [h2 k j hj]
      by_cases e : 64 * k + j = i
      · simp [e, h']
      · have hiff : (64 * k + j < i + 1) ↔ (64 * k + j < i) := by omega
        simp [hiff]
/-- what the reference's choice by bits makes is the merge by words -/
theorem awl_mrg {f : Nat → Nat → Nat} {F : Bool → Bool → Bool} (h0 : f 0 0 = 0) (hF : F false false = false) (hlt : ∀ x y, x < 18446744073709551616 → y < 18446744073709551616 → f x y < 18446744073709551616)
    (hf : ∀ x y j, x < 18446744073709551616 → y < 18446744073709551616 → j < 64 → (f x y).testBit j = F (x.testBit j) (y.testBit j)) (xs ys : List Nat)
    (hx : ∀ k, wd xs k < 18446744073709551616) (hy : ∀ k, wd ys k < 18446744073709551616) :
    mrg f xs ys = awl (fun n => F (bitB xs n) (bitB ys n)) (64 * max xs.length ys.length) := by
  obtain ⟨h1, h2, h3⟩ := awl_ok (fun n => F (bitB xs n) (bitB ys n)) (64 * max xs.length ys.length)
  refine mrg_uniq h0 h3 fun k => eq_of_bits (h1 k) (hlt _ _ (hx k) (hy k)) fun j hj => ?_
  rw [h2 k j hj, hf _ _ j (hx k) (hy k) hj]
  have e1 : (64 * k + j) / 64 = k := by omega
  have e2 : (64 * k + j) % 64 = j := by omega
  unfold bitB
  rw [e1, e2]
  by_cases hk : k < max xs.length ys.length
  · have : 64 * k + j < 64 * max xs.length ys.length := by omega
    simp [this]
  · rw [wd_out xs k (by omega), wd_out ys k (by omega)]
    simp [hF]

end Go.Proofs.YtfekcbkafiiieaaDoor
