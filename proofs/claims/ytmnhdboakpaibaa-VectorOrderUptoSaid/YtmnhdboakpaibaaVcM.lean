/-
  Vector clocks: the counters of a function, without the zeros at the end. Plain mathematics.
-/
import Derived.Test.YtmnhdboakpaibaaBsMem
namespace Go.Proofs.Ytmnhdboakpaibaa

/-- how many of the first n counters there are when the zeros at the end are left out -/
def tl (f : Nat → Nat) : Nat → Nat
  | 0 => 0
  | n + 1 => if f n = 0 then tl f n else n + 1
/-- the first n counters, without the zeros at the end -/
def vec (f : Nat → Nat) (n : Nat) : List Nat := (List.range (tl f n)).map f
theorem tl_le (f : Nat → Nat) : ∀ n, tl f n ≤ n
  | 0 => Nat.le_refl _
  | n + 1 => by
    unfold tl
    split
    · exact Nat.le_trans (tl_le f n) (Nat.le_succ _)
    · exact Nat.le_refl _
theorem tl_zero (f : Nat → Nat) {k : Nat} : ∀ n, tl f n ≤ k → k < n → f k = 0
  | 0, _, h => by omega
  | n + 1, h1, h2 => by
    unfold tl at h1
    split at h1
    · rename_i h0
      by_cases e : k = n
      · rw [e]; exact h0
      · exact tl_zero f n h1 (by omega)
    · omega
theorem tl_last (f : Nat → Nat) : ∀ n, 0 < tl f n → f (tl f n - 1) ≠ 0
  | 0, h => by simp [tl] at h
  | n + 1, h => by
    unfold tl at h ⊢
    split
    · rename_i h0
      rw [if_pos h0] at h
      exact tl_last f n h
    · rename_i h0
      simpa using h0
theorem tl_same {f : Nat → Nat} {n : Nat} (h : f n = 0) : tl f (n + 1) = tl f n := if_pos h
theorem tl_full {f : Nat → Nat} {n : Nat} (h : f n ≠ 0) : tl f (n + 1) = n + 1 := if_neg h
theorem vec_len (f : Nat → Nat) (n : Nat) : (vec f n).length = tl f n := by unfold vec; simp
theorem vec_at (f : Nat → Nat) (n k : Nat) : wd (vec f n) k = if k < n then f k else 0 := by
  unfold vec wd
  by_cases h : k < tl f n
  · have := tl_le f n
    rw [if_pos (by omega)]
    simp [List.getD, h]
  · have : (((List.range (tl f n)).map f).getD k 0) = 0 := by simp [List.getD, h]
    rw [this]
    by_cases hk : k < n
    · rw [if_pos hk, tl_zero f n (by omega) hk]
    · rw [if_neg hk]
theorem wd_extV {xs ys : List Nat} (hl : xs.length = ys.length) (h : ∀ k, wd xs k = wd ys k) : xs = ys := by
  refine List.ext_getElem hl fun k h1 h2 => ?_
  have := h k
  unfold wd at this
  simpa [List.getD, h1, h2] using this
theorem tl_uniq {f g : Nat → Nat} {n m : Nat} (h : ∀ k, wd (vec f n) k = wd (vec g m) k) : tl f n ≤ tl g m := by
  false_or_by_contra
  rename_i hc
  have h1 := tl_last f n (by omega)
  have h2 := h (tl f n - 1)
  have h3 := tl_le f n
  rw [vec_at, if_pos (by omega)] at h2
  rw [wd_out _ _ (by rw [vec_len]; omega)] at h2
  exact h1 h2
theorem vec_ext {f g : Nat → Nat} {n m : Nat} (h : ∀ k, wd (vec f n) k = wd (vec g m) k) : vec f n = vec g m :=
  wd_extV (by rw [vec_len, vec_len]; exact Nat.le_antisymm (tl_uniq h) (tl_uniq fun k => (h k).symm)) h
theorem vec_congr {f g : Nat → Nat} {n : Nat} (h : ∀ k, k < n → f k = g k) : vec f n = vec g n := vec_ext fun k => by
  rw [vec_at, vec_at]
  by_cases hk : k < n
  · rw [if_pos hk, if_pos hk, h k hk]
  · rw [if_neg hk, if_neg hk]
theorem vec_snoc_zero {f : Nat → Nat} {n : Nat} (h : f n = 0) : vec f (n + 1) = vec f n := by unfold vec; rw [tl_same h]
theorem vec_snoc {f : Nat → Nat} {n : Nat} (h : f n ≠ 0) : vec f (n + 1) = vec f n ++ List.replicate (n - tl f n) 0 ++ [f n] := by
  refine wd_extV ?_ fun k => ?_
  · have := tl_le f n
    rw [vec_len, tl_full h]
    simp [vec_len]
    omega
  · have h1 := tl_le f n
    rw [vec_at]
    unfold wd
    by_cases h2 : k < tl f n
    · rw [if_pos (by omega), List.append_assoc, List.getD_eq_getElem?_getD, List.getElem?_append_left (by rw [vec_len]; exact h2)]
      have h3 := vec_at f n k
      unfold wd at h3
      rw [if_pos (by omega), List.getD_eq_getElem?_getD] at h3
      exact h3.symm
    · by_cases h3 : k < n
      · rw [if_pos (by omega), tl_zero f n (by omega) h3, List.getD_eq_getElem?_getD, List.getElem?_append_left (by simp [vec_len]; omega), List.getElem?_append_right (by rw [vec_len]; omega)]
        simp [vec_len]
        rw [List.getElem?_replicate]
        split <;> rfl
      · by_cases h4 : k = n
        · subst h4
          rw [if_pos (by omega), List.getD_eq_getElem?_getD, List.getElem?_append_right (by simp [vec_len]; omega)]
          simp [vec_len, show k - (tl f k + (k - tl f k)) = 0 by omega]
        · rw [if_neg (by omega), List.getD_eq_getElem?_getD, List.getElem?_eq_none (by simp [vec_len]; omega)]
          rfl
theorem vec_lt {f : Nat → Nat} {b : Nat} (hb : 0 < b) (h : ∀ k, f k < b) (n k : Nat) : wd (vec f n) k < b := by
  rw [vec_at]
  split
  · exact h k
  · exact hb

/-! ### what the document asks -/
/-- one more -/
def incN (x : Nat) : Nat := (x + 1) % 18446744073709551616
theorem incN_lt (x : Nat) : incN x < 18446744073709551616 := Nat.mod_lt _ (by decide)
def tckF (xs : List Nat) (i : Int) : Nat → Nat := fun k => if (k : Int) = i ∧ i ≤ 65535 then incN (wd xs k) else wd xs k
def tckN (xs : List Nat) (i : Int) : Nat := if 0 ≤ i ∧ i ≤ 65535 then max xs.length (i.toNat + 1) else xs.length
def vTick (xs : List Nat) (i : Int) : List Nat := vec (tckF xs i) (tckN xs i)
def joiF (xs ys : List Nat) : Nat → Nat := fun k => max (wd xs k) (wd ys k)
def vJoin (xs ys : List Nat) : List Nat := vec (joiF xs ys) (max xs.length ys.length)
def vIn (xs ys : List Nat) : Bool := (List.range xs.length).all fun k => decide (wd xs k ≤ wd ys k)
def vAt (xs : List Nat) (i : Int) : Nat := if 0 ≤ i then wd xs i.toNat else 0
theorem tick_at (xs : List Nat) (i : Int) (k : Nat) : wd (vTick xs i) k = tckF xs i k := by
  unfold vTick
  rw [vec_at]
  by_cases hk : k < tckN xs i
  · rw [if_pos hk]
  · rw [if_neg hk]
    unfold tckN at hk
    unfold tckF
    by_cases hi : 0 ≤ i ∧ i ≤ 65535
    · rw [if_pos hi] at hk
      rw [if_neg (by omega), wd_out _ _ (by omega)]
    · rw [if_neg hi] at hk
      rw [if_neg (by omega), wd_out _ _ (by omega)]
theorem join_at (xs ys : List Nat) (k : Nat) : wd (vJoin xs ys) k = max (wd xs k) (wd ys k) := by
  unfold vJoin
  rw [vec_at]
  by_cases hk : k < max xs.length ys.length
  · rw [if_pos hk]; rfl
  · rw [if_neg hk, wd_out xs _ (by omega), wd_out ys _ (by omega)]
    rfl
theorem vIn_iff (xs ys : List Nat) : vIn xs ys = true ↔ ∀ k, wd xs k ≤ wd ys k := by
  unfold vIn
  rw [List.all_eq_true]
  constructor
  · intro h k
    by_cases hk : k < xs.length
    · exact of_decide_eq_true (h k (List.mem_range.2 hk))
    · rw [wd_out _ _ (by omega)]; exact Nat.zero_le _
  · exact fun h k _ => decide_eq_true (h k)

/-! ### the laws -/
theorem vJoin_comm (u v : List Nat) : vJoin u v = vJoin v u := vec_ext fun k => by
  rw [show wd (vec (joiF u v) (max u.length v.length)) k = wd (vJoin u v) k from rfl, show wd (vec (joiF v u) (max v.length u.length)) k = wd (vJoin v u) k from rfl, join_at, join_at, Nat.max_comm]
theorem vJoin_ext {u v u' v' : List Nat} (h : ∀ k, max (wd u k) (wd v k) = max (wd u' k) (wd v' k)) : vJoin u v = vJoin u' v' := vec_ext fun k => by
  have h1 := join_at u v k
  have h2 := join_at u' v' k
  unfold vJoin at h1 h2
  rw [h1, h2, h k]
theorem vJoin_assoc (u v w : List Nat) : vJoin u (vJoin v w) = vJoin (vJoin u v) w := vJoin_ext fun k => by rw [join_at, join_at]; omega
theorem vJoin_self (u : List Nat) : vJoin u u = vJoin u [] := vJoin_ext fun k => by rw [wd_out [] k (Nat.zero_le _)]; omega
theorem vIn_join (u v w : List Nat) : vIn (vJoin u v) w = (vIn u w && vIn v w) := by
  rw [Bool.eq_iff_iff, Bool.and_eq_true, vIn_iff, vIn_iff, vIn_iff]
  constructor
  · exact fun h => ⟨fun k => by have := h k; rw [join_at] at this; omega, fun k => by have := h k; rw [join_at] at this; omega⟩
  · rintro ⟨h1, h2⟩ k
    have := h1 k
    have := h2 k
    rw [join_at]
    omega
theorem vIn_self (u : List Nat) : vIn u u = true := (vIn_iff u u).2 fun _ => Nat.le_refl _
theorem vIn_trans {u v w : List Nat} (h1 : vIn u v = true) (h2 : vIn v w = true) : vIn u w = true := (vIn_iff u w).2 fun k => Nat.le_trans ((vIn_iff u v).1 h1 k) ((vIn_iff v w).1 h2 k)
theorem vIn_both (u v : List Nat) : (vIn u v && vIn v u) = decide (vJoin u [] = vJoin v []) := by
  rw [Bool.eq_iff_iff, Bool.and_eq_true, vIn_iff, vIn_iff, decide_eq_true_eq]
  constructor
  · rintro ⟨h1, h2⟩
    exact vJoin_ext fun k => by have := h1 k; have := h2 k; omega
  · intro h
    have key : ∀ k, wd u k = wd v k := fun k => by
      have h1 := join_at u [] k
      have h2 := join_at v [] k
      rw [h, h2, wd_out [] k (Nat.zero_le _)] at h1
      omega
    exact ⟨fun k => by rw [key k]; exact Nat.le_refl _, fun k => by rw [key k]; exact Nat.le_refl _⟩
section
variable {v : List Nat} {i j : Nat} (hi : i ≤ 65535) (hj : j ≤ 65535)
include hi
theorem tick_self (h : wd v i < 18446744073709551615) : wd (vTick v i) i = wd v i + 1 := by
  rw [tick_at]
  unfold tckF incN
  rw [if_pos ⟨rfl, by omega⟩, Nat.mod_eq_of_lt (by omega)]
omit hi in
theorem tick_other {k : Nat} (h : k ≠ i) : wd (vTick v i) k = wd v k := by
  rw [tick_at]
  unfold tckF
  rw [if_neg (by omega)]
theorem tick_over (h : wd v i < 18446744073709551615) : vIn v (vTick v i) = true := (vIn_iff _ _).2 fun k => by
  by_cases e : k = i
  · subst e; rw [tick_self hi h]; omega
  · rw [tick_other e]; exact Nat.le_refl _
theorem tick_not (h : wd v i < 18446744073709551615) : vIn (vTick v i) v = false := by
  rw [← Bool.not_eq_true, vIn_iff]
  intro hc
  have := hc i
  rw [tick_self hi h] at this
  omega
theorem tick_apart (h : wd v i < 18446744073709551615) (e : i ≠ j) : vIn (vTick v i) (vTick v j) = false := by
  rw [← Bool.not_eq_true, vIn_iff]
  intro hc
  have := hc i
  rw [tick_self hi h, tick_other e] at this
  omega
include hj
theorem tick_join (h : wd v i < 18446744073709551615) (h2 : wd v j < 18446744073709551615) (e : i ≠ j) : vJoin (vTick v i) (vTick v j) = vTick (vTick v i) j := vec_ext fun k => by
  have h1 := join_at (vTick v i) (vTick v j) k
  have h3 := tick_at (vTick v i) j k
  unfold vJoin at h1
  unfold vTick at h3
  rw [h1]
  unfold vTick
  rw [h3]
  show max (wd (vTick v i) k) (wd (vTick v j) k) = tckF (vTick v i) j k
  unfold tckF
  by_cases e1 : k = j
  · subst e1
    rw [if_pos ⟨rfl, by omega⟩, tick_other (Ne.symm e), tick_self hj h2]
    unfold incN
    rw [Nat.mod_eq_of_lt (by omega)]
    omega
  · rw [if_neg (by omega), tick_other e1]
    by_cases e2 : k = i
    · subst e2; rw [tick_self hi h]; omega
    · rw [tick_other e2]; omega
end
end Go.Proofs.Ytmnhdboakpaibaa
