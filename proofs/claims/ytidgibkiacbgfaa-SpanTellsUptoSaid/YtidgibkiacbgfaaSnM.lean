/-
  Work, span and width of terms: plain mathematics; no condition.
-/
import Derived.Test.YtidgibkiacbgfaaSpT
namespace Go.Proofs.Ytidgibkiacbgfaa

/-- what a composition makes of its kids' measures: added (true), or the larger one -/
def jn (b : Bool) (x y : Nat) : Nat := if b then x + y else max x y
theorem jn_le (b : Bool) (x y : Nat) : jn b x y ≤ x + y := by cases b <;> simp [jn] <;> omega

def Tm.ms (s p : Bool) : Tm → Nat
  | .nil => 0
  | .one _ => 1
  | .seq l r => jn s (l.ms s p) (r.ms s p)
  | .par l r => jn p (l.ms s p) (r.ms s p)
theorem Tm.ms_le (s p : Bool) (T : Tm) : T.ms s p ≤ T.sz := by
  induction T with
  | nil => exact Nat.le_refl _
  | one a => exact Nat.le_refl _
  | seq l r il ir => simp only [Tm.ms, Tm.sz]; have := jn_le s (l.ms s p) (r.ms s p); omega
  | par l r il ir => simp only [Tm.ms, Tm.sz]; have := jn_le p (l.ms s p) (r.ms s p); omega
theorem Tm.ms_work (T : Tm) : T.ms true true = T.sz := by
  induction T with
  | nil => rfl
  | one a => rfl
  | seq l r il ir => simp only [Tm.ms, Tm.sz, il, ir]; rfl
  | par l r il ir => simp only [Tm.ms, Tm.sz, il, ir]; rfl

/-- the span, and the width -/
abbrev Tm.sn (T : Tm) : Nat := T.ms true false
abbrev Tm.wd (T : Tm) : Nat := T.ms false true
theorem Tm.sn_seq (l r : Tm) : (Tm.seq l r).sn = l.sn + r.sn := rfl
theorem Tm.sn_par (l r : Tm) : (Tm.par l r).sn = max l.sn r.sn := rfl
theorem Tm.wd_seq (l r : Tm) : (Tm.seq l r).wd = max l.wd r.wd := rfl
theorem Tm.wd_par (l r : Tm) : (Tm.par l r).wd = l.wd + r.wd := rfl

theorem area_step {a b c d x y : Nat} (h1 : a ≤ b * c) (h2 : x ≤ d * y) : a + x ≤ (b + d) * max c y := by
  have e1 : b * c ≤ b * max c y := Nat.mul_le_mul_left _ (Nat.le_max_left _ _)
  have e2 : d * y ≤ d * max c y := Nat.mul_le_mul_left _ (Nat.le_max_right _ _)
  rw [Nat.add_mul]
  omega
theorem Tm.area (T : Tm) : T.sz ≤ T.sn * T.wd := by
  induction T with
  | nil => exact Nat.le_refl _
  | one a => exact Nat.le_refl _
  | seq l r il ir =>
    rw [Tm.sn_seq, Tm.wd_seq]
    simp only [Tm.sz]
    exact area_step il ir
  | par l r il ir =>
    rw [Tm.sn_par, Tm.wd_par, Nat.mul_comm]
    rw [Nat.mul_comm] at il ir
    simp only [Tm.sz]
    exact area_step il ir
theorem Tm.ms_zero (s p : Bool) (T : Tm) : T.sz = 0 ↔ T.ms s p = 0 := by
  have key : ∀ (b : Bool) (x y : Nat), jn b x y = 0 ↔ x = 0 ∧ y = 0 := fun b x y => by cases b <;> simp [jn] <;> omega
  induction T with
  | nil => exact Iff.rfl
  | one a => simp [Tm.sz, Tm.ms]
  | seq l r il ir => simp only [Tm.sz, Tm.ms, key, ← il, ← ir]; omega
  | par l r il ir => simp only [Tm.sz, Tm.ms, key, ← il, ← ir]; omega

/-- how long a longest chain is that ends at leaf k -/
def Tm.ce : Tm → Int → Nat
  | .nil, _ => 0
  | .one _, _ => 1
  | .seq l r, k => if k < l.sz then l.ce k else l.sn + r.ce (k - l.sz)
  | .par l r, k => if k < l.sz then l.ce k else r.ce (k - l.sz)

theorem Tm.ce_range (T : Tm) : ∀ k : Int, 0 ≤ k → k < T.sz → 1 ≤ T.ce k ∧ T.ce k ≤ T.sn := by
  induction T with
  | nil => intro k h0 h1; simp only [Tm.sz] at h1; omega
  | one a => intro k h0 h1; exact ⟨Nat.le_refl _, Nat.le_refl _⟩
  | seq l r il ir =>
    intro k h0 h1
    simp only [Tm.sz] at h1
    rw [Tm.sn_seq]
    simp only [Tm.ce]
    split
    · have := il k h0 (by assumption); omega
    · have := ir (k - l.sz) (by omega) (by omega); omega
  | par l r il ir =>
    intro k h0 h1
    simp only [Tm.sz] at h1
    rw [Tm.sn_par]
    simp only [Tm.ce]
    split
    · have := il k h0 (by assumption); omega
    · have := ir (k - l.sz) (by omega) (by omega); omega
theorem Tm.ce_top (T : Tm) : 0 < T.sz → ∃ k : Int, 0 ≤ k ∧ k < T.sz ∧ T.ce k = T.sn := by
  induction T with
  | nil => intro h; simp only [Tm.sz] at h; omega
  | one a => intro h; exact ⟨0, by omega, by simp [Tm.sz], rfl⟩
  | seq l r il ir =>
    intro h
    simp only [Tm.sz] at h
    rw [Tm.sn_seq]
    by_cases hr : 0 < r.sz
    · obtain ⟨k, h0, h1, h2⟩ := ir hr
      refine ⟨k + l.sz, by omega, by simp only [Tm.sz]; omega, ?_⟩
      simp only [Tm.ce]
      rw [if_neg (by omega), show k + (l.sz : Int) - l.sz = k by omega, h2]
    · obtain ⟨k, h0, h1, h2⟩ := il (by omega)
      have hz : r.sn = 0 := (r.ms_zero true false).1 (by omega)
      refine ⟨k, h0, by simp only [Tm.sz]; omega, ?_⟩
      simp only [Tm.ce]
      rw [if_pos h1, h2, hz]
      rfl
  | par l r il ir =>
    intro h
    simp only [Tm.sz] at h
    rw [Tm.sn_par]
    by_cases hc : l.sn ≤ r.sn
    · have hr : 0 < r.sz := by
        apply Nat.pos_of_ne_zero
        intro hz
        have h1 := (r.ms_zero true false).1 hz
        have h2 : l.sz = 0 := (l.ms_zero true false).2 (by show l.sn = 0; have : r.sn = 0 := h1; omega)
        omega
      obtain ⟨k, h0, h1, h2⟩ := ir hr
      refine ⟨k + l.sz, by omega, by simp only [Tm.sz]; omega, ?_⟩
      simp only [Tm.ce]
      rw [if_neg (by omega), show k + (l.sz : Int) - l.sz = k by omega, h2]
      omega
    · have hl : 0 < l.sz := by
        apply Nat.pos_of_ne_zero
        intro hz
        have h1 : l.sn = 0 := (l.ms_zero true false).1 hz
        omega
      obtain ⟨k, h0, h1, h2⟩ := il hl
      refine ⟨k, h0, by simp only [Tm.sz]; omega, ?_⟩
      simp only [Tm.ce]
      rw [if_pos h1, h2]
      omega

/-- a chain goes on -/
theorem Tm.ce_step (T : Tm) : ∀ i j : Int, T.bef i j = true → T.ce i + 1 ≤ T.ce j := by
  induction T with
  | nil => intro i j h; simp [Tm.bef] at h
  | one a => intro i j h; simp [Tm.bef] at h
  | seq l r il ir =>
    intro i j h
    have hb := Tm.bef_lt _ _ _ h
    simp only [Tm.sz] at hb
    simp only [Tm.ce]
    by_cases hi : i < l.sz
    · by_cases hj : j < l.sz
      · rw [if_pos hi, if_pos hj]
        rw [Tm.seq_left l r _ _ hi hj] at h
        exact il _ _ h
      · rw [if_pos hi, if_neg hj]
        have h1 := (l.ce_range i hb.1 hi).2
        have h2 := (r.ce_range (j - l.sz) (by omega) (by omega)).1
        omega
    · by_cases hj : j < l.sz
      · omega
      · rw [if_neg hi, if_neg hj]
        rw [Tm.seq_right l r _ _ (by omega) (by omega)] at h
        have := ir _ _ h
        omega
  | par l r il ir =>
    intro i j h
    have hb := Tm.bef_lt _ _ _ h
    simp only [Tm.sz] at hb
    simp only [Tm.ce]
    by_cases hi : i < l.sz
    · by_cases hj : j < l.sz
      · rw [if_pos hi, if_pos hj]
        rw [Tm.par_left l r _ _ hi hj] at h
        exact il _ _ h
      · rw [Tm.par_cross l r _ _ hi (by omega)] at h
        cases h
    · by_cases hj : j < l.sz
      · omega
      · rw [if_neg hi, if_neg hj]
        rw [Tm.par_right l r _ _ (by omega) (by omega)] at h
        exact ir _ _ h

/-- a chain that is longer than one leaf has a leaf before its last one -/
theorem Tm.ce_prev (T : Tm) : ∀ j : Int, 0 ≤ j → j < T.sz → T.ce j = 1 ∨ ∃ i, T.bef i j = true ∧ T.ce j = T.ce i + 1 := by
  induction T with
  | nil => intro j h0 h1; simp only [Tm.sz] at h1; omega
  | one a => intro j h0 h1; exact .inl rfl
  | seq l r il ir =>
    intro j h0 h1
    simp only [Tm.sz] at h1
    by_cases hj : j < l.sz
    · have e : (Tm.seq l r).ce j = l.ce j := by simp only [Tm.ce]; rw [if_pos hj]
      rw [e]
      rcases il j h0 hj with h | ⟨i, h2, h3⟩
      · exact .inl h
      · have hb := l.bef_lt _ _ h2
        refine .inr ⟨i, by rw [Tm.seq_left l r _ _ (by omega) hj]; exact h2, ?_⟩
        simp only [Tm.ce]
        rw [if_pos (by omega), h3]
    · have e : (Tm.seq l r).ce j = l.sn + r.ce (j - l.sz) := by simp only [Tm.ce]; rw [if_neg hj]
      rw [e]
      rcases ir (j - l.sz) (by omega) (by omega) with h | ⟨i, h2, h3⟩
      · by_cases hl : 0 < l.sz
        · obtain ⟨i, i0, i1, hi⟩ := l.ce_top hl
          refine .inr ⟨i, Tm.seq_cross l r i j i0 i1 (by omega) (by omega), ?_⟩
          simp only [Tm.ce]
          rw [if_pos i1, hi, h]
        · have hz : l.sn = 0 := (l.ms_zero true false).1 (by omega)
          left
          omega
      · have hb := r.bef_lt _ _ h2
        refine .inr ⟨i + l.sz, ?_, ?_⟩
        · rw [Tm.seq_right l r _ _ (by omega) (by omega), show i + (l.sz : Int) - l.sz = i by omega]; exact h2
        · simp only [Tm.ce]
          rw [if_neg (by omega), show i + (l.sz : Int) - l.sz = i by omega]
          omega
  | par l r il ir =>
    intro j h0 h1
    simp only [Tm.sz] at h1
    by_cases hj : j < l.sz
    · have e : (Tm.par l r).ce j = l.ce j := by simp only [Tm.ce]; rw [if_pos hj]
      rw [e]
      rcases il j h0 hj with h | ⟨i, h2, h3⟩
      · exact .inl h
      · have hb := l.bef_lt _ _ h2
        refine .inr ⟨i, by rw [Tm.par_left l r _ _ (by omega) hj]; exact h2, ?_⟩
        simp only [Tm.ce]
        rw [if_pos (by omega), h3]
    · have e : (Tm.par l r).ce j = r.ce (j - l.sz) := by simp only [Tm.ce]; rw [if_neg hj]
      rw [e]
      rcases ir (j - l.sz) (by omega) (by omega) with h | ⟨i, h2, h3⟩
      · exact .inl h
      · have hb := r.bef_lt _ _ h2
        refine .inr ⟨i + l.sz, ?_, ?_⟩
        · rw [Tm.par_right l r _ _ (by omega) (by omega), show i + (l.sz : Int) - l.sz = i by omega]; exact h2
        · simp only [Tm.ce]
          rw [if_neg (by omega), show i + (l.sz : Int) - l.sz = i by omega]
          omega

/-- the inner loop: how long a chain is that ends at j, the leaves below k looked at -/
def Tm.inn (T : Tm) (j : Nat) : Nat → Nat
  | 0 => 1
  | k + 1 => if T.bef (k : Int) (j : Int) then max (T.inn j k) (T.ce (k : Int) + 1) else T.inn j k
theorem Tm.inn_ge (T : Tm) (j : Nat) : ∀ k i : Nat, i < k → T.bef (i : Int) (j : Int) = true → T.ce (i : Int) + 1 ≤ T.inn j k := by
  intro k
  induction k with
  | zero => intro i h; omega
  | succ k ih =>
    intro i h hb
    simp only [Tm.inn]
    by_cases hik : i = k
    · subst hik; rw [if_pos hb]; omega
    · have := ih i (by omega) hb
      split <;> omega
theorem Tm.inn_le (T : Tm) (j : Nat) (hj : j < T.sz) : ∀ k : Nat, 1 ≤ T.inn j k ∧ T.inn j k ≤ T.ce (j : Int) := by
  have h1 := (T.ce_range (j : Int) (by omega) (by omega)).1
  intro k
  induction k with
  | zero => exact ⟨Nat.le_refl _, h1⟩
  | succ k ih =>
    simp only [Tm.inn]
    split
    · rename_i hb
      have := T.ce_step _ _ hb
      omega
    · exact ih
theorem Tm.inn_all (T : Tm) (j : Nat) (hj : j < T.sz) : T.inn j j = T.ce (j : Int) := by
  have h1 := T.inn_le j hj j
  rcases T.ce_prev (j : Int) (by omega) (by omega) with h | ⟨i, h2, h3⟩
  · omega
  · have hb := T.bef_lt _ _ h2
    obtain ⟨i, rfl⟩ : ∃ n : Nat, i = n := ⟨i.toNat, by omega⟩
    have := T.inn_ge j j i (by omega) h2
    omega
/-- the outer loop: the longest chain that ends below k -/
def Tm.bst (T : Tm) : Nat → Nat
  | 0 => 0
  | k + 1 => max (T.bst k) (T.ce (k : Int))
theorem Tm.bst_ge (T : Tm) : ∀ k i : Nat, i < k → T.ce (i : Int) ≤ T.bst k := by
  intro k
  induction k with
  | zero => intro i h; omega
  | succ k ih =>
    intro i h
    simp only [Tm.bst]
    by_cases hik : i = k
    · subst hik; omega
    · have := ih i (by omega); omega
theorem Tm.bst_le (T : Tm) : ∀ k : Nat, k ≤ T.sz → T.bst k ≤ T.sn := by
  intro k
  induction k with
  | zero => intro _; exact Nat.zero_le _
  | succ k ih =>
    intro h
    simp only [Tm.bst]
    have := ih (by omega)
    have := (T.ce_range (k : Int) (by omega) (by omega)).2
    omega
theorem Tm.bst_all (T : Tm) : T.bst T.sz = T.sn := by
  have h1 := T.bst_le T.sz (Nat.le_refl _)
  by_cases h0 : 0 < T.sz
  · obtain ⟨k, k0, k1, hk⟩ := T.ce_top h0
    obtain ⟨k, rfl⟩ : ∃ n : Nat, k = n := ⟨k.toNat, by omega⟩
    have := T.bst_ge T.sz k (by omega)
    omega
  · have hz : T.sn = 0 := (T.ms_zero true false).1 (by omega)
    omega
end Go.Proofs.Ytidgibkiacbgfaa
