/-
  Work, span and width of terms: plain mathematics; no condition.
  The height and the width of a term's graph are the term's span and width. Plain mathematics.
  Contracts of span.sum, span.larger, span.measure, Work, Span and Width.
  Contracts of span.Work, Span and Width.
-/
import Derived.Test.YtipihchlhkjdjaaDoorPk20
import Derived.Test.YtipihchlhkjdjaaDoorPk19
import Derived.Test.YtipihchlhkjdjaaDoorPk17
import Derived.Test.YtipihchlhkjdjaaDoorPk27
import Derived.Test.YtipihchlhkjdjaaDoorPk21
import Derived.Deep.RegionHeld3
import Derived.Lib.Hide
import Derived.Lib.MinMax
namespace Go.Proofs.YtipihchlhkjdjaaDoor

/-- what a composition makes of its kids' measures: added (true), or the larger one -/
def jn (b : Bool) (x y : Nat) : Nat := if b then x + y else max x y
theorem jn_le (b : Bool) (x y : Nat) : jn b x y ≤ x + y := by cases b <;> simp [jn] <;> omega

def Tm.ms (s p : Bool) : Tm → Nat
  | .nil => 0
  | .one _ => 1
  | .seq l r => jn s (l.ms s p) (r.ms s p)
  | .par l r => jn p (l.ms s p) (r.ms s p)
theorem Tm.ms_le (s p : Bool) (T : Tm) : T.ms s p ≤ T.sz := by
  induction T with
  | nil => exact Nat.le_refl _
  | one a => exact Nat.le_refl _
  | seq l r il ir => simp only [Tm.ms, Tm.sz]; have := jn_le s (l.ms s p) (r.ms s p); omega
  | par l r il ir => simp only [Tm.ms, Tm.sz]; have := jn_le p (l.ms s p) (r.ms s p); omega
theorem Tm.ms_work (T : Tm) : T.ms true true = T.sz := by
  induction T with
  | nil => rfl
  | one a => rfl
  | seq l r il ir => simp only [Tm.ms, Tm.sz, il, ir]; rfl
  | par l r il ir => simp only [Tm.ms, Tm.sz, il, ir]; rfl

/-- the span, and the width -/
abbrev Tm.sn (T : Tm) : Nat := T.ms true false
abbrev Tm.wd (T : Tm) : Nat := T.ms false true
theorem Tm.sn_seq (l r : Tm) : (Tm.seq l r).sn = l.sn + r.sn := rfl
theorem Tm.sn_par (l r : Tm) : (Tm.par l r).sn = max l.sn r.sn := rfl
theorem Tm.wd_seq (l r : Tm) : (Tm.seq l r).wd = max l.wd r.wd := rfl
theorem Tm.wd_par (l r : Tm) : (Tm.par l r).wd = l.wd + r.wd := rfl

theorem area_step {a b c d x y : Nat} (h1 : a ≤ b * c) (h2 : x ≤ d * y) : a + x ≤ (b + d) * max c y := by
  have e1 : b * c ≤ b * max c y := Nat.mul_le_mul_left _ (Nat.le_max_left _ _)
  have e2 : d * y ≤ d * max c y := Nat.mul_le_mul_left _ (Nat.le_max_right _ _)
  rw [Nat.add_mul]
  omega
theorem Tm.area (T : Tm) : T.sz ≤ T.sn * T.wd := by
  induction T with
  | nil => exact Nat.le_refl _
  | one a => exact Nat.le_refl _
  | seq l r il ir =>
    rw [Tm.sn_seq, Tm.wd_seq]
    simp only [Tm.sz]
    exact area_step il ir
  | par l r il ir =>
    rw [Tm.sn_par, Tm.wd_par, Nat.mul_comm]
    rw [Nat.mul_comm] at il ir
    simp only [Tm.sz]
    exact area_step il ir
theorem Tm.ms_zero (s p : Bool) (T : Tm) : T.sz = 0 ↔ T.ms s p = 0 := by
  have key : ∀ (b : Bool) (x y : Nat), jn b x y = 0 ↔ x = 0 ∧ y = 0 := fun b x y => by cases b <;> simp [jn] <;> omega
  induction T with
  | nil => exact Iff.rfl
  | one a => simp [Tm.sz, Tm.ms]
  | seq l r il ir => simp only [Tm.sz, Tm.ms, key, ← il, ← ir]; omega
  | par l r il ir => simp only [Tm.sz, Tm.ms, key, ← il, ← ir]; omega

/-- how long a longest chain is that ends at leaf k -/
def Tm.ce : Tm → Int → Nat
  | .nil, _ => 0
  | .one _, _ => 1
  | .seq l r, k => if k < l.sz then l.ce k else l.sn + r.ce (k - l.sz)
  | .par l r, k => if k < l.sz then l.ce k else r.ce (k - l.sz)

theorem Tm.ce_range (T : Tm) : ∀ k : Int, 0 ≤ k → k < T.sz → 1 ≤ T.ce k ∧ T.ce k ≤ T.sn := by
  induction T with
  | nil => intro k h0 h1; simp only [Tm.sz] at h1; omega
  | one a => intro k h0 h1; exact ⟨Nat.le_refl _, Nat.le_refl _⟩
  | seq l r il ir =>
    intro k h0 h1
    simp only [Tm.sz] at h1
    rw [Tm.sn_seq]
    simp only [Tm.ce]
    split
    · have := il k h0 (by assumption); omega
    · have := ir (k - l.sz) (by omega) (by omega); omega
  | par l r il ir =>
    intro k h0 h1
    simp only [Tm.sz] at h1
    rw [Tm.sn_par]
    simp only [Tm.ce]
    split
    · have := il k h0 (by assumption); omega
    · have := ir (k - l.sz) (by omega) (by omega); omega
theorem Tm.ce_top (T : Tm) : 0 < T.sz → ∃ k : Int, 0 ≤ k ∧ k < T.sz ∧ T.ce k = T.sn := by
  induction T with
  | nil => intro h; simp only [Tm.sz] at h; omega
  | one a => intro h; exact ⟨0, by omega, by simp [Tm.sz], rfl⟩
  | seq l r il ir =>
    intro h
    simp only [Tm.sz] at h
    rw [Tm.sn_seq]
    by_cases hr : 0 < r.sz
    · obtain ⟨k, h0, h1, h2⟩ := ir hr
      refine ⟨k + l.sz, by omega, by simp only [Tm.sz]; omega, ?_⟩
      simp only [Tm.ce]
      rw [if_neg (by omega), show k + (l.sz : Int) - l.sz = k by omega, h2]
    · obtain ⟨k, h0, h1, h2⟩ := il (by omega)
      have hz : r.sn = 0 := (r.ms_zero true false).1 (by omega)
      refine ⟨k, h0, by simp only [Tm.sz]; omega, ?_⟩
      simp only [Tm.ce]
      rw [if_pos h1, h2, hz]
      rfl
  | par l r il ir =>
    intro h
    simp only [Tm.sz] at h
    rw [Tm.sn_par]
    by_cases hc : l.sn ≤ r.sn
    · have hr : 0 < r.sz := by
        apply Nat.pos_of_ne_zero
        intro hz
        have h1 := (r.ms_zero true false).1 hz
        have h2 : l.sz = 0 := (l.ms_zero true false).2 (by show l.sn = 0; have : r.sn = 0 := h1; omega)
        omega
      obtain ⟨k, h0, h1, h2⟩ := ir hr
      refine ⟨k + l.sz, by omega, by simp only [Tm.sz]; omega, ?_⟩
      simp only [Tm.ce]
      rw [if_neg (by omega), show k + (l.sz : Int) - l.sz = k by omega, h2]
      omega
    · have hl : 0 < l.sz := by
        apply Nat.pos_of_ne_zero
        intro hz
        have h1 : l.sn = 0 := (l.ms_zero true false).1 hz
        omega
      obtain ⟨k, h0, h1, h2⟩ := il hl
      refine ⟨k, h0, by simp only [Tm.sz]; omega, ?_⟩
      simp only [Tm.ce]
      rw [if_pos h1, h2]
      omega

/-- a chain goes on -/
theorem Tm.ce_step (T : Tm) : ∀ i j : Int, T.bef i j = true → T.ce i + 1 ≤ T.ce j := by
  induction T with
  | nil => intro i j h; simp [Tm.bef] at h
  | one a => intro i j h; simp [Tm.bef] at h
  | seq l r il ir =>
    intro i j h
    have hb := Tm.bef_lt _ _ _ h
    simp only [Tm.sz] at hb
    simp only [Tm.ce]
    by_cases hi : i < l.sz
    · by_cases hj : j < l.sz
      · rw [if_pos hi, if_pos hj]
        rw [Tm.seq_left l r _ _ hi hj] at h
        exact il _ _ h
      · rw [if_pos hi, if_neg hj]
        have h1 := (l.ce_range i hb.1 hi).2
        have h2 := (r.ce_range (j - l.sz) (by omega) (by omega)).1
        omega
    · by_cases hj : j < l.sz
      · omega
      · rw [if_neg hi, if_neg hj]
        rw [Tm.seq_right l r _ _ (by omega) (by omega)] at h
        have := ir _ _ h
        omega
  | par l r il ir =>
    intro i j h
    have hb := Tm.bef_lt _ _ _ h
    simp only [Tm.sz] at hb
    simp only [Tm.ce]
    by_cases hi : i < l.sz
    · by_cases hj : j < l.sz
      · rw [if_pos hi, if_pos hj]
        rw [Tm.par_left l r _ _ hi hj] at h
        exact il _ _ h
      · rw [Tm.par_cross l r _ _ hi (by omega)] at h
        cases h
    · by_cases hj : j < l.sz
      · omega
      · rw [if_neg hi, if_neg hj]
        rw [Tm.par_right l r _ _ (by omega) (by omega)] at h
        exact ir _ _ h

/-- a chain that is longer than one leaf has a leaf before its last one -/
theorem Tm.ce_prev (T : Tm) : ∀ j : Int, 0 ≤ j → j < T.sz → T.ce j = 1 ∨ ∃ i, T.bef i j = true ∧ T.ce j = T.ce i + 1 := by
  induction T with
  | nil => intro j h0 h1; simp only [Tm.sz] at h1; omega
  | one a => intro j h0 h1; exact .inl rfl
  | seq l r il ir =>
    intro j h0 h1
    simp only [Tm.sz] at h1
    by_cases hj : j < l.sz
    · have e : (Tm.seq l r).ce j = l.ce j := by simp only [Tm.ce]; rw [if_pos hj]
      rw [e]
      rcases il j h0 hj with h | ⟨i, h2, h3⟩
      · exact .inl h
      · have hb := l.bef_lt _ _ h2
        refine .inr ⟨i, by rw [Tm.seq_left l r _ _ (by omega) hj]; exact h2, ?_⟩
        simp only [Tm.ce]
        rw [if_pos (by omega), h3]
    · have e : (Tm.seq l r).ce j = l.sn + r.ce (j - l.sz) := by simp only [Tm.ce]; rw [if_neg hj]
      rw [e]
      rcases ir (j - l.sz) (by omega) (by omega) with h | ⟨i, h2, h3⟩
      · by_cases hl : 0 < l.sz
        · obtain ⟨i, i0, i1, hi⟩ := l.ce_top hl
          refine .inr ⟨i, Tm.seq_cross l r i j i0 i1 (by omega) (by omega), ?_⟩
          simp only [Tm.ce]
          rw [if_pos i1, hi, h]
        · have hz : l.sn = 0 := (l.ms_zero true false).1 (by omega)
          left
          omega
      · have hb := r.bef_lt _ _ h2
        refine .inr ⟨i + l.sz, ?_, ?_⟩
        · rw [Tm.seq_right l r _ _ (by omega) (by omega), show i + (l.sz : Int) - l.sz = i by omega]; exact h2
        · simp only [Tm.ce]
          rw [if_neg (by omega), show i + (l.sz : Int) - l.sz = i by omega]
          omega
  | par l r il ir =>
    intro j h0 h1
    simp only [Tm.sz] at h1
    by_cases hj : j < l.sz
    · have e : (Tm.par l r).ce j = l.ce j := by simp only [Tm.ce]; rw [if_pos hj]
      rw [e]
      rcases il j h0 hj with h | ⟨i, h2, h3⟩
      · exact .inl h
      · have hb := l.bef_lt _ _ h2
        refine .inr ⟨i, by rw [Tm.par_left l r _ _ (by omega) hj]; exact h2, ?_⟩
        simp only [Tm.ce]
        rw [if_pos (by omega), h3]
    · have e : (Tm.par l r).ce j = r.ce (j - l.sz) := by simp only [Tm.ce]; rw [if_neg hj]
      rw [e]
      rcases ir (j - l.sz) (by omega) (by omega) with h | ⟨i, h2, h3⟩
      · exact .inl h
      · have hb := r.bef_lt _ _ h2
        refine .inr ⟨i + l.sz, ?_, ?_⟩
        · rw [Tm.par_right l r _ _ (by omega) (by omega), show i + (l.sz : Int) - l.sz = i by omega]; exact h2
        · simp only [Tm.ce]
          rw [if_neg (by omega), show i + (l.sz : Int) - l.sz = i by omega]
          omega

/-- the inner loop: how long a chain is that ends at j, the leaves below k looked at -/
def Tm.inn (T : Tm) (j : Nat) : Nat → Nat
  | 0 => 1
  | k + 1 => if T.bef (k : Int) (j : Int) then max (T.inn j k) (T.ce (k : Int) + 1) else T.inn j k
theorem Tm.inn_ge (T : Tm) (j : Nat) : ∀ k i : Nat, i < k → T.bef (i : Int) (j : Int) = true → T.ce (i : Int) + 1 ≤ T.inn j k := by
  intro k
  induction k with
  | zero => intro i h; omega
  | succ k ih =>
    intro i h hb
    simp only [Tm.inn]
    by_cases hik : i = k
    · subst hik; rw [if_pos hb]; omega
    · have := ih i (by omega) hb
      split <;> omega
theorem Tm.inn_le (T : Tm) (j : Nat) (hj : j < T.sz) : ∀ k : Nat, 1 ≤ T.inn j k ∧ T.inn j k ≤ T.ce (j : Int) := by
  have h1 := (T.ce_range (j : Int) (by omega) (by omega)).1
  intro k
  induction k with
  | zero => exact ⟨Nat.le_refl _, h1⟩
  | succ k ih =>
    simp only [Tm.inn]
    split
    · rename_i hb
      have := T.ce_step _ _ hb
      omega
    · exact ih
theorem Tm.inn_all (T : Tm) (j : Nat) (hj : j < T.sz) : T.inn j j = T.ce (j : Int) := by
  have h1 := T.inn_le j hj j
  rcases T.ce_prev (j : Int) (by omega) (by omega) with h | ⟨i, h2, h3⟩
  · omega
  · have hb := T.bef_lt _ _ h2
    obtain ⟨i, rfl⟩ : ∃ n : Nat, i = n := ⟨i.toNat, by omega⟩
    have := T.inn_ge j j i (by omega) h2
    omega
/-- the outer loop: the longest chain that ends below k -/
def Tm.bst (T : Tm) : Nat → Nat
  | 0 => 0
  | k + 1 => max (T.bst k) (T.ce (k : Int))
theorem Tm.bst_ge (T : Tm) : ∀ k i : Nat, i < k → T.ce (i : Int) ≤ T.bst k := by
  intro k
  induction k with
  | zero => intro i h; omega
  | succ k ih =>
    intro i h
    simp only [Tm.bst]
    by_cases hik : i = k
    · subst hik; omega
    · have := ih i (by omega); omega
theorem Tm.bst_le (T : Tm) : ∀ k : Nat, k ≤ T.sz → T.bst k ≤ T.sn := by
  intro k
  induction k with
  | zero => intro _; exact Nat.zero_le _
  | succ k ih =>
    intro h
    simp only [Tm.bst]
    have := ih (by omega)
    have := (T.ce_range (k : Int) (by omega) (by omega)).2
    omega
theorem Tm.bst_all (T : Tm) : T.bst T.sz = T.sn := by
  have h1 := T.bst_le T.sz (Nat.le_refl _)
  by_cases h0 : 0 < T.sz
  · obtain ⟨k, k0, k1, hk⟩ := T.ce_top h0
    obtain ⟨k, rfl⟩ : ∃ n : Nat, k = n := ⟨k.toNat, by omega⟩
    have := T.bst_ge T.sz k (by omega)
    omega
  · have hz : T.sn = 0 := (T.ms_zero true false).1 (by omega)
    omega
end Go.Proofs.YtipihchlhkjdjaaDoor

namespace Go.Proofs.YtipihchlhkjdjaaDoor
set_option maxRecDepth 100000

/-! ### the width -/
theorem cntB_split (a b : Nat) (p : Nat → Bool) : cntB (a + b) p = cntB a p + cntB b fun n => p (a + n) := sumN_split a b _
theorem cntB_zero {N : Nat} {p : Nat → Bool} (h : ∀ n, n < N → p n = false) : cntB N p = 0 := sumN_zero fun n hn => by rw [h n hn]; rfl
theorem cntB_same {N : Nat} {p q : Nat → Bool} (h : ∀ n, n < N → p n = q n) : cntB N p = cntB N q := sumN_congr fun n hn => by rw [h n hn]
theorem cntB_ex {N : Nat} {p : Nat → Bool} (h : cntB N p ≠ 0) : ∃ n, n < N ∧ p n = true := by
  obtain ⟨n, hn, hp⟩ := sumN_ne h
  refine ⟨n, hn, ?_⟩
  cases hb : p n with
  | true => rfl
  | false => rw [hb] at hp; exact absurd rfl hp

theorem bN_seq_l (l r : Tm) {i j : Nat} (hi : i < l.sz) (hj : j < l.sz) : (Tm.seq l r).bN i j = l.bN i j := Tm.seq_left l r _ _ (by omega) (by omega)
theorem bN_par_l (l r : Tm) {i j : Nat} (hi : i < l.sz) (hj : j < l.sz) : (Tm.par l r).bN i j = l.bN i j := Tm.par_left l r _ _ (by omega) (by omega)
theorem bN_seq_x (l r : Tm) {i j : Nat} (hi : i < l.sz) (hj : j < r.sz) : (Tm.seq l r).bN i (l.sz + j) = true := Tm.seq_cross l r _ _ (by omega) (by omega) (by omega) (by omega)
theorem bN_par_x (l r : Tm) {i j : Nat} (hi : i < l.sz) : (Tm.par l r).bN i (l.sz + j) = false := Tm.par_cross l r _ _ (by omega) (by omega)

/-- no more are side by side than the term is wide -/
theorem Tm.anti_le (T : Tm) : ∀ p : Nat → Bool, (∀ a b, a < T.sz → b < T.sz → p a = true → p b = true → T.bN a b = false) → cntB T.sz p ≤ T.wd := by
  induction T with
  | nil => intro p _; exact Nat.le_refl _
  | one a => intro p _; show 0 + (p 0).toNat ≤ 1; cases p 0 <;> simp
  | seq l r il ir =>
    intro p h
    simp only [Tm.sz] at h ⊢
    rw [cntB_split, Tm.wd_seq]
    have h1 := il p fun a b ha hb pa pb => by rw [← bN_seq_l l r ha hb]; exact h a b (by omega) (by omega) pa pb
    have h2 := ir (fun n => p (l.sz + n)) fun a b ha hb pa pb => by rw [← Tm.seq_rightN l r]; exact h _ _ (by omega) (by omega) pa pb
    by_cases z1 : cntB l.sz p = 0
    · omega
    · by_cases z2 : cntB r.sz (fun n => p (l.sz + n)) = 0
      · omega
      · obtain ⟨i, hi, pi⟩ := cntB_ex z1
        obtain ⟨j, hj, pj⟩ := cntB_ex z2
        have := h i (l.sz + j) (by omega) (by omega) pi pj
        rw [bN_seq_x l r hi hj] at this
        cases this
  | par l r il ir =>
    intro p h
    simp only [Tm.sz] at h ⊢
    rw [cntB_split, Tm.wd_par]
    have h1 := il p fun a b ha hb pa pb => by rw [← bN_par_l l r ha hb]; exact h a b (by omega) (by omega) pa pb
    have h2 := ir (fun n => p (l.sz + n)) fun a b ha hb pa pb => by rw [← Tm.par_rightN l r]; exact h _ _ (by omega) (by omega) pa pb
    omega

/-- leaves side by side, as many as the term is wide -/
def Tm.acB : Tm → Nat → Bool
  | .nil, _ => false
  | .one _, k => decide (k = 0)
  | .seq l r, k => if r.wd ≤ l.wd then decide (k < l.sz) && l.acB k else decide (l.sz ≤ k) && r.acB (k - l.sz)
  | .par l r, k => if k < l.sz then l.acB k else r.acB (k - l.sz)
theorem Tm.acB_cnt (T : Tm) : cntB T.sz T.acB = T.wd := by
  induction T with
  | nil => rfl
  | one a => rfl
  | seq l r il ir =>
    simp only [Tm.sz]
    rw [cntB_split, Tm.wd_seq]
    by_cases h : r.wd ≤ l.wd
    · have e1 : cntB l.sz (Tm.seq l r).acB = cntB l.sz l.acB := cntB_same fun n hn => by simp only [Tm.acB]; rw [if_pos h, decide_eq_true hn, Bool.true_and]
      have e2 : cntB r.sz (fun n => (Tm.seq l r).acB (l.sz + n)) = 0 := cntB_zero fun n hn => by simp only [Tm.acB]; rw [if_pos h, decide_eq_false (by omega), Bool.false_and]
      omega
    · have e1 : cntB l.sz (Tm.seq l r).acB = 0 := cntB_zero fun n hn => by simp only [Tm.acB]; rw [if_neg h, decide_eq_false (by omega), Bool.false_and]
      have e2 : cntB r.sz (fun n => (Tm.seq l r).acB (l.sz + n)) = cntB r.sz r.acB := cntB_same fun n hn => by simp only [Tm.acB]; rw [if_neg h, decide_eq_true (by omega), Bool.true_and, Nat.add_sub_cancel_left]
      omega
  | par l r il ir =>
    simp only [Tm.sz]
    rw [cntB_split, Tm.wd_par]
    have e1 : cntB l.sz (Tm.par l r).acB = cntB l.sz l.acB := cntB_same fun n hn => by simp only [Tm.acB]; rw [if_pos hn]
    have e2 : cntB r.sz (fun n => (Tm.par l r).acB (l.sz + n)) = cntB r.sz r.acB := cntB_same fun n hn => by simp only [Tm.acB]; rw [if_neg (by omega), Nat.add_sub_cancel_left]
    omega
theorem Tm.acB_anti (T : Tm) : ∀ a b, a < T.sz → b < T.sz → T.acB a = true → T.acB b = true → T.bN a b = false := by
  induction T with
  | nil => intro a b ha; simp only [Tm.sz] at ha; omega
  | one x => intro a b ha hb _ _; rfl
  | seq l r il ir =>
    intro a b ha hb pa pb
    simp only [Tm.sz] at ha hb
    simp only [Tm.acB] at pa pb
    by_cases h : r.wd ≤ l.wd
    · rw [if_pos h, Bool.and_eq_true, decide_eq_true_eq] at pa pb
      rw [bN_seq_l l r pa.1 pb.1]
      exact il a b pa.1 pb.1 pa.2 pb.2
    · rw [if_neg h, Bool.and_eq_true, decide_eq_true_eq] at pa pb
      have := Tm.seq_rightN l r (a - l.sz) (b - l.sz)
      rw [show l.sz + (a - l.sz) = a by omega, show l.sz + (b - l.sz) = b by omega] at this
      rw [this]
      exact ir _ _ (by omega) (by omega) pa.2 pb.2
  | par l r il ir =>
    intro a b ha hb pa pb
    simp only [Tm.sz] at ha hb
    simp only [Tm.acB] at pa pb
    by_cases h1 : a < l.sz
    · by_cases h2 : b < l.sz
      · rw [if_pos h1] at pa
        rw [if_pos h2] at pb
        rw [bN_par_l l r h1 h2]
        exact il a b h1 h2 pa pb
      · have := bN_par_x l r (j := b - l.sz) h1
        rwa [show l.sz + (b - l.sz) = b by omega] at this
    · by_cases h2 : b < l.sz
      · exact Tm.bN_high _ a b (by omega)
      · rw [if_neg h1] at pa
        rw [if_neg h2] at pb
        have := Tm.par_rightN l r (a - l.sz) (b - l.sz)
        rw [show l.sz + (a - l.sz) = a by omega, show l.sz + (b - l.sz) = b by omega] at this
        rw [this]
        exact ir _ _ (by omega) (by omega) pa pb

/-- the leaves that a joining that cannot be bettered leaves over are as many as the term is wide -/
theorem Tm.kon_wd (T : Tm) {B H : Nat → Option Nat} {t : Nat → Bool} (hK : Kon T.bN T.sz B H t) (hS : So T.bN T.sz) : ((List.range T.sz).filter (lastU H t)).length = T.wd := by
  rw [cntB_filter]
  have h1 := T.anti_le (lastU H t) fun a b ha _ pa pb => hK.apart ha pa pb
  have h2 := apart_le hK.mt hS (fun a => decide (a < T.sz) && T.acB a) fun a b ha hb => by
    simp only [Bool.and_eq_true, decide_eq_true_eq] at ha hb
    exact T.acB_anti a b ha.1 hb.1 ha.2 hb.2
  rw [← hK.count hS, cntB_same (q := T.acB) fun n hn => by rw [decide_eq_true hn, Bool.true_and], T.acB_cnt] at h2
  omega

/-! ### the height -/
theorem wk_ce (T : Tm) {n b : Nat} (h : Wk (gR T.eds) n b) (hb : b < T.sz) : n + 1 ≤ T.ce (b : Int) := by
  induction h with
  | zero b => exact (T.ce_range (b : Int) (by omega) (by omega)).1
  | step hr _ ih =>
    rename_i n a b
    rw [eds_gR] at hr
    have h1 := T.bef_lt _ _ hr
    have h2 := T.ce_step _ _ hr
    have := ih (by omega)
    omega
theorem ce_wk (T : Tm) : ∀ n b : Nat, b < T.sz → T.ce (b : Int) = n + 1 → Wk (gR T.eds) n b := by
  intro n
  induction n with
  | zero => intro b _ _; exact .zero b
  | succ n ih =>
    intro b hb hc
    rcases T.ce_prev (b : Int) (by omega) (by omega) with h | ⟨i, h2, h3⟩
    · omega
    · have h4 := T.bef_lt _ _ h2
      obtain ⟨i, rfl⟩ : ∃ k : Nat, i = k := ⟨i.toNat, by omega⟩
      exact .step (by rw [eds_gR]; exact h2) (ih i (by omega) (by omega))
theorem lev_ce (T : Tm) {f : Nat → Nat} (hL : Lev (gR T.eds) f) {b : Nat} (hb : b < T.sz) : f b + 1 = T.ce (b : Int) := by
  have h1 := wk_ce T (hL.way b) hb
  have h0 := (T.ce_range (b : Int) (by omega) (by omega)).1
  have h2 := hL.top _ _ (ce_wk T (T.ce (b : Int) - 1) b hb (by omega))
  omega
theorem hgt_bst (T : Tm) {f : Nat → Nat} (hL : Lev (gR T.eds) f) : ∀ k, k ≤ T.sz → hgt f k = T.bst k := by
  intro k
  induction k with
  | zero => intro _; rfl
  | succ k ih =>
    intro hk
    simp only [hgt, Tm.bst]
    rw [ih (by omega), lev_ce T hL (by omega)]
theorem hgtG_eds (T : Tm) (hs : T.sz ≤ 200) : hgtG (T.sz : Int) T.eds = ((T.sn : Nat) : Int) := by
  rw [hgtG_ok (T.errn_eds hs), hgt_bst T (lvs_lev (T.inR_eds hs) (T.full_eds hs)) T.sz (Nat.le_refl _), T.bst_all]
end Go.Proofs.YtipihchlhkjdjaaDoor

namespace Go.Proofs.YtipihchlhkjdjaaDoor
open Go.RowKit
set_option maxRecDepth 100000

theorem sum_any (x y : Nat) (w : World) (h : x + y ≤ 1048576) :
    Calls Tryd.prog 42 #[.int .i64 x, .int .i64 y] w fun e w' => e = .returned (.int .i64 (jn true x y : Nat)) ∧ w' = w := by
  have e : IntKind.i64.wrap ((x : Int) + (y : Int)) = ((jn true x y : Nat) : Int) := by
    rw [IntKind.wrap_i64]; simp only [jn]; simp; omega
  go_enter Tryd.func42, Tryd.ntmps42
  go_wp2_with fail
  go_ret
  exact ⟨rfl, rfl⟩

theorem larger_any (x y : Nat) (w : World) (_h : x + y ≤ 1048576) :
    Calls Tryd.prog 43 #[.int .i64 x, .int .i64 y] w fun e w' => e = .returned (.int .i64 (jn false x y : Nat)) ∧ w' = w := by
  have e : max (x : Int) (y : Int) = ((jn false x y : Nat) : Int) := by simp [jn]; omega
  go_enter Tryd.func43, Tryd.ntmps43
  go_wp2_with fail
  go_ret
  refine ⟨?_, rfl⟩
  rw [← e]
  rfl

/-- sum (true) or larger (false), as a value -/
def fv (b : Bool) : Value := .func (.func (if b then 42 else 43)) #[] #[]
theorem join_any (b : Bool) (x y : Nat) (w : World) (h : x + y ≤ 1048576) :
    Calls Tryd.prog (if b then 42 else 43) #[.int .i64 x, .int .i64 y] w fun e w' => e = .returned (.int .i64 (jn b x y : Nat)) ∧ w' = w := by
  cases b
  · exact larger_any x y w h
  · exact sum_any x y w h

/-- what measure answers -/
def MeasS (s p : Bool) (T : Tm) : Prop := ∀ (w : World) (b o : Nat) (h : Hd), HdAt w b o h → b < w.heap.size → TIn w w.heap.size T h → T.sz ≤ 1048576 →
  Calls Tryd.prog 41 #[.pointer (some ⟨b, o, none⟩), fv s, fv p] w fun e w' => e = .returned (.int .i64 (T.ms s p : Nat)) ∧ Below w.heap.size w w'

theorem meas_nil (s p : Bool) : MeasS s p .nil := by
  intro w b o h hh hb hT hs
  obtain ⟨k, c, x, l, A, m, cap⟩ := h
  obtain ⟨h1, h2⟩ := hT
  dsimp only at h1 h2
  obtain ⟨l0, l1, l2, l3, l4⟩ := hh
  dsimp only at l0 l1 l2 l3 l4
  have HB := Below.refl w.heap.size w
  simp only [Tm.ms]
  cases s <;> cases p
  all_goals
  dsimp only [fv]
  simp only [Bool.false_eq_true, if_true, if_false]
  go_enter Tryd.func41, Tryd.ntmps41
  rcases h2 with ⟨h2, h3⟩ | h2
  · go_wp2_with fail
    go_ret
    exact ⟨rfl, HB⟩
  · by_cases k2 : k = 2
    · go_wp2_with fail
      go_ret
      exact ⟨rfl, HB⟩
    · by_cases k3 : k = 3
      · go_wp2_with fail
        go_ret
        exact ⟨rfl, HB⟩
      · go_wp2_with fail
        go_ret
        exact ⟨rfl, HB⟩

theorem meas_one (s p : Bool) (a : Acc) : MeasS s p (.one a) := by
  intro w b o h hh hb hT hs
  obtain ⟨k, c, x, l, A, m, cap⟩ := h
  obtain ⟨h1, h2⟩ := hT
  dsimp only at h1 h2
  subst h1
  obtain ⟨l0, l1, l2, l3, l4⟩ := hh
  dsimp only at l0 l1 l2 l3 l4
  have HB := Below.refl w.heap.size w
  simp only [Tm.ms]
  cases s <;> cases p
  all_goals
  dsimp only [fv]
  simp only [Bool.false_eq_true, if_true, if_false]
  go_enter Tryd.func41, Tryd.ntmps41
  go_wp2_with fail
  go_ret
  exact ⟨rfl, HB⟩

set_option maxHeartbeats 2000000 in
theorem meas_two (s p sq : Bool) (T L R : Tm) (hT2 : (sq = true ∧ T = .seq L R) ∨ (sq = false ∧ T = .par L R)) (hl : MeasS s p L) (hr : MeasS s p R) : MeasS s p T := by
  intro w b o h hh hb hT hs
  have hsz : T.sz = L.sz + R.sz := by rcases hT2 with ⟨_, rfl⟩ | ⟨_, rfl⟩ <;> rfl
  have hms : T.ms s p = jn (if sq then s else p) (L.ms s p) (R.ms s p) := by rcases hT2 with ⟨rfl, rfl⟩ | ⟨rfl, rfl⟩ <;> rfl
  have hTT : h.k = (if sq then 2 else 3) ∧ 2 ≤ h.n ∧ ∃ b o hl hr, h.A = some ⟨b, o, none⟩ ∧ b < w.heap.size ∧ HdAt w b o hl ∧ HdAt w b (o + 5) hr ∧ TIn w w.heap.size L hl ∧ TIn w w.heap.size R hr := by
    rcases hT2 with ⟨rfl, rfl⟩ | ⟨rfl, rfl⟩ <;> exact hT
  obtain ⟨k, c, x, l, A, m, cap⟩ := h
  obtain ⟨h1, h2, kb, ko, hL, hD, h3, h4, h5, h6, h7, h8⟩ := hTT
  dsimp only at h1 h2 h3
  subst h3
  obtain ⟨l0, _, _, _, l4⟩ := hh
  dsimp only at l0 l4
  obtain ⟨D, hD0⟩ : ∃ D, D = w.heap.size := ⟨_, rfl⟩
  have cl : ∀ W, Below D w W → Calls Tryd.prog 41 #[.pointer (some ⟨kb, ko, none⟩), fv s, fv p] W fun e w' => e = .returned (.int .i64 (L.ms s p : Nat)) ∧ Below D w w' ∧ w'.cell? ⟨b, o + 4, none⟩ = some (.slice (some ⟨kb, ko, none⟩) m cap) := fun W hW => by
    subst hD0
    have hDW := hW.size
    refine (hl W kb ko hL (h5.below hW h4) (by omega) ((h7.below hW (Nat.le_refl _)).more hDW) (by omega)).mono fun e w' ⟨e1, e2⟩ => ⟨e1, hW.trans (e2.mono hDW), ?_⟩
    exact ((hW.trans (e2.mono hDW)).cell (p := ⟨b, o + 4, none⟩) hb).trans l4
  have cr : ∀ W, Below D w W → Calls Tryd.prog 41 #[.pointer (some ⟨kb, ko + 5, none⟩), fv s, fv p] W fun e w' => e = .returned (.int .i64 (R.ms s p : Nat)) ∧ Below D w w' ∧ w'.cell? ⟨b, o + 4, none⟩ = some (.slice (some ⟨kb, ko, none⟩) m cap) := fun W hW => by
    subst hD0
    have hDW := hW.size
    refine (hr W kb (ko + 5) hD (h6.below hW h4) (by omega) ((h8.below hW (Nat.le_refl _)).more hDW) (by omega)).mono fun e w' ⟨e1, e2⟩ => ⟨e1, hW.trans (e2.mono hDW), ?_⟩
    exact ((hW.trans (e2.mono hDW)).cell (p := ⟨b, o + 4, none⟩) hb).trans l4
  have hj : ∀ W, Below D w W → W.cell? ⟨b, o + 4, none⟩ = some (.slice (some ⟨kb, ko, none⟩) m cap) → Calls Tryd.prog (if (if sq then s else p) then 42 else 43) #[.int .i64 (L.ms s p : Nat), .int .i64 (R.ms s p : Nat)] W fun e w' => e = .returned (.int .i64 (T.ms s p : Nat)) ∧ Below D w w' ∧ w'.cell? ⟨b, o + 4, none⟩ = some (.slice (some ⟨kb, ko, none⟩) m cap) := fun W hW hc => by
    rw [hms]
    exact (join_any _ _ _ W (by have := L.ms_le s p; have := R.ms_le s p; omega)).mono fun e w' ⟨e1, e2⟩ => ⟨e1, by rw [e2]; exact hW, by rw [e2]; exact hc⟩
  have HL := Lib.hid cl
  have HR := Lib.hid cr
  have HJ := Lib.hid hj
  have HB := Below.refl D w
  obtain ⟨xl, hxl⟩ : ∃ xl, xl = L.ms s p := ⟨_, rfl⟩
  obtain ⟨xr, hxr⟩ : ∃ xr, xr = R.ms s p := ⟨_, rfl⟩
  obtain ⟨xt, hxt⟩ : ∃ xt, xt = T.ms s p := ⟨_, rfl⟩
  rw [← hxl, ← hxr, ← hxt] at HJ
  rw [← hxl] at HL
  rw [← hxr] at HR
  rw [← hxt, ← hD0]
  have n0 : (0 : Int) < (m : Int) := by omega
  have m0 : 0 < m := by omega
  have m1 : 1 < m := by omega
  have n1 : (1 : Int) < (m : Int) := by omega
  have n2 : ¬ ((m : Int) < 2) := by omega
  clear cl cr hj hl hr hsz hms hT hT2 hs hD0 h4 h5 h6 h7 h8 hxl hxr hxt hb
  cases s <;> cases p <;> cases sq
  all_goals
    dsimp only [fv, if_true, if_false] at HL HR HJ h1 ⊢
    simp only [Bool.false_eq_true, if_true, if_false] at HL HR HJ h1 ⊢
    subst h1
    go_enter Tryd.func41, Tryd.ntmps41
    go_wp2_with fail
    go_region_held3 (fun w' => Below D w w' ∧ w'.cell? ⟨b, o + 4, none⟩ = some (.slice (some ⟨kb, ko, none⟩) m cap))
      (first | (go_split_ands; exact ⟨‹_›, ‹_›⟩) | (go_split_ands; refine ⟨?_, ‹_›⟩; refine Below.drew ?_; assumption))
      (first
        | (go_at_call_of 41 (Value.pointer (some ⟨kb, ko, none⟩)); go_split_ands; refine (HL.out _ (by assumption)).mono ?_; rintro e w5 ⟨rfl, hB5, hc5⟩)
        | (go_at_call 41; (try go_split_ands); refine (HR.out _ (by assumption)).mono ?_; rintro e w6 ⟨rfl, hB6, hc6⟩)
        | ((try go_split_ands); refine (HJ.out _ (by assumption) (by assumption)).mono ?_; rintro e w7 ⟨rfl, hB7, hc7⟩)
        | fail)
  all_goals
    go_wp2_with fail
    go_ret
    exact ⟨rfl, ‹_›⟩

theorem meas_any (s p : Bool) (T : Tm) : MeasS s p T := by
  induction T with
  | nil => exact meas_nil s p
  | one a => exact meas_one s p a
  | seq l r il ir => exact meas_two s p true _ l r (.inl ⟨rfl, rfl⟩) il ir
  | par l r il ir => exact meas_two s p false _ l r (.inr ⟨rfl, rfl⟩) il ir
end Go.Proofs.YtipihchlhkjdjaaDoor

namespace Go.Proofs.YtipihchlhkjdjaaDoor
open Go.RowKit
set_option maxRecDepth 100000

theorem work_any (T : Tm) (h : Hd) (w : World) (hT : TIn w w.heap.size T h) (hs : T.sz ≤ 1048576) :
    Calls Tryd.prog 22 #[.agg h.cells] w fun e w' => e = .returned (.int .i64 (T.sz : Nat)) ∧ Below w.heap.size w w' := by
  have key : ∃ w1, w1 = w.alloc (.cells h.cells 51) ∧ Below w.heap.size w w1 ∧ TB 51 w1 w.heap.size h := ⟨_, rfl, (Below.refl _ _).alloc (Nat.le_refl _) _, TB.new _ _ _⟩
  obtain ⟨w1, hw1, hb1, ht1⟩ := key
  have hT1 := (hT.below hb1 (Nat.le_refl _)).more hb1.size
  have hc := meas_any true true T w1 w.heap.size 0 h ht1.at ht1.lt hT1 hs
  rw [T.ms_work] at hc
  have hsz := hb1.size
  obtain ⟨k, c, x, l, A, m, cap⟩ := h
  dsimp only [Hd.cells, fv, if_true] at hw1 hc ⊢
  simp only [if_true] at hc
  have HC := Lib.hid hc
  clear hT hT1 ht1 hc hs
  go_enter Tryd.func22, Tryd.ntmps22
  go_wp2_with (first
    | (rw [← hw1]; refine HC.out.mono ?_; rintro e w2 ⟨rfl, hb2⟩)
    | fail)
  go_ret
  exact ⟨rfl, hb1.trans (hb2.mono hsz)⟩

theorem span_any (T : Tm) (h : Hd) (w : World) (hT : TIn w w.heap.size T h) (hs : T.sz ≤ 1048576) :
    Calls Tryd.prog 23 #[.agg h.cells] w fun e w' => e = .returned (.int .i64 (T.sn : Nat)) ∧ Below w.heap.size w w' := by
  have key : ∃ w1, w1 = w.alloc (.cells h.cells 51) ∧ Below w.heap.size w w1 ∧ TB 51 w1 w.heap.size h := ⟨_, rfl, (Below.refl _ _).alloc (Nat.le_refl _) _, TB.new _ _ _⟩
  obtain ⟨w1, hw1, hb1, ht1⟩ := key
  have hT1 := (hT.below hb1 (Nat.le_refl _)).more hb1.size
  have hc := meas_any true false T w1 w.heap.size 0 h ht1.at ht1.lt hT1 hs
  have hsz := hb1.size
  obtain ⟨k, c, x, l, A, m, cap⟩ := h
  dsimp only [Hd.cells, fv, if_true] at hw1 hc ⊢
  simp only [if_true, Bool.false_eq_true, if_false] at hc
  have HC := Lib.hid hc
  clear hT hT1 ht1 hc hs
  go_enter Tryd.func23, Tryd.ntmps23
  go_wp2_with (first
    | (rw [← hw1]; refine HC.out.mono ?_; rintro e w2 ⟨rfl, hb2⟩)
    | fail)
  go_ret
  exact ⟨rfl, hb1.trans (hb2.mono hsz)⟩

end Go.Proofs.YtipihchlhkjdjaaDoor
