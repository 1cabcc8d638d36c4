/-
  Terms as trees: leaves, who is ahead, the two numberings. Plain mathematics; no condition.
-/
import Derived.WalkKit
namespace Go.Proofs.Ytidgibkiacbgfaa

/-- cell, write, label -/
abbrev Acc := Int × Bool × Int

inductive Tm where
  | nil
  | one (a : Acc)
  | seq (l r : Tm)
  | par (l r : Tm)

def Tm.lv : Tm → List Acc
  | .nil => []
  | .one a => [a]
  | .seq l r => l.lv ++ r.lv
  | .par l r => l.lv ++ r.lv

def Tm.sz : Tm → Nat
  | .nil => 0
  | .one _ => 1
  | .seq l r => l.sz + r.sz
  | .par l r => l.sz + r.sz

theorem Tm.lv_len (T : Tm) : T.lv.length = T.sz := by
  induction T with
  | nil => rfl
  | one a => rfl
  | seq l r il ir => simp [Tm.lv, Tm.sz, il, ir]
  | par l r il ir => simp [Tm.lv, Tm.sz, il, ir]

/-- leaf i is ahead of leaf j -/
def Tm.bef : Tm → Int → Int → Bool
  | .nil, _, _ => false
  | .one _, _, _ => false
  | .seq l r, i, j => (decide (0 ≤ i) && decide (i < l.sz) && decide ((l.sz : Int) ≤ j) && decide (j < l.sz + r.sz)) || l.bef i j || r.bef (i - l.sz) (j - l.sz)
  | .par l r, i, j => l.bef i j || r.bef (i - l.sz) (j - l.sz)

theorem Tm.bef_lt (T : Tm) : ∀ i j, T.bef i j = true → 0 ≤ i ∧ i < j ∧ j < T.sz := by
  induction T with
  | nil => intro i j h; simp [Tm.bef] at h
  | one a => intro i j h; simp [Tm.bef] at h
  | seq l r il ir =>
    intro i j h
    simp only [Tm.bef, Bool.or_eq_true, Bool.and_eq_true, decide_eq_true_eq, Tm.sz] at h ⊢
    rcases h with (h | h) | h
    · omega
    · have := il _ _ h; omega
    · have := ir _ _ h; omega
  | par l r il ir =>
    intro i j h
    simp only [Tm.bef, Bool.or_eq_true, Tm.sz] at h ⊢
    rcases h with h | h
    · have := il _ _ h; omega
    · have := ir _ _ h; omega

theorem Tm.bef_out (T : Tm) (i j : Int) (h : i < 0 ∨ j < 0 ∨ (T.sz : Int) ≤ i ∨ (T.sz : Int) ≤ j ∨ j ≤ i) : T.bef i j = false := by
  cases hb : T.bef i j with
  | false => rfl
  | true => have := T.bef_lt _ _ hb; omega

theorem Tm.seq_cross (l r : Tm) (i j : Int) (h0 : 0 ≤ i) (h1 : i < l.sz) (h2 : (l.sz : Int) ≤ j) (h3 : j < l.sz + r.sz) : (Tm.seq l r).bef i j = true := by
  simp [Tm.bef, h0, h1, h2, h3]
theorem Tm.seq_left (l r : Tm) (i j : Int) (h : i < l.sz) (h1 : j < l.sz) : (Tm.seq l r).bef i j = l.bef i j := by
  have := r.bef_out (i - l.sz) (j - l.sz) (by omega)
  simp only [Tm.bef, this, Bool.or_false]
  rw [decide_eq_false (show ¬ ((l.sz : Int) ≤ j) by omega)]
  simp
theorem Tm.seq_right (l r : Tm) (i j : Int) (h : (l.sz : Int) ≤ i) (_h1 : (l.sz : Int) ≤ j) : (Tm.seq l r).bef i j = r.bef (i - l.sz) (j - l.sz) := by
  have := l.bef_out i j (by omega)
  simp only [Tm.bef, this, Bool.or_false]
  rw [decide_eq_false (show ¬ (i < l.sz) by omega)]
  simp
theorem Tm.par_left (l r : Tm) (i j : Int) (h : i < l.sz) (_h1 : j < l.sz) : (Tm.par l r).bef i j = l.bef i j := by
  have := r.bef_out (i - l.sz) (j - l.sz) (by omega)
  simp only [Tm.bef, this, Bool.or_false]
theorem Tm.par_right (l r : Tm) (i j : Int) (h : (l.sz : Int) ≤ i) (_h1 : (l.sz : Int) ≤ j) : (Tm.par l r).bef i j = r.bef (i - l.sz) (j - l.sz) := by
  have := l.bef_out i j (by omega)
  simp only [Tm.bef, this, Bool.false_or]
theorem Tm.par_cross (l r : Tm) (i j : Int) (h : i < l.sz) (h1 : (l.sz : Int) ≤ j) : (Tm.par l r).bef i j = false := by
  have h2 := l.bef_out i j (by omega)
  have h3 := r.bef_out (i - l.sz) (j - l.sz) (by omega)
  simp only [Tm.bef, h2, h3, Bool.false_or]
theorem Tm.seq_back (l r : Tm) (i j : Int) (h : (l.sz : Int) ≤ i) (h1 : j < l.sz) : (Tm.seq l r).bef i j = false :=
  (Tm.seq l r).bef_out i j (by omega)
theorem Tm.par_back (l r : Tm) (i j : Int) (h : (l.sz : Int) ≤ i) (h1 : j < l.sz) : (Tm.par l r).bef i j = false :=
  (Tm.par l r).bef_out i j (by omega)

theorem Tm.bef_trans (T : Tm) : ∀ i j k, T.bef i j = true → T.bef j k = true → T.bef i k = true := by
  induction T with
  | nil => intro i j k h; simp [Tm.bef] at h
  | one a => intro i j k h; simp [Tm.bef] at h
  | seq l r il ir =>
    intro i j k h1 h2
    have b1 := Tm.bef_lt _ _ _ h1
    have b2 := Tm.bef_lt _ _ _ h2
    simp only [Tm.sz] at b1 b2
    by_cases hi : i < l.sz
    · by_cases hk : k < l.sz
      · rw [Tm.seq_left l r _ _ (by omega) (by omega)] at h1 h2 ⊢
        exact il _ _ _ h1 h2
      · exact Tm.seq_cross l r i k (by omega) hi (by omega) (by omega)
    · rw [Tm.seq_right l r _ _ (by omega) (by omega)] at h1 h2 ⊢
      exact ir _ _ _ h1 h2
  | par l r il ir =>
    intro i j k h1 h2
    have b1 := Tm.bef_lt _ _ _ h1
    have b2 := Tm.bef_lt _ _ _ h2
    simp only [Tm.sz] at b1 b2
    by_cases hi : i < l.sz
    · by_cases hj : j < l.sz
      · by_cases hk : k < l.sz
        · rw [Tm.par_left l r _ _ (by omega) (by omega)] at h1 h2 ⊢
          exact il _ _ _ h1 h2
        · rw [Tm.par_cross l r j k (by omega) (by omega)] at h2; cases h2
      · rw [Tm.par_cross l r i j (by omega) (by omega)] at h1; cases h1
    · rw [Tm.par_right l r _ _ (by omega) (by omega)] at h1 h2 ⊢
      exact ir _ _ _ h1 h2

/-- two leaves are side by side -/
def Tm.apart (T : Tm) (x y : Int) : Prop := x ≠ y ∧ T.bef x y = false ∧ T.bef y x = false

theorem Tm.noN (T : Tm) : ∀ a b c d : Int, 0 ≤ b → b < T.sz → 0 ≤ c → c < T.sz → T.bef a c = true → T.bef a d = true → T.bef b d = true → T.apart a b → T.apart c d → T.apart b c → False := by
  induction T with
  | nil => intro a b c d _ _ _ _ h; simp [Tm.bef] at h
  | one a => intro a b c d _ _ _ _ h; simp [Tm.bef] at h
  | seq l r il ir =>
    intro a b c d hb0 hb1 hc0 hc1 h1 h2 h3 hab hcd hbc
    have b1 := Tm.bef_lt _ _ _ h1
    have b2 := Tm.bef_lt _ _ _ h2
    have b3 := Tm.bef_lt _ _ _ h3
    simp only [Tm.sz] at b1 b2 b3 hb1 hc1
    have same : ∀ x y : Int, 0 ≤ x → x < l.sz + r.sz → 0 ≤ y → y < l.sz + r.sz → (Tm.seq l r).apart x y → (x < l.sz ∧ y < l.sz) ∨ ((l.sz : Int) ≤ x ∧ (l.sz : Int) ≤ y) := fun x y x0 x1 y0 y1 h => by
      obtain ⟨_, p, q⟩ := h
      by_cases hx : x < l.sz
      · by_cases hy : y < l.sz
        · exact .inl ⟨hx, hy⟩
        · rw [Tm.seq_cross l r x y x0 hx (by omega) y1] at p; cases p
      · by_cases hy : y < l.sz
        · rw [Tm.seq_cross l r y x y0 hy (by omega) x1] at q; cases q
        · exact .inr ⟨by omega, by omega⟩
    have s1 := same a b (by omega) (by omega) hb0 (by omega) hab
    have s2 := same c d hc0 (by omega) (by omega) (by omega) hcd
    have s3 := same b c hb0 (by omega) hc0 (by omega) hbc
    by_cases ha : a < l.sz
    · have ab : (Tm.seq l r).apart a b → l.apart a b := fun ⟨x, y, z⟩ => ⟨x, by rwa [Tm.seq_left l r _ _ (by omega) (by omega)] at y, by rwa [Tm.seq_left l r _ _ (by omega) (by omega)] at z⟩
      have cd : (Tm.seq l r).apart c d → l.apart c d := fun ⟨x, y, z⟩ => ⟨x, by rwa [Tm.seq_left l r _ _ (by omega) (by omega)] at y, by rwa [Tm.seq_left l r _ _ (by omega) (by omega)] at z⟩
      have bc : (Tm.seq l r).apart b c → l.apart b c := fun ⟨x, y, z⟩ => ⟨x, by rwa [Tm.seq_left l r _ _ (by omega) (by omega)] at y, by rwa [Tm.seq_left l r _ _ (by omega) (by omega)] at z⟩
      rw [Tm.seq_left l r _ _ (by omega) (by omega)] at h1 h2 h3
      exact il a b c d (by omega) (by omega) (by omega) (by omega) h1 h2 h3 (ab hab) (cd hcd) (bc hbc)
    · have tr : ∀ x y : Int, (l.sz : Int) ≤ x → (l.sz : Int) ≤ y → (Tm.seq l r).apart x y → r.apart (x - l.sz) (y - l.sz) := fun x y hx hy ⟨p, q, s⟩ =>
        ⟨by omega, by rwa [Tm.seq_right l r _ _ hx hy] at q, by rwa [Tm.seq_right l r _ _ hy hx] at s⟩
      rw [Tm.seq_right l r _ _ (by omega) (by omega)] at h1 h2 h3
      exact ir _ _ _ _ (by omega) (by omega) (by omega) (by omega) h1 h2 h3 (tr _ _ (by omega) (by omega) hab) (tr _ _ (by omega) (by omega) hcd) (tr _ _ (by omega) (by omega) hbc)
  | par l r il ir =>
    intro a b c d hb0 hb1 hc0 hc1 h1 h2 h3 hab hcd hbc
    have b1 := Tm.bef_lt _ _ _ h1
    have b2 := Tm.bef_lt _ _ _ h2
    have b3 := Tm.bef_lt _ _ _ h3
    simp only [Tm.sz] at b1 b2 b3 hb1 hc1
    have same : ∀ x y : Int, x < y → (Tm.par l r).bef x y = true → (x < l.sz ∧ y < l.sz) ∨ ((l.sz : Int) ≤ x ∧ (l.sz : Int) ≤ y) := fun x y hlt h => by
      by_cases hx : x < l.sz
      · by_cases hy : y < l.sz
        · exact .inl ⟨hx, hy⟩
        · rw [Tm.par_cross l r x y hx (by omega)] at h; cases h
      · exact .inr ⟨by omega, by omega⟩
    have s1 := same a c (by omega) h1
    have s2 := same a d (by omega) h2
    have s3 := same b d (by omega) h3
    have tl : ∀ x y : Int, x < l.sz → y < l.sz → (Tm.par l r).apart x y → l.apart x y := fun x y hx hy ⟨p, q, s⟩ =>
      ⟨p, by rwa [Tm.par_left l r _ _ hx hy] at q, by rwa [Tm.par_left l r _ _ hy hx] at s⟩
    have tr : ∀ x y : Int, (l.sz : Int) ≤ x → (l.sz : Int) ≤ y → (Tm.par l r).apart x y → r.apart (x - l.sz) (y - l.sz) := fun x y hx hy ⟨p, q, s⟩ =>
      ⟨by omega, by rwa [Tm.par_right l r _ _ hx hy] at q, by rwa [Tm.par_right l r _ _ hy hx] at s⟩
    by_cases ha : a < l.sz
    · rw [Tm.par_left l r _ _ (by omega) (by omega)] at h1 h2 h3
      exact il a b c d (by omega) (by omega) (by omega) (by omega) h1 h2 h3 (tl _ _ (by omega) (by omega) hab) (tl _ _ (by omega) (by omega) hcd) (tl _ _ (by omega) (by omega) hbc)
    · rw [Tm.par_right l r _ _ (by omega) (by omega)] at h1 h2 h3
      exact ir _ _ _ _ (by omega) (by omega) (by omega) (by omega) h1 h2 h3 (tr _ _ (by omega) (by omega) hab) (tr _ _ (by omega) (by omega) hcd) (tr _ _ (by omega) (by omega) hbc)

/-- the place of leaf k where right kids come first side by side -/
def Tm.pos : Tm → Int → Int
  | .nil, _ => 0
  | .one _, _ => 0
  | .seq l r, k => if k < l.sz then l.pos k else l.sz + r.pos (k - l.sz)
  | .par l r, k => if k < l.sz then r.sz + l.pos k else r.pos (k - l.sz)

theorem Tm.pos_lt (T : Tm) : ∀ k : Int, 0 ≤ k → k < T.sz → 0 ≤ T.pos k ∧ T.pos k < T.sz := by
  induction T with
  | nil => intro k h0 h1; simp only [Tm.sz] at h1; omega
  | one a => intro k h0 h1; simp [Tm.pos, Tm.sz]
  | seq l r il ir =>
    intro k h0 h1
    simp only [Tm.sz] at h1
    simp only [Tm.pos, Tm.sz]
    split
    · have := il k h0 (by assumption); omega
    · have := ir (k - l.sz) (by omega) (by omega); omega
  | par l r il ir =>
    intro k h0 h1
    simp only [Tm.sz] at h1
    simp only [Tm.pos, Tm.sz]
    split
    · have := il k h0 (by assumption); omega
    · have := ir (k - l.sz) (by omega) (by omega); omega

theorem Tm.pos_inj (T : Tm) : ∀ i j : Int, 0 ≤ i → i < T.sz → 0 ≤ j → j < T.sz → T.pos i = T.pos j → i = j := by
  induction T with
  | nil => intro i j h0 h1; simp only [Tm.sz] at h1; omega
  | one a => intro i j h0 h1 h2 h3 _; simp only [Tm.sz] at h1 h3; omega
  | seq l r il ir =>
    intro i j h0 h1 h2 h3 h
    simp only [Tm.sz] at h1 h3
    simp only [Tm.pos] at h
    by_cases hi : i < l.sz
    · by_cases hj : j < l.sz
      · rw [if_pos hi, if_pos hj] at h; exact il _ _ h0 hi h2 hj h
      · rw [if_pos hi, if_neg hj] at h
        have := l.pos_lt i h0 hi; have := r.pos_lt (j - l.sz) (by omega) (by omega); omega
    · by_cases hj : j < l.sz
      · rw [if_neg hi, if_pos hj] at h
        have := l.pos_lt j h2 hj; have := r.pos_lt (i - l.sz) (by omega) (by omega); omega
      · rw [if_neg hi, if_neg hj] at h
        have := ir (i - l.sz) (j - l.sz) (by omega) (by omega) (by omega) (by omega) (by omega); omega
  | par l r il ir =>
    intro i j h0 h1 h2 h3 h
    simp only [Tm.sz] at h1 h3
    simp only [Tm.pos] at h
    by_cases hi : i < l.sz
    · by_cases hj : j < l.sz
      · rw [if_pos hi, if_pos hj] at h; exact il _ _ h0 hi h2 hj (by omega)
      · rw [if_pos hi, if_neg hj] at h
        have := l.pos_lt i h0 hi; have := r.pos_lt (j - l.sz) (by omega) (by omega); omega
    · by_cases hj : j < l.sz
      · rw [if_neg hi, if_pos hj] at h
        have := l.pos_lt j h2 hj; have := r.pos_lt (i - l.sz) (by omega) (by omega); omega
      · rw [if_neg hi, if_neg hj] at h
        have := ir (i - l.sz) (j - l.sz) (by omega) (by omega) (by omega) (by omega) h; omega

theorem Tm.seq_pos_l (l r : Tm) {k : Int} (h : k < l.sz) : (Tm.seq l r).pos k = l.pos k := by simp only [Tm.pos]; rw [if_pos h]
theorem Tm.seq_pos_r (l r : Tm) {k : Int} (h : ¬ k < l.sz) : (Tm.seq l r).pos k = l.sz + r.pos (k - l.sz) := by simp only [Tm.pos]; rw [if_neg h]
theorem Tm.par_pos_l (l r : Tm) {k : Int} (h : k < l.sz) : (Tm.par l r).pos k = r.sz + l.pos k := by simp only [Tm.pos]; rw [if_pos h]
theorem Tm.par_pos_r (l r : Tm) {k : Int} (h : ¬ k < l.sz) : (Tm.par l r).pos k = r.pos (k - l.sz) := by simp only [Tm.pos]; rw [if_neg h]

/-- two numberings tell it all -/
theorem Tm.bef_pos (T : Tm) : ∀ i j : Int, 0 ≤ i → i < T.sz → 0 ≤ j → j < T.sz → T.bef i j = (decide (i < j) && decide (T.pos i < T.pos j)) := by
  induction T with
  | nil => intro i j h0 h1; simp only [Tm.sz] at h1; omega
  | one a =>
    intro i j h0 h1 h2 h3; simp only [Tm.sz] at h1 h3
    rw [decide_eq_false (show ¬ i < j by omega)]; rfl
  | seq l r il ir =>
    intro i j h0 h1 h2 h3
    simp only [Tm.sz] at h1 h3
    by_cases hi : i < l.sz
    · by_cases hj : j < l.sz
      · rw [Tm.seq_pos_l l r hi, Tm.seq_pos_l l r hj, Tm.seq_left l r _ _ hi hj]; exact il _ _ h0 hi h2 hj
      · rw [Tm.seq_pos_l l r hi, Tm.seq_pos_r l r hj, Tm.seq_cross l r i j h0 hi (by omega) (by omega)]
        have := l.pos_lt i h0 hi; have := r.pos_lt (j - l.sz) (by omega) (by omega)
        rw [decide_eq_true (show i < j by omega), decide_eq_true (by omega)]; rfl
    · by_cases hj : j < l.sz
      · rw [Tm.seq_pos_r l r hi, Tm.seq_pos_l l r hj, Tm.seq_back l r i j (by omega) hj, decide_eq_false (show ¬ i < j by omega)]; rfl
      · rw [Tm.seq_pos_r l r hi, Tm.seq_pos_r l r hj, Tm.seq_right l r _ _ (by omega) (by omega), ir _ _ (by omega) (by omega) (by omega) (by omega)]
        congr 1
        · exact decide_eq_decide.2 (by omega)
        · exact decide_eq_decide.2 (by omega)
  | par l r il ir =>
    intro i j h0 h1 h2 h3
    simp only [Tm.sz] at h1 h3
    by_cases hi : i < l.sz
    · by_cases hj : j < l.sz
      · rw [Tm.par_pos_l l r hi, Tm.par_pos_l l r hj, Tm.par_left l r _ _ hi hj, il _ _ h0 hi h2 hj]
        congr 1
        exact decide_eq_decide.2 (by omega)
      · rw [Tm.par_pos_l l r hi, Tm.par_pos_r l r hj, Tm.par_cross l r i j hi (by omega)]
        have := l.pos_lt i h0 hi; have := r.pos_lt (j - l.sz) (by omega) (by omega)
        rw [decide_eq_false (show ¬ (r.sz + l.pos i < r.pos (j - l.sz)) by omega), Bool.and_false]
    · by_cases hj : j < l.sz
      · rw [Tm.par_pos_r l r hi, Tm.par_pos_l l r hj, Tm.par_back l r i j (by omega) hj, decide_eq_false (show ¬ i < j by omega)]; rfl
      · rw [Tm.par_pos_r l r hi, Tm.par_pos_r l r hj, Tm.par_right l r _ _ (by omega) (by omega), ir _ _ (by omega) (by omega) (by omega) (by omega)]
        congr 1
        exact decide_eq_decide.2 (by omega)

/-- the numbers of leaves, right kids first side by side -/
def Tm.turned : Tm → Int → List Int
  | .nil, _ => []
  | .one _, f => [f]
  | .seq l r, f => l.turned f ++ r.turned (f + l.sz)
  | .par l r, f => r.turned (f + l.sz) ++ l.turned f

theorem Tm.turned_len (T : Tm) : ∀ f, (T.turned f).length = T.sz := by
  induction T with
  | nil => intro f; rfl
  | one a => intro f; rfl
  | seq l r il ir => intro f; simp [Tm.turned, Tm.sz, il, ir]
  | par l r il ir => intro f; simp [Tm.turned, Tm.sz, il, ir, Nat.add_comm]

theorem Tm.turned_at (T : Tm) : ∀ f (n : Nat), n < T.sz → ∃ k : Int, 0 ≤ k ∧ k < T.sz ∧ (T.turned f)[n]? = some (f + k) ∧ T.pos k = n := by
  induction T with
  | nil => intro f n h; simp only [Tm.sz] at h; omega
  | one a => intro f n h; simp only [Tm.sz] at h; obtain rfl : n = 0 := by omega
             exact ⟨0, by omega, by simp [Tm.sz], by simp [Tm.turned], rfl⟩
  | seq l r il ir =>
    intro f n h
    simp only [Tm.sz] at h
    by_cases hn : n < l.sz
    · obtain ⟨k, k0, k1, h1, h2⟩ := il f n hn
      refine ⟨k, k0, by simp only [Tm.sz]; omega, ?_, by simp only [Tm.pos, if_pos k1, h2]⟩
      rw [Tm.turned, List.getElem?_append_left (by rw [Tm.turned_len]; exact hn), h1]
    · obtain ⟨k, k0, k1, h1, h2⟩ := ir (f + l.sz) (n - l.sz) (by omega)
      refine ⟨k + l.sz, by omega, by simp only [Tm.sz]; omega, ?_, ?_⟩
      · rw [Tm.turned, List.getElem?_append_right (by rw [Tm.turned_len]; omega), Tm.turned_len, h1]; congr 1; omega
      · simp only [Tm.pos]; rw [if_neg (by omega), show k + (l.sz : Int) - l.sz = k by omega, h2]; omega
  | par l r il ir =>
    intro f n h
    simp only [Tm.sz] at h
    by_cases hn : n < r.sz
    · obtain ⟨k, k0, k1, h1, h2⟩ := ir (f + l.sz) n hn
      refine ⟨k + l.sz, by omega, by simp only [Tm.sz]; omega, ?_, ?_⟩
      · rw [Tm.turned, List.getElem?_append_left (by rw [Tm.turned_len]; exact hn), h1]; congr 1; omega
      · simp only [Tm.pos]; rw [if_neg (by omega), show k + (l.sz : Int) - l.sz = k by omega, h2]
    · obtain ⟨k, k0, k1, h1, h2⟩ := il f (n - r.sz) (by omega)
      refine ⟨k, k0, by simp only [Tm.sz]; omega, ?_, ?_⟩
      · rw [Tm.turned, List.getElem?_append_right (by rw [Tm.turned_len]; omega), Tm.turned_len, h1]
      · simp only [Tm.pos, if_pos k1, h2]; omega

/-- what a reader that looks for i on the left and j on the right has seen -/
def Tm.ask : Tm → Int → Int → Int → Bool
  | .nil, _, _, _ => false
  | .one _, _, _, _ => false
  | .seq l r, f, i, j => l.ask f i j || r.ask (f + l.sz) i j || (decide (f ≤ i) && decide (i < f + l.sz) && decide (f + l.sz ≤ j) && decide (j < f + l.sz + r.sz))
  | .par l r, f, i, j => l.ask f i j || r.ask (f + l.sz) i j

theorem Tm.ask_bef (T : Tm) : ∀ f i j, T.ask f i j = T.bef (i - f) (j - f) := by
  induction T with
  | nil => intro f i j; rfl
  | one a => intro f i j; rfl
  | seq l r il ir =>
    intro f i j
    simp only [Tm.ask, Tm.bef, il, ir]
    rw [show i - (f + l.sz) = i - f - l.sz by omega, show j - (f + l.sz) = j - f - l.sz by omega]
    rw [show decide (f ≤ i) = decide (0 ≤ i - f) from decide_eq_decide.2 (by omega), show decide (i < f + l.sz) = decide (i - f < l.sz) from decide_eq_decide.2 (by omega),
      show decide (f + (l.sz : Int) ≤ j) = decide ((l.sz : Int) ≤ j - f) from decide_eq_decide.2 (by omega), show decide (j < f + (l.sz : Int) + r.sz) = decide (j - f < (l.sz : Int) + r.sz) from decide_eq_decide.2 (by omega)]
    generalize l.bef (i - f) (j - f) = x
    generalize r.bef (i - f - l.sz) (j - f - l.sz) = y
    generalize (decide (0 ≤ i - f) && decide (i - f < l.sz) && decide ((l.sz : Int) ≤ j - f) && decide (j - f < (l.sz : Int) + r.sz)) = z
    cases x <;> cases y <;> cases z <;> rfl
  | par l r il ir =>
    intro f i j
    simp only [Tm.ask, Tm.bef, il, ir]
    rw [show i - (f + l.sz) = i - f - l.sz by omega, show j - (f + l.sz) = j - f - l.sz by omega]
end Go.Proofs.Ytidgibkiacbgfaa
