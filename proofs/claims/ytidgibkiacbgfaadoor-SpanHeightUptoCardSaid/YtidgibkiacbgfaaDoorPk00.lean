/-
  Terms as trees: leaves, who is ahead, the two numberings. Plain mathematics; no condition.
  Terms in memory: a header of five cells, its kids behind it.
  Contract of the reference's Both: the two of a term.
  Contract of sp.read for any reader: what a reader is told of a term.
-/
import Derived.WalkKit
import Derived.Deep.QuietTactic
import Derived.RangeFuncRecord
import Derived.Test.YtidgibkiacbgfaaDoorChecked
import Derived.Outline
import Derived.Deep.RegionHeld3
import Derived.Lib.Hide
namespace Go.Proofs.YtidgibkiacbgfaaDoor

/-- cell, write, label -/
abbrev Acc := Int × Bool × Int

inductive Tm where
  | nil
  | one (a : Acc)
  | seq (l r : Tm)
  | par (l r : Tm)

def Tm.lv : Tm → List Acc
  | .nil => []
  | .one a => [a]
  | .seq l r => l.lv ++ r.lv
  | .par l r => l.lv ++ r.lv

def Tm.sz : Tm → Nat
  | .nil => 0
  | .one _ => 1
  | .seq l r => l.sz + r.sz
  | .par l r => l.sz + r.sz

theorem Tm.lv_len (T : Tm) : T.lv.length = T.sz := by
  induction T with
  | nil => rfl
  | one a => rfl
  | seq l r il ir => simp [Tm.lv, Tm.sz, il, ir]
  | par l r il ir => simp [Tm.lv, Tm.sz, il, ir]

/-- leaf i is ahead of leaf j -/
def Tm.bef : Tm → Int → Int → Bool
  | .nil, _, _ => false
  | .one _, _, _ => false
  | .seq l r, i, j => (decide (0 ≤ i) && decide (i < l.sz) && decide ((l.sz : Int) ≤ j) && decide (j < l.sz + r.sz)) || l.bef i j || r.bef (i - l.sz) (j - l.sz)
  | .par l r, i, j => l.bef i j || r.bef (i - l.sz) (j - l.sz)

theorem Tm.bef_lt (T : Tm) : ∀ i j, T.bef i j = true → 0 ≤ i ∧ i < j ∧ j < T.sz := by
  induction T with
  | nil => intro i j h; simp [Tm.bef] at h
  | one a => intro i j h; simp [Tm.bef] at h
  | seq l r il ir =>
    intro i j h
    simp only [Tm.bef, Bool.or_eq_true, Bool.and_eq_true, decide_eq_true_eq, Tm.sz] at h ⊢
    rcases h with (h | h) | h
    · omega
    · have := il _ _ h; omega
    · have := ir _ _ h; omega
  | par l r il ir =>
    intro i j h
    simp only [Tm.bef, Bool.or_eq_true, Tm.sz] at h ⊢
    rcases h with h | h
    · have := il _ _ h; omega
    · have := ir _ _ h; omega

theorem Tm.bef_out (T : Tm) (i j : Int) (h : i < 0 ∨ j < 0 ∨ (T.sz : Int) ≤ i ∨ (T.sz : Int) ≤ j ∨ j ≤ i) : T.bef i j = false := by
  cases hb : T.bef i j with
  | false => rfl
  | true => have := T.bef_lt _ _ hb; omega

theorem Tm.seq_cross (l r : Tm) (i j : Int) (h0 : 0 ≤ i) (h1 : i < l.sz) (h2 : (l.sz : Int) ≤ j) (h3 : j < l.sz + r.sz) : (Tm.seq l r).bef i j = true := by
  simp [Tm.bef, h0, h1, h2, h3]
theorem Tm.seq_left (l r : Tm) (i j : Int) (h : i < l.sz) (h1 : j < l.sz) : (Tm.seq l r).bef i j = l.bef i j := by
  have := r.bef_out (i - l.sz) (j - l.sz) (by omega)
  simp only [Tm.bef, this, Bool.or_false]
  rw [decide_eq_false (show ¬ ((l.sz : Int) ≤ j) by omega)]
  simp
theorem Tm.seq_right (l r : Tm) (i j : Int) (h : (l.sz : Int) ≤ i) (_h1 : (l.sz : Int) ≤ j) : (Tm.seq l r).bef i j = r.bef (i - l.sz) (j - l.sz) := by
  have := l.bef_out i j (by omega)
  simp only [Tm.bef, this, Bool.or_false]
  rw [decide_eq_false (show ¬ (i < l.sz) by omega)]
  simp
theorem Tm.par_left (l r : Tm) (i j : Int) (h : i < l.sz) (_h1 : j < l.sz) : (Tm.par l r).bef i j = l.bef i j := by
  have := r.bef_out (i - l.sz) (j - l.sz) (by omega)
  simp only [Tm.bef, this, Bool.or_false]
theorem Tm.par_right (l r : Tm) (i j : Int) (h : (l.sz : Int) ≤ i) (_h1 : (l.sz : Int) ≤ j) : (Tm.par l r).bef i j = r.bef (i - l.sz) (j - l.sz) := by
  have := l.bef_out i j (by omega)
  simp only [Tm.bef, this, Bool.false_or]
theorem Tm.par_cross (l r : Tm) (i j : Int) (h : i < l.sz) (h1 : (l.sz : Int) ≤ j) : (Tm.par l r).bef i j = false := by
  have h2 := l.bef_out i j (by omega)
  have h3 := r.bef_out (i - l.sz) (j - l.sz) (by omega)
  simp only [Tm.bef, h2, h3, Bool.false_or]
theorem Tm.seq_back (l r : Tm) (i j : Int) (h : (l.sz : Int) ≤ i) (h1 : j < l.sz) : (Tm.seq l r).bef i j = false :=
  (Tm.seq l r).bef_out i j (by omega)
theorem Tm.par_back (l r : Tm) (i j : Int) (h : (l.sz : Int) ≤ i) (h1 : j < l.sz) : (Tm.par l r).bef i j = false :=
  (Tm.par l r).bef_out i j (by omega)

theorem Tm.bef_trans (T : Tm) : ∀ i j k, T.bef i j = true → T.bef j k = true → T.bef i k = true := by
  induction T with
  | nil => intro i j k h; simp [Tm.bef] at h
  | one a => intro i j k h; simp [Tm.bef] at h
  | seq l r il ir =>
    intro i j k h1 h2
    have b1 := Tm.bef_lt _ _ _ h1
    have b2 := Tm.bef_lt _ _ _ h2
    simp only [Tm.sz] at b1 b2
    by_cases hi : i < l.sz
    · by_cases hk : k < l.sz
      · rw [Tm.seq_left l r _ _ (by omega) (by omega)] at h1 h2 ⊢
        exact il _ _ _ h1 h2
      · exact Tm.seq_cross l r i k (by omega) hi (by omega) (by omega)
    · rw [Tm.seq_right l r _ _ (by omega) (by omega)] at h1 h2 ⊢
      exact ir _ _ _ h1 h2
  | par l r il ir =>
    intro i j k h1 h2
    have b1 := Tm.bef_lt _ _ _ h1
    have b2 := Tm.bef_lt _ _ _ h2
    simp only [Tm.sz] at b1 b2
    by_cases hi : i < l.sz
    · by_cases hj : j < l.sz
      · by_cases hk : k < l.sz
        · rw [Tm.par_left l r _ _ (by omega) (by omega)] at h1 h2 ⊢
          exact il _ _ _ h1 h2
        · rw [Tm.par_cross l r j k (by omega) (by omega)] at h2; cases h2
      · rw [Tm.par_cross l r i j (by omega) (by omega)] at h1; cases h1
    · rw [Tm.par_right l r _ _ (by omega) (by omega)] at h1 h2 ⊢
      exact ir _ _ _ h1 h2

/-- two leaves are side by side -/
def Tm.apart (T : Tm) (x y : Int) : Prop := x ≠ y ∧ T.bef x y = false ∧ T.bef y x = false

theorem Tm.noN (T : Tm) : ∀ a b c d : Int, 0 ≤ b → b < T.sz → 0 ≤ c → c < T.sz → T.bef a c = true → T.bef a d = true → T.bef b d = true → T.apart a b → T.apart c d → T.apart b c → False := by
  induction T with
  | nil => intro a b c d _ _ _ _ h; simp [Tm.bef] at h
  | one a => intro a b c d _ _ _ _ h; simp [Tm.bef] at h
  | seq l r il ir =>
    intro a b c d hb0 hb1 hc0 hc1 h1 h2 h3 hab hcd hbc
    have b1 := Tm.bef_lt _ _ _ h1
    have b2 := Tm.bef_lt _ _ _ h2
    have b3 := Tm.bef_lt _ _ _ h3
    simp only [Tm.sz] at b1 b2 b3 hb1 hc1
    have same : ∀ x y : Int, 0 ≤ x → x < l.sz + r.sz → 0 ≤ y → y < l.sz + r.sz → (Tm.seq l r).apart x y → (x < l.sz ∧ y < l.sz) ∨ ((l.sz : Int) ≤ x ∧ (l.sz : Int) ≤ y) := fun x y x0 x1 y0 y1 h => by
      obtain ⟨_, p, q⟩ := h
      by_cases hx : x < l.sz
      · by_cases hy : y < l.sz
        · exact .inl ⟨hx, hy⟩
        · rw [Tm.seq_cross l r x y x0 hx (by omega) y1] at p; cases p
      · by_cases hy : y < l.sz
        · rw [Tm.seq_cross l r y x y0 hy (by omega) x1] at q; cases q
        · exact .inr ⟨by omega, by omega⟩
    have s1 := same a b (by omega) (by omega) hb0 (by omega) hab
    have s2 := same c d hc0 (by omega) (by omega) (by omega) hcd
    have s3 := same b c hb0 (by omega) hc0 (by omega) hbc
    by_cases ha : a < l.sz
    · have ab : (Tm.seq l r).apart a b → l.apart a b := fun ⟨x, y, z⟩ => ⟨x, by rwa [Tm.seq_left l r _ _ (by omega) (by omega)] at y, by rwa [Tm.seq_left l r _ _ (by omega) (by omega)] at z⟩
      have cd : (Tm.seq l r).apart c d → l.apart c d := fun ⟨x, y, z⟩ => ⟨x, by rwa [Tm.seq_left l r _ _ (by omega) (by omega)] at y, by rwa [Tm.seq_left l r _ _ (by omega) (by omega)] at z⟩
      have bc : (Tm.seq l r).apart b c → l.apart b c := fun ⟨x, y, z⟩ => ⟨x, by rwa [Tm.seq_left l r _ _ (by omega) (by omega)] at y, by rwa [Tm.seq_left l r _ _ (by omega) (by omega)] at z⟩
      rw [Tm.seq_left l r _ _ (by omega) (by omega)] at h1 h2 h3
      exact il a b c d (by omega) (by omega) (by omega) (by omega) h1 h2 h3 (ab hab) (cd hcd) (bc hbc)
    · have tr : ∀ x y : Int, (l.sz : Int) ≤ x → (l.sz : Int) ≤ y → (Tm.seq l r).apart x y → r.apart (x - l.sz) (y - l.sz) := fun x y hx hy ⟨p, q, s⟩ =>
        ⟨by omega, by rwa [Tm.seq_right l r _ _ hx hy] at q, by rwa [Tm.seq_right l r _ _ hy hx] at s⟩
      rw [Tm.seq_right l r _ _ (by omega) (by omega)] at h1 h2 h3
      exact ir _ _ _ _ (by omega) (by omega) (by omega) (by omega) h1 h2 h3 (tr _ _ (by omega) (by omega) hab) (tr _ _ (by omega) (by omega) hcd) (tr _ _ (by omega) (by omega) hbc)
  | par l r il ir =>
    intro a b c d hb0 hb1 hc0 hc1 h1 h2 h3 hab hcd hbc
    have b1 := Tm.bef_lt _ _ _ h1
    have b2 := Tm.bef_lt _ _ _ h2
    have b3 := Tm.bef_lt _ _ _ h3
    simp only [Tm.sz] at b1 b2 b3 hb1 hc1
    have same : ∀ x y : Int, x < y → (Tm.par l r).bef x y = true → (x < l.sz ∧ y < l.sz) ∨ ((l.sz : Int) ≤ x ∧ (l.sz : Int) ≤ y) := fun x y hlt h => by
      by_cases hx : x < l.sz
      · by_cases hy : y < l.sz
        · exact .inl ⟨hx, hy⟩
        · rw [Tm.par_cross l r x y hx (by omega)] at h; cases h
      · exact .inr ⟨by omega, by omega⟩
    have s1 := same a c (by omega) h1
    have s2 := same a d (by omega) h2
    have s3 := same b d (by omega) h3
    have tl : ∀ x y : Int, x < l.sz → y < l.sz → (Tm.par l r).apart x y → l.apart x y := fun x y hx hy ⟨p, q, s⟩ =>
      ⟨p, by rwa [Tm.par_left l r _ _ hx hy] at q, by rwa [Tm.par_left l r _ _ hy hx] at s⟩
    have tr : ∀ x y : Int, (l.sz : Int) ≤ x → (l.sz : Int) ≤ y → (Tm.par l r).apart x y → r.apart (x - l.sz) (y - l.sz) := fun x y hx hy ⟨p, q, s⟩ =>
      ⟨by omega, by rwa [Tm.par_right l r _ _ hx hy] at q, by rwa [Tm.par_right l r _ _ hy hx] at s⟩
    by_cases ha : a < l.sz
    · rw [Tm.par_left l r _ _ (by omega) (by omega)] at h1 h2 h3
      exact il a b c d (by omega) (by omega) (by omega) (by omega) h1 h2 h3 (tl _ _ (by omega) (by omega) hab) (tl _ _ (by omega) (by omega) hcd) (tl _ _ (by omega) (by omega) hbc)
    · rw [Tm.par_right l r _ _ (by omega) (by omega)] at h1 h2 h3
      exact ir _ _ _ _ (by omega) (by omega) (by omega) (by omega) h1 h2 h3 (tr _ _ (by omega) (by omega) hab) (tr _ _ (by omega) (by omega) hcd) (tr _ _ (by omega) (by omega) hbc)

/-- the place of leaf k where right kids come first side by side -/
def Tm.pos : Tm → Int → Int
  | .nil, _ => 0
  | .one _, _ => 0
  | .seq l r, k => if k < l.sz then l.pos k else l.sz + r.pos (k - l.sz)
  | .par l r, k => if k < l.sz then r.sz + l.pos k else r.pos (k - l.sz)

theorem Tm.pos_lt (T : Tm) : ∀ k : Int, 0 ≤ k → k < T.sz → 0 ≤ T.pos k ∧ T.pos k < T.sz := by
  induction T with
  | nil => intro k h0 h1; simp only [Tm.sz] at h1; omega
  | one a => intro k h0 h1; simp [Tm.pos, Tm.sz]
  | seq l r il ir =>
    intro k h0 h1
    simp only [Tm.sz] at h1
    simp only [Tm.pos, Tm.sz]
    split
    · have := il k h0 (by assumption); omega
    · have := ir (k - l.sz) (by omega) (by omega); omega
  | par l r il ir =>
    intro k h0 h1
    simp only [Tm.sz] at h1
    simp only [Tm.pos, Tm.sz]
    split
    · have := il k h0 (by assumption); omega
    · have := ir (k - l.sz) (by omega) (by omega); omega

theorem Tm.pos_inj (T : Tm) : ∀ i j : Int, 0 ≤ i → i < T.sz → 0 ≤ j → j < T.sz → T.pos i = T.pos j → i = j := by
  induction T with
  | nil => intro i j h0 h1; simp only [Tm.sz] at h1; omega
  | one a => intro i j h0 h1 h2 h3 _; simp only [Tm.sz] at h1 h3; omega
  | seq l r il ir =>
    intro i j h0 h1 h2 h3 h
    simp only [Tm.sz] at h1 h3
    simp only [Tm.pos] at h
    by_cases hi : i < l.sz
    · by_cases hj : j < l.sz
      · rw [if_pos hi, if_pos hj] at h; exact il _ _ h0 hi h2 hj h
      · rw [if_pos hi, if_neg hj] at h
        have := l.pos_lt i h0 hi; have := r.pos_lt (j - l.sz) (by omega) (by omega); omega
    · by_cases hj : j < l.sz
      · rw [if_neg hi, if_pos hj] at h
        have := l.pos_lt j h2 hj; have := r.pos_lt (i - l.sz) (by omega) (by omega); omega
      · rw [if_neg hi, if_neg hj] at h
        have := ir (i - l.sz) (j - l.sz) (by omega) (by omega) (by omega) (by omega) (by omega); omega
  | par l r il ir =>
    intro i j h0 h1 h2 h3 h
    simp only [Tm.sz] at h1 h3
    simp only [Tm.pos] at h
    by_cases hi : i < l.sz
    · by_cases hj : j < l.sz
      · rw [if_pos hi, if_pos hj] at h; exact il _ _ h0 hi h2 hj (by omega)
      · rw [if_pos hi, if_neg hj] at h
        have := l.pos_lt i h0 hi; have := r.pos_lt (j - l.sz) (by omega) (by omega); omega
    · by_cases hj : j < l.sz
      · rw [if_neg hi, if_pos hj] at h
        have := l.pos_lt j h2 hj; have := r.pos_lt (i - l.sz) (by omega) (by omega); omega
      · rw [if_neg hi, if_neg hj] at h
        have := ir (i - l.sz) (j - l.sz) (by omega) (by omega) (by omega) (by omega) h; omega

theorem Tm.seq_pos_l (l r : Tm) {k : Int} (h : k < l.sz) : (Tm.seq l r).pos k = l.pos k := by simp only [Tm.pos]; rw [if_pos h]
theorem Tm.seq_pos_r (l r : Tm) {k : Int} (h : ¬ k < l.sz) : (Tm.seq l r).pos k = l.sz + r.pos (k - l.sz) := by simp only [Tm.pos]; rw [if_neg h]
theorem Tm.par_pos_l (l r : Tm) {k : Int} (h : k < l.sz) : (Tm.par l r).pos k = r.sz + l.pos k := by simp only [Tm.pos]; rw [if_pos h]
theorem Tm.par_pos_r (l r : Tm) {k : Int} (h : ¬ k < l.sz) : (Tm.par l r).pos k = r.pos (k - l.sz) := by simp only [Tm.pos]; rw [if_neg h]

/-- two numberings tell it all -/
theorem Tm.bef_pos (T : Tm) : ∀ i j : Int, 0 ≤ i → i < T.sz → 0 ≤ j → j < T.sz → T.bef i j = (decide (i < j) && decide (T.pos i < T.pos j)) := by
  induction T with
  | nil => intro i j h0 h1; simp only [Tm.sz] at h1; omega
  | one a =>
    intro i j h0 h1 h2 h3; simp only [Tm.sz] at h1 h3
    rw [decide_eq_false (show ¬ i < j by omega)]; rfl
  | seq l r il ir =>
    intro i j h0 h1 h2 h3
    simp only [Tm.sz] at h1 h3
    by_cases hi : i < l.sz
    · by_cases hj : j < l.sz
      · rw [Tm.seq_pos_l l r hi, Tm.seq_pos_l l r hj, Tm.seq_left l r _ _ hi hj]; exact il _ _ h0 hi h2 hj
      · rw [Tm.seq_pos_l l r hi, Tm.seq_pos_r l r hj, Tm.seq_cross l r i j h0 hi (by omega) (by omega)]
        have := l.pos_lt i h0 hi; have := r.pos_lt (j - l.sz) (by omega) (by omega)
        rw [decide_eq_true (show i < j by omega), decide_eq_true (by omega)]; rfl
    · by_cases hj : j < l.sz
      · rw [Tm.seq_pos_r l r hi, Tm.seq_pos_l l r hj, Tm.seq_back l r i j (by omega) hj, decide_eq_false (show ¬ i < j by omega)]; rfl
      · rw [Tm.seq_pos_r l r hi, Tm.seq_pos_r l r hj, Tm.seq_right l r _ _ (by omega) (by omega), ir _ _ (by omega) (by omega) (by omega) (by omega)]
        congr 1
        · exact decide_eq_decide.2 (by omega)
        · exact decide_eq_decide.2 (by omega)
  | par l r il ir =>
    intro i j h0 h1 h2 h3
    simp only [Tm.sz] at h1 h3
    by_cases hi : i < l.sz
    · by_cases hj : j < l.sz
      · rw [Tm.par_pos_l l r hi, Tm.par_pos_l l r hj, Tm.par_left l r _ _ hi hj, il _ _ h0 hi h2 hj]
        congr 1
        exact decide_eq_decide.2 (by omega)
      · rw [Tm.par_pos_l l r hi, Tm.par_pos_r l r hj, Tm.par_cross l r i j hi (by omega)]
        have := l.pos_lt i h0 hi; have := r.pos_lt (j - l.sz) (by omega) (by omega)
        rw [decide_eq_false (show ¬ (r.sz + l.pos i < r.pos (j - l.sz)) by omega), Bool.and_false]
    · by_cases hj : j < l.sz
      · rw [Tm.par_pos_r l r hi, Tm.par_pos_l l r hj, Tm.par_back l r i j (by omega) hj, decide_eq_false (show ¬ i < j by omega)]; rfl
      · rw [Tm.par_pos_r l r hi, Tm.par_pos_r l r hj, Tm.par_right l r _ _ (by omega) (by omega), ir _ _ (by omega) (by omega) (by omega) (by omega)]
        congr 1
        exact decide_eq_decide.2 (by omega)

/-- the numbers of leaves, right kids first side by side -/
def Tm.turned : Tm → Int → List Int
  | .nil, _ => []
  | .one _, f => [f]
  | .seq l r, f => l.turned f ++ r.turned (f + l.sz)
  | .par l r, f => r.turned (f + l.sz) ++ l.turned f

theorem Tm.turned_len (T : Tm) : ∀ f, (T.turned f).length = T.sz := by
  induction T with
  | nil => intro f; rfl
  | one a => intro f; rfl
  | seq l r il ir => intro f; simp [Tm.turned, Tm.sz, il, ir]
  | par l r il ir => intro f; simp [Tm.turned, Tm.sz, il, ir, Nat.add_comm]

theorem Tm.turned_at (T : Tm) : ∀ f (n : Nat), n < T.sz → ∃ k : Int, 0 ≤ k ∧ k < T.sz ∧ (T.turned f)[n]? = some (f + k) ∧ T.pos k = n := by
  induction T with
  | nil => intro f n h; simp only [Tm.sz] at h; omega
  | one a => intro f n h; simp only [Tm.sz] at h; obtain rfl : n = 0 := by omega
             exact ⟨0, by omega, by simp [Tm.sz], by simp [Tm.turned], rfl⟩
  | seq l r il ir =>
    intro f n h
    simp only [Tm.sz] at h
    by_cases hn : n < l.sz
    · obtain ⟨k, k0, k1, h1, h2⟩ := il f n hn
      refine ⟨k, k0, by simp only [Tm.sz]; omega, ?_, by simp only [Tm.pos, if_pos k1, h2]⟩
      rw [Tm.turned, List.getElem?_append_left (by rw [Tm.turned_len]; exact hn), h1]
    · obtain ⟨k, k0, k1, h1, h2⟩ := ir (f + l.sz) (n - l.sz) (by omega)
      refine ⟨k + l.sz, by omega, by simp only [Tm.sz]; omega, ?_, ?_⟩
      · rw [Tm.turned, List.getElem?_append_right (by rw [Tm.turned_len]; omega), Tm.turned_len, h1]; congr 1; omega
      · simp only [Tm.pos]; rw [if_neg (by omega), show k + (l.sz : Int) - l.sz = k by omega, h2]; omega
  | par l r il ir =>
    intro f n h
    simp only [Tm.sz] at h
    by_cases hn : n < r.sz
    · obtain ⟨k, k0, k1, h1, h2⟩ := ir (f + l.sz) n hn
      refine ⟨k + l.sz, by omega, by simp only [Tm.sz]; omega, ?_, ?_⟩
      · rw [Tm.turned, List.getElem?_append_left (by rw [Tm.turned_len]; exact hn), h1]; congr 1; omega
      · simp only [Tm.pos]; rw [if_neg (by omega), show k + (l.sz : Int) - l.sz = k by omega, h2]
    · obtain ⟨k, k0, k1, h1, h2⟩ := il f (n - r.sz) (by omega)
      refine ⟨k, k0, by simp only [Tm.sz]; omega, ?_, ?_⟩
      · rw [Tm.turned, List.getElem?_append_right (by rw [Tm.turned_len]; omega), Tm.turned_len, h1]
      · simp only [Tm.pos, if_pos k1, h2]; omega

/-- what a reader that looks for i on the left and j on the right has seen -/
def Tm.ask : Tm → Int → Int → Int → Bool
  | .nil, _, _, _ => false
  | .one _, _, _, _ => false
  | .seq l r, f, i, j => l.ask f i j || r.ask (f + l.sz) i j || (decide (f ≤ i) && decide (i < f + l.sz) && decide (f + l.sz ≤ j) && decide (j < f + l.sz + r.sz))
  | .par l r, f, i, j => l.ask f i j || r.ask (f + l.sz) i j

theorem Tm.ask_bef (T : Tm) : ∀ f i j, T.ask f i j = T.bef (i - f) (j - f) := by
  induction T with
  | nil => intro f i j; rfl
  | one a => intro f i j; rfl
  | seq l r il ir =>
    intro f i j
    simp only [Tm.ask, Tm.bef, il, ir]
    rw [show i - (f + l.sz) = i - f - l.sz by omega, show j - (f + l.sz) = j - f - l.sz by omega]
    rw [show decide (f ≤ i) = decide (0 ≤ i - f) from decide_eq_decide.2 (by omega), show decide (i < f + l.sz) = decide (i - f < l.sz) from decide_eq_decide.2 (by omega),
      show decide (f + (l.sz : Int) ≤ j) = decide ((l.sz : Int) ≤ j - f) from decide_eq_decide.2 (by omega), show decide (j < f + (l.sz : Int) + r.sz) = decide (j - f < (l.sz : Int) + r.sz) from decide_eq_decide.2 (by omega)]
    generalize l.bef (i - f) (j - f) = x
    generalize r.bef (i - f - l.sz) (j - f - l.sz) = y
    generalize (decide (0 ≤ i - f) && decide (i - f < l.sz) && decide ((l.sz : Int) ≤ j - f) && decide (j - f < (l.sz : Int) + r.sz)) = z
    cases x <;> cases y <;> cases z <;> rfl
  | par l r il ir =>
    intro f i j
    simp only [Tm.ask, Tm.bef, il, ir]
    rw [show i - (f + l.sz) = i - f - l.sz by omega, show j - (f + l.sz) = j - f - l.sz by omega]
end Go.Proofs.YtidgibkiacbgfaaDoor

namespace Go.Proofs.YtidgibkiacbgfaaDoor
open Go.RowKit
set_option maxRecDepth 100000

/-- what a term's five cells hold -/
structure Hd where
  k : Int
  c : Int
  x : Bool
  l : Int
  A : Option Addr
  n : Nat
  cap : Nat
def Hd.zero : Hd := ⟨0, 0, false, 0, none, 0, 0⟩
def Hd.cells (h : Hd) : Array Value := #[.int .i64 h.k, .int .i64 h.c, .bool h.x, .int .i64 h.l, .slice h.A h.n h.cap]

structure HdAt (w : World) (b o : Nat) (h : Hd) : Prop where
  h0 : w.cell? ⟨b, o, none⟩ = some (.int .i64 h.k)
  h1 : w.cell? ⟨b, o + 1, none⟩ = some (.int .i64 h.c)
  h2 : w.cell? ⟨b, o + 2, none⟩ = some (.bool h.x)
  h3 : w.cell? ⟨b, o + 3, none⟩ = some (.int .i64 h.l)
  h4 : w.cell? ⟨b, o + 4, none⟩ = some (.slice h.A h.n h.cap)

theorem HdAt.below {w w' : World} {b o m : Nat} {h : Hd} (hh : HdAt w b o h) (hb : Below m w w') (hm : b < m) : HdAt w' b o h :=
  ⟨(hb.cell (p := ⟨b, o, none⟩) hm).trans hh.h0, (hb.cell (p := ⟨b, o + 1, none⟩) hm).trans hh.h1, (hb.cell (p := ⟨b, o + 2, none⟩) hm).trans hh.h2,
    (hb.cell (p := ⟨b, o + 3, none⟩) hm).trans hh.h3, (hb.cell (p := ⟨b, o + 4, none⟩) hm).trans hh.h4⟩
theorem HdAt.new (w : World) (h : Hd) (t : TypeId) : HdAt (w.alloc (.cells h.cells t)) w.heap.size 0 h := by
  have e := World.alloc_heap_new w (.cells h.cells t)
  constructor <;> simp only [World.cell?, e] <;> rfl

/-- the term T lies below block m; h is its header -/
def TIn (w : World) (m : Nat) : Tm → Hd → Prop
  | .nil, h => h.k ≠ 1 ∧ ((h.k ≠ 2 ∧ h.k ≠ 3) ∨ h.n < 2)
  | .one a, h => h.k = 1 ∧ a = (h.c, h.x, h.l)
  | .seq l r, h => h.k = 2 ∧ 2 ≤ h.n ∧ ∃ b o hl hr, h.A = some ⟨b, o, none⟩ ∧ b < m ∧ HdAt w b o hl ∧ HdAt w b (o + 5) hr ∧ TIn w m l hl ∧ TIn w m r hr
  | .par l r, h => h.k = 3 ∧ 2 ≤ h.n ∧ ∃ b o hl hr, h.A = some ⟨b, o, none⟩ ∧ b < m ∧ HdAt w b o hl ∧ HdAt w b (o + 5) hr ∧ TIn w m l hl ∧ TIn w m r hr

theorem TIn.below {w w' : World} {m m' : Nat} (hb : Below m' w w') (hm : m ≤ m') : ∀ {T : Tm} {h : Hd}, TIn w m T h → TIn w' m T h
  | .nil, _, h => h
  | .one _, _, h => h
  | .seq _ _, _, ⟨h1, h2, b, o, hl, hr, h3, h4, h5, h6, h7, h8⟩ => ⟨h1, h2, b, o, hl, hr, h3, h4, h5.below hb (by omega), h6.below hb (by omega), h7.below hb hm, h8.below hb hm⟩
  | .par _ _, _, ⟨h1, h2, b, o, hl, hr, h3, h4, h5, h6, h7, h8⟩ => ⟨h1, h2, b, o, hl, hr, h3, h4, h5.below hb (by omega), h6.below hb (by omega), h7.below hb hm, h8.below hb hm⟩
theorem TIn.more {w : World} {m m' : Nat} (hm : m ≤ m') : ∀ {T : Tm} {h : Hd}, TIn w m T h → TIn w m' T h
  | .nil, _, h => h
  | .one _, _, h => h
  | .seq _ _, _, ⟨h1, h2, b, o, hl, hr, h3, h4, h5, h6, h7, h8⟩ => ⟨h1, h2, b, o, hl, hr, h3, by omega, h5, h6, h7.more hm, h8.more hm⟩
  | .par _ _, _, ⟨h1, h2, b, o, hl, hr, h3, h4, h5, h6, h7, h8⟩ => ⟨h1, h2, b, o, hl, hr, h3, by omega, h5, h6, h7.more hm, h8.more hm⟩
theorem TIn.drewN {w : World} {m n : Nat} : ∀ {T : Tm} {h : Hd}, TIn w m T h → TIn (w.drewN n) m T h
  | .nil, _, h => h
  | .one _, _, h => h
  | .seq _ _, _, ⟨h1, h2, b, o, hl, hr, h3, h4, h5, h6, h7, h8⟩ => ⟨h1, h2, b, o, hl, hr, h3, h4, ⟨h5.h0, h5.h1, h5.h2, h5.h3, h5.h4⟩, ⟨h6.h0, h6.h1, h6.h2, h6.h3, h6.h4⟩, h7.drewN, h8.drewN⟩
  | .par _ _, _, ⟨h1, h2, b, o, hl, hr, h3, h4, h5, h6, h7, h8⟩ => ⟨h1, h2, b, o, hl, hr, h3, h4, ⟨h5.h0, h5.h1, h5.h2, h5.h3, h5.h4⟩, ⟨h6.h0, h6.h1, h6.h2, h6.h3, h6.h4⟩, h7.drewN, h8.drewN⟩
end Go.Proofs.YtidgibkiacbgfaaDoor

namespace Go.Proofs.YtidgibkiacbgfaaDoor
open Go.RowKit
set_option maxRecDepth 100000

/-- the answer of Both -/
def Tm.two (w : World) (m : Nat) (T : Tm) (v : Value) : Prop :=
  match T with
  | .nil => v = .tuple #[.agg Hd.zero.cells, .agg Hd.zero.cells, .bool false]
  | .one _ => v = .tuple #[.agg Hd.zero.cells, .agg Hd.zero.cells, .bool false]
  | .seq l r => ∃ hl hr, v = .tuple #[.agg hl.cells, .agg hr.cells, .bool true] ∧ TIn w m l hl ∧ TIn w m r hr
  | .par l r => ∃ hl hr, v = .tuple #[.agg hl.cells, .agg hr.cells, .bool true] ∧ TIn w m l hl ∧ TIn w m r hr

/-- two results in cells, one in a slot -/
theorem results_row2_tmp {P : Program} {fn : Func} {p q u : Tmp} {ty : TypeId} (h : fn.results = #[.cell p ty, .cell q ty, .tmp u]) (tmps : Array Value) (w : World) (g g' : Nat) (t t' : TypeId) (cs cs' : Array Value) (fr fr' : Nat × Nat) (d : TypeDesc)
    (hp : tmps.getD p undef = .pointer (some ⟨g, 0, none⟩)) (hg : w.heap[g]? = some (.cells cs t fr))
    (hq : tmps.getD q undef = .pointer (some ⟨g', 0, none⟩)) (hg' : w.heap[g']? = some (.cells cs' t' fr'))
    (hu : P.underlying ty = some d) (hd : (match d with | .struct _ | .array _ _ => true | _ => false) = true) (hi : (P.info? ty).map (·.size) = some cs.size) (hi' : (P.info? ty).map (·.size) = some cs'.size) :
    (results fn tmps).run P w = .ok (.tuple #[.agg cs, .agg cs', tmps.getD u undef]) w := by
  have hp' : tmps[p]?.getD undef = .pointer (some ⟨g, 0, none⟩) := by simpa using hp
  have hq' : tmps[q]?.getD undef = .pointer (some ⟨g', 0, none⟩) := by simpa using hq
  simp [results, h, hp', hq', asAddr, run_loadVar_row w g t ty cs fr d hg hu hd hi, run_loadVar_row w g' t' ty cs' fr' d hg' hu hd hi']

theorem Tryd.infoTm : (Tryd.prog.info? 26).map (·.size) = some 5 := by kernel_rfl

/-- block B holds a term's header -/
def TB (T : TypeId) (w : World) (B : Nat) (h : Hd) : Prop := w.heap[B]? = some (.cells h.cells T (0, 0))
section
variable {T : TypeId} {w w' : World} {B : Nat} {h : Hd}
theorem TB.new (w : World) (T : TypeId) (h : Hd) : TB T (w.alloc (.cells h.cells T)) w.heap.size h := World.alloc_heap_new w _
theorem TB.alloc (hb : TB T w B h) (o : Obj) : TB T (w.alloc o) B h := by
  have hlt : B < w.heap.size := (Array.getElem?_eq_some_iff.1 hb).1
  exact ((World.grownBy_alloc w o none).block B hlt (by simp)).trans hb
theorem TB.at (hb : TB T w B h) : HdAt w B 0 h := by
  constructor <;> simp only [World.cell?, show w.heap[B]? = _ from hb] <;> rfl
theorem TB.c0 (hb : TB T w B h) : w.cell? ⟨B, 0, none⟩ = some (.int .i64 h.k) := hb.at.h0
theorem TB.c1 (hb : TB T w B h) : w.cell? ⟨B, 1, none⟩ = some (.int .i64 h.c) := hb.at.h1
theorem TB.c2 (hb : TB T w B h) : w.cell? ⟨B, 2, none⟩ = some (.bool h.x) := hb.at.h2
theorem TB.c3 (hb : TB T w B h) : w.cell? ⟨B, 3, none⟩ = some (.int .i64 h.l) := hb.at.h3
theorem TB.c4 (hb : TB T w B h) : w.cell? ⟨B, 4, none⟩ = some (.slice h.A h.n h.cap) := hb.at.h4
theorem TB.frozen (hb : TB T w B h) (o : Nat) : w.frozen? ⟨B, o, none⟩ = false := by simp [World.frozen?, show w.heap[B]? = _ from hb]
theorem TB.lt (hb : TB T w B h) : B < w.heap.size := (Array.getElem?_eq_some_iff.1 hb).1
/-- a header is stored, cell by cell -/
def putHd (w : World) (B : Nat) (h : Hd) : World :=
  ((((w.setCell ⟨B, 0, none⟩ (.int .i64 h.k)).setCell ⟨B, 1, none⟩ (.int .i64 h.c)).setCell ⟨B, 2, none⟩ (.bool h.x)).setCell ⟨B, 3, none⟩ (.int .i64 h.l)).setCell ⟨B, 4, none⟩ (.slice h.A h.n h.cap)
theorem heap_set_in {w : World} {B i : Nat} {cs : Array Value} {fr : Nat × Nat} (hb : w.heap[B]? = some (.cells cs T fr)) (v : Value) : (w.setCell ⟨B, i, none⟩ v).heap[B]? = some (.cells (cs.set! i v) T fr) := by
  obtain ⟨hlt, hk⟩ := Array.getElem?_eq_some_iff.1 hb
  show (w.heap.modify B _)[B]? = _
  rw [Array.getElem?_eq_getElem (by rw [Array.size_modify]; exact hlt), Array.getElem_modify_self, hk]
  rfl
theorem TB.put {h' : Hd} (hb : TB T w B h) : TB T (putHd w B h') B h' :=
  heap_set_in (heap_set_in (heap_set_in (heap_set_in (heap_set_in hb _) _) _) _) _
theorem TB.put_ne {B' : Nat} {h' : Hd} (hb : TB T w B h) (hne : B ≠ B') : TB T (putHd w B' h') B h := by
  unfold TB putHd
  rw [Below.heap_setCell _ _ _ _ hne, Below.heap_setCell _ _ _ _ hne, Below.heap_setCell _ _ _ _ hne, Below.heap_setCell _ _ _ _ hne, Below.heap_setCell _ _ _ _ hne]
  exact hb
theorem below_put {m : Nat} {a : World} (hb : Below m a w) (hm : m ≤ B) (h' : Hd) : Below m a (putHd w B h') :=
  ((((hb.setCell (p := ⟨B, 0, none⟩) hm _).setCell (p := ⟨B, 1, none⟩) hm _).setCell (p := ⟨B, 2, none⟩) hm _).setCell (p := ⟨B, 3, none⟩) hm _).setCell (p := ⟨B, 4, none⟩) hm _
theorem TB.drew (hb : TB T w B h) : TB T w.drew B h := hb
end

end Go.Proofs.YtidgibkiacbgfaaDoor

namespace Go.Proofs.YtidgibkiacbgfaaDoor
open Go.RowKit
set_option maxRecDepth 100000

def accV (a : Acc) : Value := .agg #[.int .i64 a.1, .bool a.2.1, .int .i64 a.2.2]

/-- the method 'name' of the value behind the interface is the function f, with the receiver r -/
structure Meth (P : Program) (J : World → Prop) (td : TypeId) (dv : Value) (name : String) (f : FuncId) (r : Value) : Prop where
  na : ∀ k w, (nilAhead (k + 8) td dv name).run P w = .ok (some false) w
  me : ∀ k w, J w → (method (k + 8) td dv name).run P w = .ok (f, r) w
  en : ∀ args w, (callFunc f args).run P w = .ok (.enter f args) w

section
variable {σ : Type}

/-- a reader: its state lies in w as I says; memory below block C stays -/
structure Rdr (J : World → Prop) (I : World → σ → Nat → Prop) (C : Nat) (td : TypeId) (dv : Value) (lf : σ → Nat → Acc → σ × Bool) (sf pf : σ → Nat → Nat → Nat → σ) : Prop where
  drew : ∀ w s n, I w s n → I w.drew s n
  there : ∀ w s n, I w s n → J w
  leaf : ∃ f r, Meth Tryd.prog J td dv "forkwright/sp.leaf" f r ∧ ∀ w s n a, I w s n → n < 1048576 →
    Calls Tryd.prog f #[r, .int .i64 (n : Nat), accV a] w fun e w' => e = .returned (.bool (lf s n a).2) ∧ I w' (lf s n a).1 (n + 1) ∧ Below C w w'
  ser : ∃ f r, Meth Tryd.prog J td dv "forkwright/sp.series" f r ∧ ∀ w s x m t, I w s t → x ≤ m → m ≤ t → t ≤ 1048576 →
    Calls Tryd.prog f #[r, .int .i64 (x : Nat), .int .i64 (m : Nat), .int .i64 (t : Nat)] w fun e w' => e = .returned (.tuple #[]) ∧ I w' (sf s x m t) t ∧ Below C w w'
  par : ∃ f r, Meth Tryd.prog J td dv "forkwright/sp.parallel" f r ∧ ∀ w s x m t, I w s t → x ≤ m → m ≤ t → t ≤ 1048576 →
    Calls Tryd.prog f #[r, .int .i64 (x : Nat), .int .i64 (m : Nat), .int .i64 (t : Nat)] w fun e w' => e = .returned (.tuple #[]) ∧ I w' (pf s x m t) t ∧ Below C w w'

/-- two kids, one told behind the other -/
def both2 (x : σ × Nat × Bool) (g : σ → Nat → σ × Nat × Bool) (c : σ → Nat → Nat → σ) : σ × Nat × Bool :=
  match x with
  | (s1, m, false) => (s1, m, false)
  | (s1, m, true) => match g s1 m with
    | (s2, t, true) => (c s2 m t, t, true)
    | (s2, t, false) => (s2, t, false)

/-- what a reader is told: its state, how many leaves, does it want more -/
def Tm.told (lf : σ → Nat → Acc → σ × Bool) (sf pf : σ → Nat → Nat → Nat → σ) : Tm → σ → Nat → σ × Nat × Bool
  | .nil, s, n => (s, n, true)
  | .one a, s, n => ((lf s n a).1, n + 1, (lf s n a).2)
  | .seq l r, s, n => both2 (l.told lf sf pf s n) (r.told lf sf pf) (fun s m t => sf s n m t)
  | .par l r, s, n => both2 (l.told lf sf pf s n) (r.told lf sf pf) (fun s m t => pf s n m t)

theorem both2_cases {x : σ × Nat × Bool} {g : σ → Nat → σ × Nat × Bool} {c : σ → Nat → Nat → σ} {Q : σ × Nat × Bool → Prop}
    (h1 : ∀ s m, x = (s, m, false) → Q (s, m, false)) (h2 : ∀ s m s2 t, x = (s, m, true) → g s m = (s2, t, true) → Q (c s2 m t, t, true)) (h3 : ∀ s m s2 t, x = (s, m, true) → g s m = (s2, t, false) → Q (s2, t, false)) : Q (both2 x g c) := by
  obtain ⟨s, m, b⟩ := x
  cases b with
  | false => exact h1 s m rfl
  | true =>
    rcases hg : g s m with ⟨s2, t, b2⟩
    cases b2 with
    | false => simp only [both2, hg]; exact h3 s m s2 t rfl hg
    | true => simp only [both2, hg]; exact h2 s m s2 t rfl hg

theorem Tm.told_le (lf : σ → Nat → Acc → σ × Bool) (sf pf : σ → Nat → Nat → Nat → σ) (T : Tm) : ∀ s n, n ≤ (T.told lf sf pf s n).2.1 ∧ (T.told lf sf pf s n).2.1 ≤ n + T.sz := by
  induction T with
  | nil => intro s n; exact ⟨Nat.le_refl _, Nat.le_refl _⟩
  | one a => intro s n; simp [Tm.told, Tm.sz]
  | seq l r il ir =>
    intro s n
    simp only [Tm.told, Tm.sz]
    refine both2_cases (Q := fun y => n ≤ y.2.1 ∧ y.2.1 ≤ n + (l.sz + r.sz)) (fun s1 m hx => ?_) (fun s1 m s2 t hx hg => ?_) (fun s1 m s2 t hx hg => ?_)
    · have := il s n; rw [hx] at this; dsimp only at this ⊢; omega
    · have h1 := il s n; have h2 := ir s1 m; rw [hx] at h1; rw [hg] at h2; dsimp only at h1 h2 ⊢; omega
    · have h1 := il s n; have h2 := ir s1 m; rw [hx] at h1; rw [hg] at h2; dsimp only at h1 h2 ⊢; omega
  | par l r il ir =>
    intro s n
    simp only [Tm.told, Tm.sz]
    refine both2_cases (Q := fun y => n ≤ y.2.1 ∧ y.2.1 ≤ n + (l.sz + r.sz)) (fun s1 m hx => ?_) (fun s1 m s2 t hx hg => ?_) (fun s1 m s2 t hx hg => ?_)
    · have := il s n; rw [hx] at this; dsimp only at this ⊢; omega
    · have h1 := il s n; have h2 := ir s1 m; rw [hx] at h1; rw [hg] at h2; dsimp only at h1 h2 ⊢; omega
    · have h1 := il s n; have h2 := ir s1 m; rw [hx] at h1; rw [hg] at h2; dsimp only at h1 h2 ⊢; omega

variable {J : World → Prop} {I : World → σ → Nat → Prop} {C : Nat} {td : TypeId} {dv : Value} {lf : σ → Nat → Acc → σ × Bool} {sf pf : σ → Nat → Nat → Nat → σ}

/-- what sp.read answers -/
def ReadS (I : World → σ → Nat → Prop) (C : Nat) (td : TypeId) (dv : Value) (lf : σ → Nat → Acc → σ × Bool) (sf pf : σ → Nat → Nat → Nat → σ) (T : Tm) : Prop :=
  ∀ (w : World) (b o : Nat) (h : Hd) (s : σ) (n : Nat), HdAt w b o h → b < C → TIn w C T h → I w s n → n + T.sz ≤ 1048576 →
    Calls Tryd.prog 20 #[.pointer (some ⟨b, o, none⟩), .int .i64 n, .iface td dv] w fun e w' =>
      e = .returned (.tuple #[.int .i64 ((T.told lf sf pf s n).2.1 : Nat), .bool (T.told lf sf pf s n).2.2]) ∧ I w' (T.told lf sf pf s n).1 (T.told lf sf pf s n).2.1 ∧ Below C w w'

theorem read_one (hR : Rdr J I C td dv lf sf pf) (a : Acc) : ReadS I C td dv lf sf pf (.one a) := by
  intro w b o h s n hh hb hT hI hn
  obtain ⟨k, c, x, l, A, m, cap⟩ := h
  obtain ⟨h1, rfl⟩ := hT
  dsimp only at h1
  subst h1
  obtain ⟨l0, l1, l2, l3, l4⟩ := hh
  dsimp only at l0 l1 l2 l3 l4
  simp only [Tm.sz] at hn
  obtain ⟨fl, ra, ⟨hna, hme0, hen⟩, hleaf⟩ := hR.leaf
  have hId := hR.drew w s n hI
  have hme := fun k => hme0 k w.drew (hR.there _ _ _ hId)
  clear hme0
  have e1 : IntKind.i64.wrap ((n : Int) + 1) = ((n + 1 : Nat) : Int) := by rw [IntKind.wrap_i64]; omega
  simp only [Tm.told]
  obtain ⟨y, hy⟩ : ∃ y, y = lf s n (c, x, l) := ⟨_, rfl⟩
  have hc := hleaf w.drew s n (c, x, l) hId (by omega)
  rw [← hy] at hc ⊢
  obtain ⟨s', bb⟩ := y
  dsimp only [accV] at hc ⊢
  have HY := Lib.hid hy
  clear hy hR hleaf hI hId
  obtain ⟨N, hN⟩ : ∃ N, N = n + 1 := ⟨_, rfl⟩
  rw [← hN] at e1 hc ⊢
  have HN := Lib.hid hN
  have HC := Lib.hid hc
  have HB := Below.refl C w
  clear hN hc hn
  go_enter Tryd.func20, Tryd.ntmps20
  go_wp2_with fail
  go_region_held3 (fun w' => w'.cell? ⟨b, o + 1, none⟩ = some (.int .i64 c) ∧ w'.cell? ⟨b, o + 1 + 1, none⟩ = some (.bool x) ∧ w'.cell? ⟨b, o + 1 + 2, none⟩ = some (.int .i64 l))
    (first | (go_split_ands; exact ⟨‹_›, ‹_›, ‹_›⟩))
    (first
      | (refine HC.out.mono ?_; rintro e w5 ⟨rfl, hP5, hB5⟩; have q1 := (hB5.cell (p := ⟨b, o + 1, none⟩) hb).trans l1; have q2 := (hB5.cell (p := ⟨b, o + 1 + 1, none⟩) hb).trans l2; have q3 := (hB5.cell (p := ⟨b, o + 1 + 2, none⟩) hb).trans l3))
  all_goals
    go_wp2_with fail
    go_ret2
    exact ⟨rfl, ‹_›, HB.drew.trans ‹_›⟩

theorem read_nil : ReadS I C td dv lf sf pf .nil := by
  intro w b o h s n hh hb hT hI hn
  obtain ⟨k, c, x, l, A, m, cap⟩ := h
  obtain ⟨h1, h2⟩ := hT
  dsimp only at h1 h2
  obtain ⟨l0, l1, l2, l3, l4⟩ := hh
  dsimp only at l0 l1 l2 l3 l4
  simp only [Tm.told]
  have HB := Below.refl C w
  go_enter Tryd.func20, Tryd.ntmps20
  rcases h2 with ⟨h2, h3⟩ | h2
  · go_wp2_with fail
    go_ret2
    exact ⟨rfl, hI, HB⟩
  · by_cases k2 : k = 2
    · go_wp2_with fail
      go_ret2
      exact ⟨rfl, hI, HB⟩
    · by_cases k3 : k = 3
      · go_wp2_with fail
        go_ret2
        exact ⟨rfl, hI, HB⟩
      · go_wp2_with fail
        go_ret2
        exact ⟨rfl, hI, HB⟩

theorem kids_any {nm : String} {F : FuncId} {rr : Value} {cf : σ → Nat → Nat → Nat → σ} (hIJ : ∀ w s n, I w s n → J w) (hM : Meth Tryd.prog J td dv nm F rr)
    (hcf : ∀ w s x m t, I w s t → x ≤ m → m ≤ t → t ≤ 1048576 →
      Calls Tryd.prog F #[rr, .int .i64 (x : Nat), .int .i64 (m : Nat), .int .i64 (t : Nat)] w fun e w' => e = .returned (.tuple #[]) ∧ I w' (cf s x m t) t ∧ Below C w w')
    {L R : Tm} (hl : ReadS I C td dv lf sf pf L) (hr : ReadS I C td dv lf sf pf R) (w : World) (b o k cap : Nat) (hL hD : Hd) (s : σ) (n : Nat)
    (hhl : HdAt w b o hL) (hhr : HdAt w b (o + 5) hD) (hb : b < C) (hTl : TIn w C L hL) (hTr : TIn w C R hD) (hI : I w s n) (hn : n + (L.sz + R.sz) ≤ 1048576) (hk : 2 ≤ k) :
    Calls Tryd.prog 29 #[.slice (some ⟨b, o, none⟩) k cap, .int .i64 n, .iface td dv, .func (Fn.method nm) #[.iface td dv] #[]] w fun e w' =>
      ∃ y, y = both2 (L.told lf sf pf s n) (R.told lf sf pf) (fun s m t => cf s n m t) ∧ e = .returned (.tuple #[.int .i64 (y.2.1 : Nat), .bool y.2.2]) ∧ I w' y.1 y.2.1 ∧ Below C w w' := by
  have hm1 := L.told_le lf sf pf s n
  have c1 := hl w b o hL s n hhl hb hTl hI (by omega)
  rcases hx : L.told lf sf pf s n with ⟨s1, m, b1⟩
  rw [hx] at hm1 c1
  dsimp only at hm1 c1
  obtain ⟨hna, hme0, hen⟩ := hM
  have HME := Lib.hid hme0
  clear hme0
  have k0 : (0 : Int) < (k : Int) := by omega
  have k1 : (1 : Int) < (k : Int) := by omega
  cases b1 with
  | false =>
    have HC := Lib.hid c1
    clear c1 hl hr hcf hhl hhr hTl hTr
    go_enter Tryd.func29, Tryd.ntmps29
    go_wp2_with (first
      | (go_at_call 20; refine HC.out.mono ?_; rintro e w1 ⟨rfl, hI1, hB1⟩)
      | fail)
    go_ret2
    exact ⟨_, rfl, rfl, hI1, hB1⟩
  | true =>
    rcases hg : R.told lf sf pf s1 m with ⟨s2, t, b2⟩
    have hm2 := R.told_le lf sf pf s1 m
    rw [hg] at hm2
    dsimp only at hm2
    have c2 : ∀ w1, I w1 s1 m → Below C w w1 → _ := fun w1 hI1 hB1 => hr w1 b (o + 5) hD s1 m (hhr.below hB1 hb) hb (hTr.below hB1 (Nat.le_refl _)) hI1 (by omega)
    rw [hg] at c2
    dsimp only at c2
    have HC := Lib.hid c1
    have HC2 := Lib.hid c2
    have hc3 := fun w2 (h2 : I w2 s2 t) => hcf w2 s2 n m t h2 (by omega) (by omega) (by omega)
    have HC3 := Lib.hid hc3
    clear c1 c2 hl hr hcf hhl hhr hTl hTr hc3
    cases b2 with
    | false =>
      go_enter Tryd.func29, Tryd.ntmps29
      go_wp2_with (first
        | (go_at_call_of 20 (Value.pointer (some ⟨b, o, none⟩)); refine HC.out.mono ?_; rintro e w1 ⟨rfl, hI1, hB1⟩)
        | (go_at_call 20; refine (HC2.out _ hI1 hB1).mono ?_; rintro e w2 ⟨rfl, hI2, hB2⟩)
        | fail)
      go_ret2
      simp only [both2, hg]
      exact ⟨_, rfl, rfl, hI2, hB1.trans hB2⟩
    | true =>
      go_enter Tryd.func29, Tryd.ntmps29
      go_wp2_with (first
        | (go_at_call_of 20 (Value.pointer (some ⟨b, o, none⟩)); refine HC.out.mono ?_; rintro e w1 ⟨rfl, hI1, hB1⟩)
        | (go_at_call 20; refine (HC2.out _ hI1 hB1).mono ?_; rintro e w2 ⟨rfl, hI2, hB2⟩; have hme2 := fun k => HME.out k w2 (hIJ _ _ _ hI2))
        | (refine (HC3.out _ hI2).mono ?_; rintro e w3 ⟨rfl, hI3, hB3⟩)
        | fail)
      go_ret2
      simp only [both2, hg]
      exact ⟨_, rfl, rfl, hI3, (hB1.trans hB2).trans hB3⟩

theorem read_seq (hR : Rdr J I C td dv lf sf pf) {L R : Tm} (hl : ReadS I C td dv lf sf pf L) (hr : ReadS I C td dv lf sf pf R) : ReadS I C td dv lf sf pf (.seq L R) := by
  intro w b o h s n hh hb hT hI hn
  obtain ⟨k, c, x, l, A, m, cap⟩ := h
  obtain ⟨h1, h2, kb, ko, hL, hD, h3, h4, h5, h6, h7, h8⟩ := hT
  dsimp only at h1 h2 h3
  subst h1
  subst h3
  obtain ⟨l0, _, _, _, l4⟩ := hh
  dsimp only at l0 l4
  simp only [Tm.sz] at hn
  obtain ⟨F, rr, hM, hcf⟩ := hR.ser
  have hId := hR.drew w s n hI
  have hD0 := (Below.refl C w).drew
  have hc := kids_any hR.there hM hcf hl hr w.drew kb ko m cap hL hD s n (h5.below hD0 h4) (h6.below hD0 h4) h4 (h7.below hD0 (Nat.le_refl _)) (h8.below hD0 (Nat.le_refl _)) hId hn h2
  simp only [Tm.told]
  obtain ⟨y, hy⟩ : ∃ y, y = both2 (L.told lf sf pf s n) (R.told lf sf pf) (fun s m t => sf s n m t) := ⟨_, rfl⟩
  rw [← hy] at hc ⊢
  obtain ⟨hna, _, hen⟩ := hM
  have HC := Lib.hid hc
  clear hy hc hR hl hr hcf hn hI hId h5 h6 h7 h8
  go_enter Tryd.func20, Tryd.ntmps20
  go_wp2_with fail
  go_region_held3 (fun w' => w'.cell? ⟨b, o + 4, none⟩ = some (.slice (some ⟨kb, ko, none⟩) m cap))
    (first | assumption)
    (first
      | (go_at_call 29; refine HC.out.mono ?_; rintro e w5 ⟨_, rfl, rfl, hP5, hB5⟩; have q1 := (hB5.cell (p := ⟨b, o + 4, none⟩) hb).trans l4))
  all_goals
    go_wp2_with fail
    go_ret2
    exact ⟨rfl, hP5, hD0.trans hB5⟩

theorem read_par (hR : Rdr J I C td dv lf sf pf) {L R : Tm} (hl : ReadS I C td dv lf sf pf L) (hr : ReadS I C td dv lf sf pf R) : ReadS I C td dv lf sf pf (.par L R) := by
  intro w b o h s n hh hb hT hI hn
  obtain ⟨k, c, x, l, A, m, cap⟩ := h
  obtain ⟨h1, h2, kb, ko, hL, hD, h3, h4, h5, h6, h7, h8⟩ := hT
  dsimp only at h1 h2 h3
  subst h1
  subst h3
  obtain ⟨l0, _, _, _, l4⟩ := hh
  dsimp only at l0 l4
  simp only [Tm.sz] at hn
  obtain ⟨F, rr, hM, hcf⟩ := hR.par
  have hId := hR.drew w s n hI
  have hD0 := (Below.refl C w).drew
  have hc := kids_any hR.there hM hcf hl hr w.drew kb ko m cap hL hD s n (h5.below hD0 h4) (h6.below hD0 h4) h4 (h7.below hD0 (Nat.le_refl _)) (h8.below hD0 (Nat.le_refl _)) hId hn h2
  simp only [Tm.told]
  obtain ⟨y, hy⟩ : ∃ y, y = both2 (L.told lf sf pf s n) (R.told lf sf pf) (fun s m t => pf s n m t) := ⟨_, rfl⟩
  rw [← hy] at hc ⊢
  obtain ⟨hna, _, hen⟩ := hM
  have HC := Lib.hid hc
  clear hy hc hR hl hr hcf hn hI hId h5 h6 h7 h8
  go_enter Tryd.func20, Tryd.ntmps20
  go_wp2_with fail
  go_region_held3 (fun w' => w'.cell? ⟨b, o + 4, none⟩ = some (.slice (some ⟨kb, ko, none⟩) m cap))
    (first | assumption)
    (first
      | (go_at_call 29; refine HC.out.mono ?_; rintro e w5 ⟨_, rfl, rfl, hP5, hB5⟩; have q1 := (hB5.cell (p := ⟨b, o + 4, none⟩) hb).trans l4))
  all_goals
    go_wp2_with fail
    go_ret2
    exact ⟨rfl, hP5, hD0.trans hB5⟩

/-- sp.read, for any reader and any term -/
theorem read_any (hR : Rdr J I C td dv lf sf pf) (T : Tm) : ReadS I C td dv lf sf pf T := by
  induction T with
  | nil => exact read_nil
  | one a => exact read_one hR a
  | seq l r il ir => exact read_seq hR il ir
  | par l r il ir => exact read_par hR il ir

end
end Go.Proofs.YtidgibkiacbgfaaDoor
