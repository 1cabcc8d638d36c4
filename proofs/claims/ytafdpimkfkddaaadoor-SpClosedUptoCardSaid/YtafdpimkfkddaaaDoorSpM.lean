/-
  The marker's shifts: their sums tell the second numbering. Plain mathematics.
-/
import Derived.Test.YtafdpimkfkddaaaDoorSpR
namespace Go.Proofs.YtafdpimkfkddaaaDoor
open Go.RowKit

def z0 (Z : List Int) (k : Nat) : Int := Z.getD k 0
/-- the sum of the first k -/
def ps (Z : List Int) : Nat → Int
  | 0 => 0
  | k + 1 => ps Z k + z0 Z k
theorem z0_set (Z : List Int) (i k : Nat) (v : Int) (hi : i < Z.length) : z0 (Z.set i v) k = if k = i then v else z0 Z k := by
  unfold z0
  simp only [List.getD, List.getElem?_set]
  split
  · rename_i h; subst h; simp
  · rename_i h
    rw [if_neg (fun e => h e.symm)]
theorem z0_app (Z : List Int) (v : Int) (k : Nat) (hk : k < Z.length) : z0 (Z ++ [v]) k = z0 Z k := by
  unfold z0
  simp [List.getD, List.getElem?_append_left hk]
theorem z0_new (Z : List Int) (v : Int) : z0 (Z ++ [v]) Z.length = v := by simp [z0, List.getD]
theorem ps_congr {Z Z' : List Int} (K : Nat) (h : ∀ k, k < K → z0 Z' k = z0 Z k) : ps Z' K = ps Z K := by
  induction K with
  | zero => rfl
  | succ K ih => simp only [ps]; rw [ih fun k hk => h k (by omega), h K (by omega)]
theorem ps_set (Z : List Int) (i : Nat) (v : Int) (hi : i < Z.length) (K : Nat) : ps (Z.set i v) K = ps Z K + if i < K then v - z0 Z i else 0 := by
  induction K with
  | zero => simp [ps]
  | succ K ih =>
    simp only [ps, ih, z0_set _ _ _ _ hi]
    by_cases h1 : i < K
    · rw [if_pos h1, if_neg (by omega), if_pos (by omega)]; omega
    · by_cases h2 : K = i
      · subst h2; rw [if_neg h1, if_pos rfl, if_pos (by omega)]; omega
      · rw [if_neg h1, if_neg h2, if_neg (by omega)]; omega

/-- equal but for multiples of 2^64 -/
def Cg (a b : Int) : Prop := (a - b) % 18446744073709551616 = 0
theorem Cg.refl (a : Int) : Cg a a := by simp [Cg]
theorem cg_wrap (a : Int) : Cg (IntKind.i64.wrap a) a := by
  rw [IntKind.wrap_i64]
  unfold Cg
  omega
theorem cg_exact {a b : Int} (h : Cg a b) (h0 : 0 ≤ b) (h1 : b < 9223372036854775808) : IntKind.i64.wrap a = b := by
  rw [IntKind.wrap_i64]
  unfold Cg at h
  omega

/-- what a parallel tells the marker -/
def mkP (Z : List Int) (f m t : Nat) : List Int :=
  let Z1 := Z.set f (IntKind.i64.wrap (z0 Z f + ((t : Int) - m)))
  let Z2 := Z1.set m (IntKind.i64.wrap (z0 Z1 m - ((t : Int) - f)))
  Z2.set t (IntKind.i64.wrap (z0 Z2 t + ((m : Int) - f)))
theorem mkP_len (Z : List Int) (f m t : Nat) : (mkP Z f m t).length = Z.length := by simp [mkP]

theorem mkP_low (Z : List Int) (f m t k : Nat) (hf : f ≤ m) (hm : m ≤ t) (ht : t < Z.length) (hk : k < f) : z0 (mkP Z f m t) k = z0 Z k := by
  unfold mkP
  dsimp only
  rw [z0_set _ _ _ _ (by simp; omega), if_neg (by omega), z0_set _ _ _ _ (by simp; omega), if_neg (by omega), z0_set _ _ _ _ (by omega), if_neg (by omega)]
theorem mkP_ps (Z : List Int) (f m t K : Nat) (hf : f ≤ m) (hm : m ≤ t) (ht : t < Z.length) :
    Cg (ps (mkP Z f m t) K) (ps Z K + (if f < K then (t : Int) - m else 0) - (if m < K then (t : Int) - f else 0) + (if t < K then (m : Int) - f else 0)) := by
  unfold mkP
  dsimp only
  rw [ps_set _ _ _ (by simp; omega), ps_set _ _ _ (by simp; omega), ps_set _ _ _ (by omega)]
  have h1 := cg_wrap (z0 Z f + ((t : Int) - m))
  generalize IntKind.i64.wrap (z0 Z f + ((t : Int) - m)) = w1 at *
  have h2 := cg_wrap (z0 (Z.set f w1) m - ((t : Int) - f))
  generalize IntKind.i64.wrap (z0 (Z.set f w1) m - ((t : Int) - f)) = w2 at *
  have h3 := cg_wrap (z0 ((Z.set f w1).set m w2) t + ((m : Int) - f))
  generalize IntKind.i64.wrap (z0 ((Z.set f w1).set m w2) t + ((m : Int) - f)) = w3 at *
  unfold Cg at *
  generalize z0 ((Z.set f w1).set m w2) t = x3 at *
  generalize z0 (Z.set f w1) m = x2 at *
  split <;> split <;> split <;> omega

/-- what the marker holds behind a term: below it all is as it was -/
structure Marked (T : Tm) (Z Z' : List Int) (f : Nat) : Prop where
  len : Z'.length = f + T.sz + 1
  low : ∀ k, k < f → z0 Z' k = z0 Z k
  mid : ∀ k, f ≤ k → k < f + T.sz → Cg (ps Z' (k + 1)) (ps Z (f + 1) + T.pos ((k : Int) - f) - ((k : Int) - f))
  all : Cg (ps Z' (f + T.sz + 1)) (ps Z (f + 1))

/-- the marker's told -/
def markT (T : Tm) (Z : List Int) (f : Nat) : List Int × Nat × Bool := T.told (fun Z _ _ => (Z ++ [0], true)) (fun Z _ _ _ => Z) mkP Z f

theorem markT_ok (T : Tm) : ∀ (Z : List Int) (f : Nat), Z.length = f + 1 → ∃ Z', markT T Z f = (Z', f + T.sz, true) ∧ Marked T Z Z' f := by
  induction T with
  | nil =>
    intro Z f hl
    exact ⟨Z, rfl, ⟨by simp [Tm.sz, hl], fun _ _ => rfl, fun k h1 h2 => by simp only [Tm.sz] at h2; omega, Cg.refl _⟩⟩
  | one a =>
    intro Z f hl
    refine ⟨Z ++ [0], rfl, ⟨by simp [Tm.sz, hl], fun k hk => z0_app Z 0 k (by omega), fun k h1 h2 => ?_, ?_⟩⟩
    · simp only [Tm.sz] at h2
      obtain rfl : k = f := by omega
      rw [ps_congr (Z := Z) (k + 1) fun j hj => z0_app Z 0 j (by omega)]
      simp only [Tm.pos]
      unfold Cg; omega
    · simp only [Tm.sz, ps]
      rw [show z0 (Z ++ [0]) (f + 1) = 0 by rw [← hl]; exact z0_new Z 0, ps_congr (Z := Z) f fun j hj => z0_app Z 0 j (by omega), z0_app Z 0 f (by omega)]
      unfold Cg; omega
  | seq l r il ir =>
    intro Z f hl
    obtain ⟨Z1, e1, m1⟩ := il Z f hl
    obtain ⟨Z2, e2, m2⟩ := ir Z1 (f + l.sz) m1.len
    unfold markT at e1 e2 ⊢
    refine ⟨Z2, by simp only [Tm.told, e1, both2, e2, Tm.sz]; rw [Nat.add_assoc], ⟨by rw [m2.len]; simp only [Tm.sz]; omega, fun k hk => (m2.low k (by omega)).trans (m1.low k hk), fun k h1 h2 => ?_, ?_⟩⟩
    · simp only [Tm.sz] at h2
      by_cases hk : k < f + l.sz
      · rw [ps_congr (Z := Z1) (k + 1) fun j hj => m2.low j (by omega), Tm.seq_pos_l l r (by omega)]
        exact m1.mid k h1 hk
      · have h3 := m2.mid k (by omega) (by omega)
        have h4 := m1.all
        rw [Tm.seq_pos_r l r (by omega), show (k : Int) - f - l.sz = (k : Int) - ((f + l.sz : Nat) : Int) by omega]
        unfold Cg at *
        generalize r.pos ((k : Int) - ((f + l.sz : Nat) : Int)) = x at *
        omega
    · have h3 := m2.all
      have h4 := m1.all
      simp only [Tm.sz]
      rw [← Nat.add_assoc f]
      unfold Cg at *
      omega
  | par l r il ir =>
    intro Z f hl
    obtain ⟨Z1, e1, m1⟩ := il Z f hl
    obtain ⟨Z2, e2, m2⟩ := ir Z1 (f + l.sz) m1.len
    have hlen2 := m2.len
    have hp := fun K => mkP_ps Z2 f (f + l.sz) (f + l.sz + r.sz) K (by omega) (by omega) (by omega)
    unfold markT at e1 e2 ⊢
    refine ⟨mkP Z2 f (f + l.sz) (f + l.sz + r.sz), by simp only [Tm.told, e1, both2, e2, Tm.sz]; rw [Nat.add_assoc], ⟨by rw [mkP_len, m2.len]; simp only [Tm.sz]; omega, fun k hk => ?_, fun k h1 h2 => ?_, ?_⟩⟩
    · rw [mkP_low _ _ _ _ _ (by omega) (by omega) (by omega) hk]
      exact (m2.low k (by omega)).trans (m1.low k hk)
    · simp only [Tm.sz] at h2
      have h5 := hp (k + 1)
      by_cases hk : k < f + l.sz
      · have h3 := m1.mid k h1 hk
        rw [if_pos (by omega), if_neg (by omega), if_neg (by omega), ps_congr (Z := Z1) (k + 1) fun j hj => m2.low j (by omega)] at h5
        rw [Tm.par_pos_l l r (by omega)]
        unfold Cg at *
        generalize l.pos ((k : Int) - f) = x at *
        omega
      · have h3 := m2.mid k (by omega) (by omega)
        have h4 := m1.all
        rw [if_pos (by omega), if_pos (by omega), if_neg (by omega)] at h5
        rw [Tm.par_pos_r l r (by omega), show (k : Int) - f - l.sz = (k : Int) - ((f + l.sz : Nat) : Int) by omega]
        unfold Cg at *
        generalize r.pos ((k : Int) - ((f + l.sz : Nat) : Int)) = x at *
        omega
    · have h3 := m2.all
      have h4 := m1.all
      have h5 := hp (f + l.sz + r.sz + 1)
      rw [if_pos (by omega), if_pos (by omega), if_pos (by omega)] at h5
      simp only [Tm.sz]
      rw [← Nat.add_assoc f]
      unfold Cg at *
      omega

/-- the place of leaf k, out of the shifts -/
theorem mark_pos (T : Tm) (Z' : List Int) (h : Marked T [0] Z' 0) (k : Nat) (hk : k < T.sz) (hs : T.sz ≤ 1048576) (x : Int) (hx : Cg x (ps Z' (k + 1))) : IntKind.i64.wrap ((k : Int) + x) = T.pos k := by
  have h1 := h.mid k (Nat.zero_le _) (by omega)
  have h2 := T.pos_lt k (by omega) (by omega)
  refine cg_exact ?_ h2.1 (by omega)
  rw [show (k : Int) - ((0 : Nat) : Int) = k by omega] at h1
  have h3 : ps [0] (0 + 1) = 0 := rfl
  rw [h3] at h1
  unfold Cg at *
  omega
end Go.Proofs.YtafdpimkfkddaaaDoor
