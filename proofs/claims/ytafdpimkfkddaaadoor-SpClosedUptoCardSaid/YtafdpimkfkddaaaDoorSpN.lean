/-
  In how many ways two orders become one, odd parts and twos apart. Plain mathematics.
-/
import Derived.Test.YtafdpimkfkddaaaDoorSpT
import Derived.Shelf.Spec.TrailingZeros
namespace Go.Proofs.YtafdpimkfkddaaaDoor

/-- n + m over m -/
def ch : Nat → Nat → Nat
  | 0, _ => 1
  | _ + 1, 0 => 1
  | n + 1, m + 1 => ch n (m + 1) + ch (n + 1) m
theorem ch_one (m : Nat) : ch 0 m = 1 := by cases m <;> simp [ch]
theorem ch_zero (n : Nat) : ch n 0 = 1 := by cases n <;> simp [ch]
theorem ch_comm : ∀ n m, ch n m = ch m n
  | 0, m => by rw [ch_zero, ch_one]
  | n + 1, 0 => by rw [ch_zero, ch_one]
  | n + 1, m + 1 => by
    rw [ch, ch, ch_comm n (m + 1), ch_comm (n + 1) m, Nat.add_comm]
theorem ch_step : ∀ s n m, n + m ≤ s → (m + 1) * ch n (m + 1) = (n + m + 1) * ch n m := by
  intro s
  induction s with
  | zero =>
    intro n m h
    obtain rfl : n = 0 := by omega
    simp [ch_one]
  | succ s ih =>
    intro n m h
    cases n with
    | zero => simp [ch_one]
    | succ n =>
      have p := ih n m (by omega)
      have q := ih m n (by omega)
      rw [ch_comm m (n + 1), ch_comm m n] at q
      rw [ch, Nat.mul_add, p]
      have e : (n + 1 + m + 1) * ch (n + 1) m = (n + 1) * ch (n + 1) m + (m + 1) * ch (n + 1) m := by rw [← Nat.add_mul]; congr 1
      rw [e, q, Nat.add_comm m n]

/-- the place of the lowest one, and what is left above it -/
def tz (x : Nat) : Nat := Lib.ctz 64 x
def od (x : Nat) : Nat := x / 2 ^ tz x
theorem tz_spec (x : Nat) (h0 : 0 < x) (h : x < 2 ^ 64) : x = 2 ^ tz x * od x ∧ od x % 2 = 1 ∧ tz x < 64 := by
  obtain ⟨m, hm, hlt⟩ := Lib.ctzFrom_spec 64 x h0 h
  have e : tz x = Lib.ctzFrom 64 x := by unfold tz Lib.ctz; rw [if_neg (by omega)]
  have hp : 0 < 2 ^ tz x := Nat.two_pow_pos _
  have ho : od x = 2 * m + 1 := by
    unfold od
    rw [e] at hp ⊢
    exact Nat.div_eq_of_eq_mul_right hp hm
  refine ⟨by rw [ho, e]; exact hm, by rw [ho]; omega, by rw [e]; exact hlt⟩

/-- the product of the odd parts of n + 1, .., n + t; and the sum of their twos -/
def prA (n : Nat) : Nat → Nat
  | 0 => 1
  | t + 1 => prA n t * od (n + t + 1)
def suA (n : Nat) : Nat → Nat
  | 0 => 0
  | t + 1 => suA n t + tz (n + t + 1)
theorem prA_odd (n : Nat) : ∀ t, n + t < 2 ^ 64 → prA n t % 2 = 1
  | 0, _ => rfl
  | t + 1, h => by
    have h1 := prA_odd n t (by omega)
    have h2 := (tz_spec (n + t + 1) (by omega) (by omega)).2.1
    rw [prA, Nat.mul_mod, h1, h2]
theorem pr_ch (n : Nat) : ∀ t, n + t < 2 ^ 64 → prA n t * 2 ^ suA n t = prA 0 t * 2 ^ suA 0 t * ch n t
  | 0, _ => by simp [prA, suA, ch_zero]
  | t + 1, h => by
    have ih := pr_ch n t (by omega)
    obtain ⟨a1, _, _⟩ := tz_spec (n + t + 1) (by omega) (by omega)
    obtain ⟨b1, _, _⟩ := tz_spec (0 + t + 1) (by omega) (by omega)
    have st := ch_step (n + t) n t (Nat.le_refl _)
    have e1 : prA n (t + 1) * 2 ^ suA n (t + 1) = (prA n t * 2 ^ suA n t) * (2 ^ tz (n + t + 1) * od (n + t + 1)) := by
      rw [prA, suA, Nat.pow_add]
      generalize prA n t = p
      generalize od (n + t + 1) = q
      generalize 2 ^ suA n t = r
      generalize 2 ^ tz (n + t + 1) = s
      rw [Nat.mul_assoc p q, Nat.mul_comm q (r * s), Nat.mul_assoc r s q, Nat.mul_assoc p r]
    have e2 : prA 0 (t + 1) * 2 ^ suA 0 (t + 1) = (prA 0 t * 2 ^ suA 0 t) * (2 ^ tz (0 + t + 1) * od (0 + t + 1)) := by
      rw [prA, suA, Nat.pow_add]
      generalize prA 0 t = p
      generalize od (0 + t + 1) = q
      generalize 2 ^ suA 0 t = r
      generalize 2 ^ tz (0 + t + 1) = s
      rw [Nat.mul_assoc p q, Nat.mul_comm q (r * s), Nat.mul_assoc r s q, Nat.mul_assoc p r]
    rw [e1, e2, ← a1, ← b1, ih, Nat.zero_add]
    generalize prA 0 t * 2 ^ suA 0 t = p
    rw [Nat.mul_assoc p (t + 1), st, Nat.mul_assoc, Nat.mul_comm (ch n t)]
theorem suA_le (n t : Nat) (h : n + t < 2 ^ 64) : suA 0 t ≤ suA n t := by
  rcases Nat.lt_or_ge (suA n t) (suA 0 t) with hlt | hge
  · exfalso
    have e := pr_ch n t h
    have ho := prA_odd n t h
    obtain ⟨d, hd⟩ : ∃ d, suA 0 t = suA n t + (d + 1) := ⟨suA 0 t - suA n t - 1, by omega⟩
    rw [hd, Nat.pow_add, Nat.pow_succ] at e
    have hp : 0 < 2 ^ suA n t := Nat.two_pow_pos _
    generalize 2 ^ suA n t = P at *
    generalize prA n t = A at *
    generalize prA 0 t = B at *
    generalize ch n t = C at *
    have e2 : A * P = (B * (2 ^ d * C) * 2) * P := by
      rw [e]
      generalize 2 ^ d = D
      rw [Nat.mul_comm B (P * (D * 2)), Nat.mul_assoc P, Nat.mul_assoc P, Nat.mul_comm P]
      congr 1
      rw [Nat.mul_comm D 2, Nat.mul_assoc 2 D B, Nat.mul_assoc 2, Nat.mul_comm _ 2]
      congr 1
      rw [Nat.mul_comm D B, Nat.mul_assoc]
    have e3 : A = B * (2 ^ d * C) * 2 := Nat.eq_of_mul_eq_mul_right hp e2
    rw [e3] at ho
    omega
  · exact hge
/-- the odd parts and the twos tell the number -/
theorem pr_fin (n t : Nat) (h : n + t < 2 ^ 64) : prA n t * 2 ^ (suA n t - suA 0 t) = prA 0 t * ch n t := by
  have e := pr_ch n t h
  have hl := suA_le n t h
  obtain ⟨d, hd⟩ : ∃ d, suA n t = suA 0 t + d := ⟨suA n t - suA 0 t, by omega⟩
  rw [hd, Nat.pow_add] at e
  rw [hd, Nat.add_sub_cancel_left]
  have hp : 0 < 2 ^ suA 0 t := Nat.two_pow_pos _
  generalize 2 ^ suA 0 t = P at *
  generalize prA n t = A at *
  generalize prA 0 t = B at *
  generalize ch n t = C at *
  generalize 2 ^ d = D at *
  refine Nat.eq_of_mul_eq_mul_right hp ?_
  rw [Nat.mul_assoc A D, Nat.mul_comm D P, e, Nat.mul_assoc B P, Nat.mul_comm P C, Nat.mul_assoc]
theorem mod_fin {A B C e v M : Nat} (h : A * 2 ^ e = B * C) (hv : B * v % M = 1 % M) : (A * v % M) * 2 ^ e % M = C % M := by
  rw [Nat.mod_mul_mod, Nat.mul_assoc, Nat.mul_comm v, ← Nat.mul_assoc, h, Nat.mul_comm B C, Nat.mul_assoc, Nat.mul_mod, hv, ← Nat.mul_mod, Nat.mul_one]

/-- Newton's step -/
theorem newton {x v v' s P1 P2 M : Int} (h : P1 ∣ x * v - 1) (h2 : P2 ∣ P1 * P1) (hM : P2 ∣ M) (hv : v' = v * (2 - x * v) + M * s) : P2 ∣ x * v' - 1 := by
  obtain ⟨q, hq⟩ := h
  have e : x * v = 1 + P1 * q := by omega
  have e2 : x * v' - 1 = M * (x * s) - P1 * P1 * (q * q) := by
    rw [hv, Int.mul_add, ← Int.mul_assoc x v, e]
    have e3 : (1 + P1 * q) * (2 - (1 + P1 * q)) = 1 - (P1 * q) * (P1 * q) := by
      generalize P1 * q = z
      rw [show (2 : Int) - (1 + z) = 1 - z by omega, Int.add_mul, Int.one_mul, Int.mul_sub, Int.mul_one]
      omega
    rw [e3, Int.mul_left_comm x M s]
    have e4 : P1 * q * (P1 * q) = P1 * P1 * (q * q) := by
      rw [Int.mul_assoc P1 q, Int.mul_left_comm q P1 q, ← Int.mul_assoc P1 P1]
    rw [e4]
    omega
  rw [e2]
  exact Int.dvd_sub (Int.dvd_trans hM (Int.dvd_mul_right _ _)) (Int.dvd_trans h2 (Int.dvd_mul_right _ _))
theorem newton_mod (x v M : Int) : ∃ s, (v * ((2 - (x * v) % M) % M)) % M = v * (2 - x * v) + M * s := by
  refine ⟨v * (x * v / M - (2 - (x * v) % M) / M) - (v * ((2 - (x * v) % M) % M)) / M, ?_⟩
  have h1 := Int.emod_def (x * v) M
  have h2 := Int.emod_def (2 - (x * v) % M) M
  have h3 := Int.emod_def (v * ((2 - (x * v) % M) % M)) M
  rw [h3]
  generalize (v * ((2 - (x * v) % M) % M)) / M = c
  rw [h2]
  generalize (2 - (x * v) % M) / M = b
  rw [h1]
  generalize x * v / M = a
  generalize x * v = y
  rw [Int.mul_sub M, Int.mul_left_comm M v, Int.mul_sub M, show 2 - (y - M * a) - M * b = (2 - y) + (M * a - M * b) by omega, Int.mul_add]
  omega
theorem two_dvd {a b : Nat} (h : a ≤ b) : (2 : Int) ^ a ∣ (2 : Int) ^ b := ⟨(2 : Int) ^ (b - a), by rw [← Int.pow_add, Nat.add_sub_cancel' h]⟩
/-- how many places are right behind k rounds -/
def ek (k : Nat) : Nat := min (3 * 2 ^ k) 64
theorem ek_step (k : Nat) : ((2 : Int) ^ ek (k + 1)) ∣ (2 : Int) ^ ek k * (2 : Int) ^ ek k ∧ ((2 : Int) ^ ek (k + 1)) ∣ 18446744073709551616 := by
  have h64 : (18446744073709551616 : Int) = 2 ^ 64 := by decide
  refine ⟨?_, ?_⟩
  · rw [← Int.pow_add]
    refine two_dvd ?_
    unfold ek
    rw [Nat.pow_succ]
    omega
  · rw [h64]
    refine two_dvd ?_
    unfold ek
    omega
theorem odd_start (x : Nat) (h : x % 2 = 1) : ((2 : Int) ^ ek 0) ∣ (x : Int) * x - 1 := by
  obtain ⟨q, rfl⟩ : ∃ q, x = 2 * q + 1 := ⟨x / 2, by omega⟩
  have e : (2 : Int) ^ ek 0 = 8 := by decide
  rw [e]
  have e2 : ((2 * q + 1 : Nat) : Int) * ((2 * q + 1 : Nat) : Int) - 1 = 4 * ((q * (q + 1) : Nat) : Int) := by
    simp only [Int.natCast_add, Int.natCast_mul, Int.mul_add, Int.add_mul]
    have : (q : Int) * ((1 : Nat) : Int) = q := by simp
    generalize hz : (q : Int) * q = z
    have h1 : ((2 : Nat) : Int) * q * (((2 : Nat) : Int) * q) = 4 * z := by rw [← hz, Int.mul_assoc, Int.mul_left_comm (q : Int), ← Int.mul_assoc]; rfl
    rw [h1]
    simp
    omega
  rw [e2]
  have h2 : (q * (q + 1)) % 2 = 0 := by
    rw [Nat.mul_mod]
    rcases Nat.mod_two_eq_zero_or_one q with h | h <;> simp [Nat.add_mod, h]
  omega
theorem inv_end {x v : Int} (k : Nat) (hk : 5 ≤ k) (h : ((2 : Int) ^ ek k) ∣ x * v - 1) : (x * v) % 18446744073709551616 = 1 := by
  have e : ek k = 64 := by
    unfold ek
    have : 2 ^ 5 ≤ 2 ^ k := Nat.pow_le_pow_right (by omega) hk
    omega
  rw [e] at h
  have h64 : (2 : Int) ^ 64 = 18446744073709551616 := by decide
  rw [h64] at h
  omega
end Go.Proofs.YtafdpimkfkddaaaDoor
