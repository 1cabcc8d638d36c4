/-
  The sum by halves that math/bits.OnesCount64 makes is the number of ones, for every word below 2^64. Plain mathematics.
-/
import Derived.NoCompiler
namespace Go.Proofs.YtfekcbkafiiieaaDoor

/-- the number of ones among the n lowest bits -/
def cnt : Nat → Nat → Nat
  | 0, _ => 0
  | n + 1, x => x % 2 + cnt n (x / 2)

theorem cnt_zero (n : Nat) : cnt n 0 = 0 := by
  induction n with
  | zero => rfl
  | succ n ih => simp [cnt, ih]
theorem cnt_le (n x : Nat) : cnt n x ≤ n := by
  induction n generalizing x with
  | zero => simp [cnt]
  | succ n ih => have := ih (x / 2); simp only [cnt]; omega
theorem cnt_8 (n b y : Nat) (hb : b < 256) : cnt (n + 8) (b + 256 * y) = cnt 8 b + cnt n y := by
  have e : (b + 256 * y) / 2 / 2 / 2 / 2 / 2 / 2 / 2 / 2 = y := by omega
  simp only [cnt, e]
  omega

theorem and_split (a c y d : Nat) (ha : a < 256) (hc : c < 256) : (a + 256 * y) &&& (c + 256 * d) = (a &&& c) + 256 * (y &&& d) := by
  have hac : a &&& c < 2 ^ 8 := Nat.and_lt_two_pow _ (by omega)
  apply Nat.eq_of_testBit_eq
  intro i
  have e1 : a + 256 * y = 2 ^ 8 * y + a := by omega
  have e2 : c + 256 * d = 2 ^ 8 * d + c := by omega
  have e3 : (a &&& c) + 256 * (y &&& d) = 2 ^ 8 * (y &&& d) + (a &&& c) := by omega
  rw [Nat.testBit_and, e1, e2, e3, Nat.testBit_two_pow_mul_add _ (by omega), Nat.testBit_two_pow_mul_add _ (by omega), Nat.testBit_two_pow_mul_add _ hac]
  by_cases h : i < 8 <;> simp [h, Nat.testBit_and]

/-- a word out of eight bytes -/
def by8 (b0 b1 b2 b3 b4 b5 b6 b7 : Nat) : Nat := b0 + 256 * (b1 + 256 * (b2 + 256 * (b3 + 256 * (b4 + 256 * (b5 + 256 * (b6 + 256 * b7))))))

theorem and_by8 {a0 a1 a2 a3 a4 a5 a6 a7 m : Nat} (h0 : a0 < 256) (h1 : a1 < 256) (h2 : a2 < 256) (h3 : a3 < 256) (h4 : a4 < 256) (h5 : a5 < 256) (h6 : a6 < 256) (hm : m < 256) :
    by8 a0 a1 a2 a3 a4 a5 a6 a7 &&& by8 m m m m m m m m = by8 (a0 &&& m) (a1 &&& m) (a2 &&& m) (a3 &&& m) (a4 &&& m) (a5 &&& m) (a6 &&& m) (a7 &&& m) := by
  unfold by8
  rw [and_split _ _ _ _ h0 hm, and_split _ _ _ _ h1 hm, and_split _ _ _ _ h2 hm, and_split _ _ _ _ h3 hm, and_split _ _ _ _ h4 hm, and_split _ _ _ _ h5 hm, and_split _ _ _ _ h6 hm]

theorem m55 : (6148914691236517205 : Nat) = by8 85 85 85 85 85 85 85 85 := rfl
theorem m33 : (3689348814741910323 : Nat) = by8 51 51 51 51 51 51 51 51 := rfl
theorem m0f : (1085102592571150095 : Nat) = by8 15 15 15 15 15 15 15 15 := rfl

def f1 (b : Nat) : Nat := (b / 2 &&& 85) + (b &&& 85)
def f2 (u : Nat) : Nat := (u / 4 &&& 51) + (u &&& 51)
def f3 (v : Nat) : Nat := (v / 16 + v) &&& 15
theorem f1_lt (b : Nat) (h : b < 256) : f1 b ≤ 170 := by revert b; decide +kernel
theorem f2_lt (b : Nat) (h : b < 171) : f2 b ≤ 102 := by revert b; decide +kernel
theorem f3_pop (b : Nat) (h : b < 256) : f3 (f2 (f1 b)) = cnt 8 b := by revert b; decide +kernel
theorem k1 (b : Nat) (h : b < 256) : ∀ c, c < 2 → (b / 2 + 128 * c) &&& 85 = b / 2 &&& 85 := by revert b; decide +kernel
theorem k2 (b : Nat) (h : b < 256) : ∀ c, c < 4 → (b / 4 + 64 * c) &&& 51 = b / 4 &&& 51 := by revert b; decide +kernel
theorem k3 (b : Nat) (h : b < 103) : ∀ c, c < 16 → (b / 16 + 16 * c + b) &&& 15 = f3 b := by revert b; decide +kernel
theorem k3n (b : Nat) (h : b < 256) : f2 (f1 b) % 16 ≤ 4 ∧ f2 (f1 b) / 16 ≤ 4 := by revert b; decide +kernel

/-- the steps of the sum -/
def sA (x : Nat) : Nat := x / 2 &&& 6148914691236517205
def sB (x : Nat) : Nat := x &&& 6148914691236517205
def s1 (x : Nat) : Nat := sA x + sB x
def sC (x : Nat) : Nat := s1 x / 4 &&& 3689348814741910323
def sD (x : Nat) : Nat := s1 x &&& 3689348814741910323
def s2 (x : Nat) : Nat := sC x + sD x
def sT (x : Nat) : Nat := s2 x / 16 + s2 x
def s3 (x : Nat) : Nat := sT x &&& 1085102592571150095
def s4 (x : Nat) : Nat := s3 x + s3 x / 256
def s5 (x : Nat) : Nat := s4 x + s4 x / 65536
def s6 (x : Nat) : Nat := s5 x + s5 x / 4294967296

section
variable {b0 b1 b2 b3 b4 b5 b6 b7 : Nat}
theorem s1_by8 (h0 : b0 < 256) (h1 : b1 < 256) (h2 : b2 < 256) (h3 : b3 < 256) (h4 : b4 < 256) (h5 : b5 < 256) (h6 : b6 < 256) (_h7 : b7 < 256) :
    s1 (by8 b0 b1 b2 b3 b4 b5 b6 b7) = by8 (f1 b0) (f1 b1) (f1 b2) (f1 b3) (f1 b4) (f1 b5) (f1 b6) (f1 b7) := by
  have e : by8 b0 b1 b2 b3 b4 b5 b6 b7 / 2 = by8 (b0 / 2 + 128 * (b1 % 2)) (b1 / 2 + 128 * (b2 % 2)) (b2 / 2 + 128 * (b3 % 2)) (b3 / 2 + 128 * (b4 % 2)) (b4 / 2 + 128 * (b5 % 2)) (b5 / 2 + 128 * (b6 % 2)) (b6 / 2 + 128 * (b7 % 2)) (b7 / 2) := by
    unfold by8; omega
  unfold s1 sA sB
  rw [e, m55, and_by8 (by omega) (by omega) (by omega) (by omega) (by omega) (by omega) (by omega) (by omega), and_by8 h0 h1 h2 h3 h4 h5 h6 (by omega)]
  rw [k1 b0 h0 _ (by omega), k1 b1 h1 _ (by omega), k1 b2 h2 _ (by omega), k1 b3 h3 _ (by omega), k1 b4 h4 _ (by omega), k1 b5 h5 _ (by omega), k1 b6 h6 _ (by omega)]
  unfold by8 f1
  omega
theorem s2_by8 (h0 : b0 < 256) (h1 : b1 < 256) (h2 : b2 < 256) (h3 : b3 < 256) (h4 : b4 < 256) (h5 : b5 < 256) (h6 : b6 < 256) (h7 : b7 < 256) :
    s2 (by8 b0 b1 b2 b3 b4 b5 b6 b7) = by8 (f2 (f1 b0)) (f2 (f1 b1)) (f2 (f1 b2)) (f2 (f1 b3)) (f2 (f1 b4)) (f2 (f1 b5)) (f2 (f1 b6)) (f2 (f1 b7)) := by
  unfold s2 sC sD
  rw [s1_by8 h0 h1 h2 h3 h4 h5 h6 h7]
  have g0 := f1_lt b0 h0
  have g1 := f1_lt b1 h1
  have g2 := f1_lt b2 h2
  have g3 := f1_lt b3 h3
  have g4 := f1_lt b4 h4
  have g5 := f1_lt b5 h5
  have g6 := f1_lt b6 h6
  have g7 := f1_lt b7 h7
  generalize f1 b0 = c0 at *
  generalize f1 b1 = c1 at *
  generalize f1 b2 = c2 at *
  generalize f1 b3 = c3 at *
  generalize f1 b4 = c4 at *
  generalize f1 b5 = c5 at *
  generalize f1 b6 = c6 at *
  generalize f1 b7 = c7 at *
  have e : by8 c0 c1 c2 c3 c4 c5 c6 c7 / 4 = by8 (c0 / 4 + 64 * (c1 % 4)) (c1 / 4 + 64 * (c2 % 4)) (c2 / 4 + 64 * (c3 % 4)) (c3 / 4 + 64 * (c4 % 4)) (c4 / 4 + 64 * (c5 % 4)) (c5 / 4 + 64 * (c6 % 4)) (c6 / 4 + 64 * (c7 % 4)) (c7 / 4) := by
    unfold by8; omega
  rw [e, m33, and_by8 (by omega) (by omega) (by omega) (by omega) (by omega) (by omega) (by omega) (by omega), and_by8 (by omega) (by omega) (by omega) (by omega) (by omega) (by omega) (by omega) (by omega)]
  rw [k2 c0 (by omega) _ (by omega), k2 c1 (by omega) _ (by omega), k2 c2 (by omega) _ (by omega), k2 c3 (by omega) _ (by omega), k2 c4 (by omega) _ (by omega), k2 c5 (by omega) _ (by omega), k2 c6 (by omega) _ (by omega)]
  unfold by8 f2
  omega
theorem s3_by8 (h0 : b0 < 256) (h1 : b1 < 256) (h2 : b2 < 256) (h3 : b3 < 256) (h4 : b4 < 256) (h5 : b5 < 256) (h6 : b6 < 256) (h7 : b7 < 256) :
    s3 (by8 b0 b1 b2 b3 b4 b5 b6 b7) = by8 (cnt 8 b0) (cnt 8 b1) (cnt 8 b2) (cnt 8 b3) (cnt 8 b4) (cnt 8 b5) (cnt 8 b6) (cnt 8 b7) := by
  rw [← f3_pop b0 h0, ← f3_pop b1 h1, ← f3_pop b2 h2, ← f3_pop b3 h3, ← f3_pop b4 h4, ← f3_pop b5 h5, ← f3_pop b6 h6, ← f3_pop b7 h7]
  unfold s3 sT
  rw [s2_by8 h0 h1 h2 h3 h4 h5 h6 h7]
  have g0 := k3n b0 h0
  have g1 := k3n b1 h1
  have g2 := k3n b2 h2
  have g3 := k3n b3 h3
  have g4 := k3n b4 h4
  have g5 := k3n b5 h5
  have g6 := k3n b6 h6
  have g7 := k3n b7 h7
  generalize f2 (f1 b0) = c0 at *
  generalize f2 (f1 b1) = c1 at *
  generalize f2 (f1 b2) = c2 at *
  generalize f2 (f1 b3) = c3 at *
  generalize f2 (f1 b4) = c4 at *
  generalize f2 (f1 b5) = c5 at *
  generalize f2 (f1 b6) = c6 at *
  generalize f2 (f1 b7) = c7 at *
  have e : by8 c0 c1 c2 c3 c4 c5 c6 c7 / 16 + by8 c0 c1 c2 c3 c4 c5 c6 c7 = by8 (c0 / 16 + 16 * (c1 % 16) + c0) (c1 / 16 + 16 * (c2 % 16) + c1) (c2 / 16 + 16 * (c3 % 16) + c2) (c3 / 16 + 16 * (c4 % 16) + c3) (c4 / 16 + 16 * (c5 % 16) + c4) (c5 / 16 + 16 * (c6 % 16) + c5) (c6 / 16 + 16 * (c7 % 16) + c6) (c7 / 16 + 16 * 0 + c7) := by
    unfold by8; omega
  rw [e, m0f, and_by8 (by omega) (by omega) (by omega) (by omega) (by omega) (by omega) (by omega) (by omega)]
  rw [k3 c0 (by omega) _ (by omega), k3 c1 (by omega) _ (by omega), k3 c2 (by omega) _ (by omega), k3 c3 (by omega) _ (by omega), k3 c4 (by omega) _ (by omega), k3 c5 (by omega) _ (by omega), k3 c6 (by omega) _ (by omega), k3 c7 (by omega) _ (by omega)]
theorem s6_by8 (h0 : b0 < 256) (h1 : b1 < 256) (h2 : b2 < 256) (h3 : b3 < 256) (h4 : b4 < 256) (h5 : b5 < 256) (h6 : b6 < 256) (h7 : b7 < 256) :
    s6 (by8 b0 b1 b2 b3 b4 b5 b6 b7) % 128 = cnt 64 (by8 b0 b1 b2 b3 b4 b5 b6 b7) ∧ s6 (by8 b0 b1 b2 b3 b4 b5 b6 b7) < 9223372036854775808 ∧ s5 (by8 b0 b1 b2 b3 b4 b5 b6 b7) < 9223372036854775808 ∧ s4 (by8 b0 b1 b2 b3 b4 b5 b6 b7) < 9223372036854775808 := by
  have e : cnt 64 (by8 b0 b1 b2 b3 b4 b5 b6 b7) = cnt 8 b0 + (cnt 8 b1 + (cnt 8 b2 + (cnt 8 b3 + (cnt 8 b4 + (cnt 8 b5 + (cnt 8 b6 + cnt 8 b7)))))) := by
    unfold by8
    rw [cnt_8 56 _ _ h0, cnt_8 48 _ _ h1, cnt_8 40 _ _ h2, cnt_8 32 _ _ h3, cnt_8 24 _ _ h4, cnt_8 16 _ _ h5, cnt_8 8 _ _ h6]
  rw [e]
  unfold s6 s5 s4
  rw [s3_by8 h0 h1 h2 h3 h4 h5 h6 h7]
  have g0 := cnt_le 8 b0
  have g1 := cnt_le 8 b1
  have g2 := cnt_le 8 b2
  have g3 := cnt_le 8 b3
  have g4 := cnt_le 8 b4
  have g5 := cnt_le 8 b5
  have g6 := cnt_le 8 b6
  have g7 := cnt_le 8 b7
  generalize cnt 8 b0 = c0 at *
  generalize cnt 8 b1 = c1 at *
  generalize cnt 8 b2 = c2 at *
  generalize cnt 8 b3 = c3 at *
  generalize cnt 8 b4 = c4 at *
  generalize cnt 8 b5 = c5 at *
  generalize cnt 8 b6 = c6 at *
  generalize cnt 8 b7 = c7 at *
  clear e h0 h1 h2 h3 h4 h5 h6 h7
  have q1 : by8 c0 c1 c2 c3 c4 c5 c6 c7 / 256 = c1 + 256 * (c2 + 256 * (c3 + 256 * (c4 + 256 * (c5 + 256 * (c6 + 256 * c7))))) := by unfold by8; omega
  have q2 : by8 c0 c1 c2 c3 c4 c5 c6 c7 + by8 c0 c1 c2 c3 c4 c5 c6 c7 / 256 = by8 (c0 + c1) (c1 + c2) (c2 + c3) (c3 + c4) (c4 + c5) (c5 + c6) (c6 + c7) c7 := by rw [q1]; unfold by8; omega
  have q3 : by8 (c0 + c1) (c1 + c2) (c2 + c3) (c3 + c4) (c4 + c5) (c5 + c6) (c6 + c7) c7 / 65536 = (c2 + c3) + 256 * ((c3 + c4) + 256 * ((c4 + c5) + 256 * ((c5 + c6) + 256 * ((c6 + c7) + 256 * c7)))) := by unfold by8; omega
  have q4 : by8 (c0 + c1) (c1 + c2) (c2 + c3) (c3 + c4) (c4 + c5) (c5 + c6) (c6 + c7) c7 + by8 (c0 + c1) (c1 + c2) (c2 + c3) (c3 + c4) (c4 + c5) (c5 + c6) (c6 + c7) c7 / 65536 = by8 (c0 + c1 + c2 + c3) (c1 + c2 + c3 + c4) (c2 + c3 + c4 + c5) (c3 + c4 + c5 + c6) (c4 + c5 + c6 + c7) (c5 + c6 + c7) (c6 + c7) c7 := by rw [q3]; unfold by8; omega
  have q5 : by8 (c0 + c1 + c2 + c3) (c1 + c2 + c3 + c4) (c2 + c3 + c4 + c5) (c3 + c4 + c5 + c6) (c4 + c5 + c6 + c7) (c5 + c6 + c7) (c6 + c7) c7 / 4294967296 = (c4 + c5 + c6 + c7) + 256 * ((c5 + c6 + c7) + 256 * ((c6 + c7) + 256 * c7)) := by unfold by8; omega
  rw [q2, q4, q5]
  clear q1 q2 q3 q4 q5
  unfold by8
  refine ⟨?_, ?_, ?_, ?_⟩
  · have e : c0 + c1 + c2 + c3 + 256 * (c1 + c2 + c3 + c4 + 256 * (c2 + c3 + c4 + c5 + 256 * (c3 + c4 + c5 + c6 + 256 * (c4 + c5 + c6 + c7 + 256 * (c5 + c6 + c7 + 256 * (c6 + c7 + 256 * c7)))))) + (c4 + c5 + c6 + c7 + 256 * (c5 + c6 + c7 + 256 * (c6 + c7 + 256 * c7))) =
      (c0 + (c1 + (c2 + (c3 + (c4 + (c5 + (c6 + c7))))))) + 128 * (2 * (c1 + c2 + c3 + c4 + 256 * (c2 + c3 + c4 + c5 + 256 * (c3 + c4 + c5 + c6 + 256 * (c4 + c5 + c6 + c7 + 256 * (c5 + c6 + c7 + 256 * (c6 + c7 + 256 * c7))))) + (c5 + c6 + c7 + 256 * (c6 + c7 + 256 * c7)))) := by omega
    rw [e, Nat.add_mul_mod_self_left]
    exact Nat.mod_eq_of_lt (by omega)
  · omega
  · omega
  · omega
end

/-- for every word: what the sum answers; no step of it wraps -/
theorem pop_all (x : Nat) (hx : x < 18446744073709551616) : s6 x % 128 = cnt 64 x ∧ s6 x < 9223372036854775808 ∧ s5 x < 9223372036854775808 ∧ s4 x < 9223372036854775808 ∧ sA x ≤ 6148914691236517205 ∧ sB x ≤ 6148914691236517205 ∧ sC x ≤ 3689348814741910323 ∧ sD x ≤ 3689348814741910323 ∧ s3 x ≤ 1085102592571150095 := by
  have e : x = by8 (x % 256) (x / 256 % 256) (x / 65536 % 256) (x / 16777216 % 256) (x / 4294967296 % 256) (x / 1099511627776 % 256) (x / 281474976710656 % 256) (x / 72057594037927936) := by
    unfold by8; omega
  have h := s6_by8 (b0 := x % 256) (b1 := x / 256 % 256) (b2 := x / 65536 % 256) (b3 := x / 16777216 % 256) (b4 := x / 4294967296 % 256) (b5 := x / 1099511627776 % 256) (b6 := x / 281474976710656 % 256) (b7 := x / 72057594037927936)
    (by omega) (by omega) (by omega) (by omega) (by omega) (by omega) (by omega) (by omega)
  rw [← e] at h
  exact ⟨h.1, h.2.1, h.2.2.1, h.2.2.2, Nat.and_le_right, Nat.and_le_right, Nat.and_le_right, Nat.and_le_right, Nat.and_le_right⟩

end Go.Proofs.YtfekcbkafiiieaaDoor
