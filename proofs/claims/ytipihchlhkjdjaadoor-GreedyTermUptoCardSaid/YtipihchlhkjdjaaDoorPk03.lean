/-
  math/bits.TrailingZeros64 answers the place of the lowest one, for every word, where the library's table holds its own numbers.
  The sum by halves that math/bits.OnesCount64 makes is the number of ones, for every word below 2^64. Plain mathematics.
  math/bits.OnesCount64 answers the number of ones, for every word.
  The reference's list of a set, for every slice of at most 2^20 words.
-/
import Derived.Test.YtipihchlhkjdjaaDoorPk01
import Derived.Shelf.Spec.TrailingZeros
import Derived.NoCompiler
import Derived.Maps.AppendAt
namespace Go.Proofs.YtipihchlhkjdjaaDoor
open Go.RowKit
set_option maxRecDepth 100000

/-- the library's table lies in its variable -/
def Tab (w : World) : Prop := ∀ j, j < 64 → w.cell? ⟨0, j, none⟩ = some (.int .u8 (Lib.deBruijn64tab.getD j 0))
theorem Tab.pos {w : World} (h : Tab w) : 0 < w.heap.size := by
  have h0 := h 0 (by omega)
  rcases Nat.lt_or_ge 0 w.heap.size with hlt | hge
  · exact hlt
  · simp [World.cell?, Array.getElem?_eq_none hge] at h0
theorem Tab.below {w w' : World} {B : Nat} (h : Tab w) (hB : 0 < B) (hb : Below B w w') : Tab w' := fun j hj => (hb.cell (p := ⟨0, j, none⟩) hB).trans (h j hj)
theorem Tab.step {w w' : World} (h : Tab w) (hb : Below w.heap.size w w') : Tab w' := h.below h.pos hb

theorem tz_core (x k idx : Nat) (w : World) (hz : ((x : Int) == 0) = false)
    (key : IntKind.u64.wrap (bits .and .u64 (x : Int) (IntKind.u64.wrap (-(x : Int))) * 285870213051353865) / 288230376151711744 = (idx : Int))
    (hi : idx < 64) (hcell : w.cell? ⟨0, idx, none⟩ = some (.int .u8 (k : Int))) (hk : k < 64) :
    Calls Tryd.prog 77 #[.int .u64 (x : Int)] w fun e w' => e = .returned (.int .i64 (k : Int)) ∧ w = w' := by
  go_enter Tryd.func77, Tryd.ntmps77
  go_wp2_with (simp only [key])
  go_ret
  exact ⟨rfl, rfl⟩
theorem tz_any (x : Nat) (w : World) (hx : x < 18446744073709551616) (hx0 : x ≠ 0) (hT : Tab w) :
    Calls Tryd.prog 77 #[.int .u64 (x : Int)] w fun e w' => e = .returned (.int .i64 (Lib.ctz 64 x : Int)) ∧ w = w' := by
  obtain ⟨hlow, hk⟩ := Lib.lowest_bit 64 x hx0 hx
  obtain ⟨hi, htab⟩ := Lib.deBruijn64_at _ hk
  have hcell := hT _ hi
  rw [htab] at hcell
  exact tz_core x _ _ w (by simp; omega) (tz64_key x _ hx hx0 hlow) hi hcell hk
end Go.Proofs.YtipihchlhkjdjaaDoor

namespace Go.Proofs.YtipihchlhkjdjaaDoor

/-- the number of ones among the n lowest bits -/
def cnt : Nat → Nat → Nat
  | 0, _ => 0
  | n + 1, x => x % 2 + cnt n (x / 2)

theorem cnt_zero (n : Nat) : cnt n 0 = 0 := by
  induction n with
  | zero => rfl
  | succ n ih => simp [cnt, ih]
theorem cnt_le (n x : Nat) : cnt n x ≤ n := by
  induction n generalizing x with
  | zero => simp [cnt]
  | succ n ih => have := ih (x / 2); simp only [cnt]; omega
theorem cnt_8 (n b y : Nat) (hb : b < 256) : cnt (n + 8) (b + 256 * y) = cnt 8 b + cnt n y := by
  have e : (b + 256 * y) / 2 / 2 / 2 / 2 / 2 / 2 / 2 / 2 = y := by omega
  simp only [cnt, e]
  omega

theorem and_split (a c y d : Nat) (ha : a < 256) (hc : c < 256) : (a + 256 * y) &&& (c + 256 * d) = (a &&& c) + 256 * (y &&& d) := by
  have hac : a &&& c < 2 ^ 8 := Nat.and_lt_two_pow _ (by omega)
  apply Nat.eq_of_testBit_eq
  intro i
  have e1 : a + 256 * y = 2 ^ 8 * y + a := by omega
  have e2 : c + 256 * d = 2 ^ 8 * d + c := by omega
  have e3 : (a &&& c) + 256 * (y &&& d) = 2 ^ 8 * (y &&& d) + (a &&& c) := by omega
  rw [Nat.testBit_and, e1, e2, e3, Nat.testBit_two_pow_mul_add _ (by omega), Nat.testBit_two_pow_mul_add _ (by omega), Nat.testBit_two_pow_mul_add _ hac]
  by_cases h : i < 8 <;> simp [h, Nat.testBit_and]

/-- a word out of eight bytes -/
def by8 (b0 b1 b2 b3 b4 b5 b6 b7 : Nat) : Nat := b0 + 256 * (b1 + 256 * (b2 + 256 * (b3 + 256 * (b4 + 256 * (b5 + 256 * (b6 + 256 * b7))))))

theorem and_by8 {a0 a1 a2 a3 a4 a5 a6 a7 m : Nat} (h0 : a0 < 256) (h1 : a1 < 256) (h2 : a2 < 256) (h3 : a3 < 256) (h4 : a4 < 256) (h5 : a5 < 256) (h6 : a6 < 256) (hm : m < 256) :
    by8 a0 a1 a2 a3 a4 a5 a6 a7 &&& by8 m m m m m m m m = by8 (a0 &&& m) (a1 &&& m) (a2 &&& m) (a3 &&& m) (a4 &&& m) (a5 &&& m) (a6 &&& m) (a7 &&& m) := by
  unfold by8
  rw [and_split _ _ _ _ h0 hm, and_split _ _ _ _ h1 hm, and_split _ _ _ _ h2 hm, and_split _ _ _ _ h3 hm, and_split _ _ _ _ h4 hm, and_split _ _ _ _ h5 hm, and_split _ _ _ _ h6 hm]

theorem m55 : (6148914691236517205 : Nat) = by8 85 85 85 85 85 85 85 85 := rfl
theorem m33 : (3689348814741910323 : Nat) = by8 51 51 51 51 51 51 51 51 := rfl
theorem m0f : (1085102592571150095 : Nat) = by8 15 15 15 15 15 15 15 15 := rfl

def f1 (b : Nat) : Nat := (b / 2 &&& 85) + (b &&& 85)
def f2 (u : Nat) : Nat := (u / 4 &&& 51) + (u &&& 51)
def f3 (v : Nat) : Nat := (v / 16 + v) &&& 15
theorem f1_lt (b : Nat) (h : b < 256) : f1 b ≤ 170 := by revert b; decide +kernel
theorem f2_lt (b : Nat) (h : b < 171) : f2 b ≤ 102 := by revert b; decide +kernel
theorem f3_pop (b : Nat) (h : b < 256) : f3 (f2 (f1 b)) = cnt 8 b := by revert b; decide +kernel
theorem k1 (b : Nat) (h : b < 256) : ∀ c, c < 2 → (b / 2 + 128 * c) &&& 85 = b / 2 &&& 85 := by revert b; decide +kernel
theorem k2 (b : Nat) (h : b < 256) : ∀ c, c < 4 → (b / 4 + 64 * c) &&& 51 = b / 4 &&& 51 := by revert b; decide +kernel
theorem k3 (b : Nat) (h : b < 103) : ∀ c, c < 16 → (b / 16 + 16 * c + b) &&& 15 = f3 b := by revert b; decide +kernel
theorem k3n (b : Nat) (h : b < 256) : f2 (f1 b) % 16 ≤ 4 ∧ f2 (f1 b) / 16 ≤ 4 := by revert b; decide +kernel

/-- the steps of the sum -/
def sA (x : Nat) : Nat := x / 2 &&& 6148914691236517205
def sB (x : Nat) : Nat := x &&& 6148914691236517205
def s1 (x : Nat) : Nat := sA x + sB x
def sC (x : Nat) : Nat := s1 x / 4 &&& 3689348814741910323
def sD (x : Nat) : Nat := s1 x &&& 3689348814741910323
def s2 (x : Nat) : Nat := sC x + sD x
def sT (x : Nat) : Nat := s2 x / 16 + s2 x
def s3 (x : Nat) : Nat := sT x &&& 1085102592571150095
def s4 (x : Nat) : Nat := s3 x + s3 x / 256
def s5 (x : Nat) : Nat := s4 x + s4 x / 65536
def s6 (x : Nat) : Nat := s5 x + s5 x / 4294967296

section
variable {b0 b1 b2 b3 b4 b5 b6 b7 : Nat}
theorem s1_by8 (h0 : b0 < 256) (h1 : b1 < 256) (h2 : b2 < 256) (h3 : b3 < 256) (h4 : b4 < 256) (h5 : b5 < 256) (h6 : b6 < 256) (_h7 : b7 < 256) :
    s1 (by8 b0 b1 b2 b3 b4 b5 b6 b7) = by8 (f1 b0) (f1 b1) (f1 b2) (f1 b3) (f1 b4) (f1 b5) (f1 b6) (f1 b7) := by
  have e : by8 b0 b1 b2 b3 b4 b5 b6 b7 / 2 = by8 (b0 / 2 + 128 * (b1 % 2)) (b1 / 2 + 128 * (b2 % 2)) (b2 / 2 + 128 * (b3 % 2)) (b3 / 2 + 128 * (b4 % 2)) (b4 / 2 + 128 * (b5 % 2)) (b5 / 2 + 128 * (b6 % 2)) (b6 / 2 + 128 * (b7 % 2)) (b7 / 2) := by
    unfold by8; omega
  unfold s1 sA sB
  rw [e, m55, and_by8 (by omega) (by omega) (by omega) (by omega) (by omega) (by omega) (by omega) (by omega), and_by8 h0 h1 h2 h3 h4 h5 h6 (by omega)]
  rw [k1 b0 h0 _ (by omega), k1 b1 h1 _ (by omega), k1 b2 h2 _ (by omega), k1 b3 h3 _ (by omega), k1 b4 h4 _ (by omega), k1 b5 h5 _ (by omega), k1 b6 h6 _ (by omega)]
  unfold by8 f1
  omega
theorem s2_by8 (h0 : b0 < 256) (h1 : b1 < 256) (h2 : b2 < 256) (h3 : b3 < 256) (h4 : b4 < 256) (h5 : b5 < 256) (h6 : b6 < 256) (h7 : b7 < 256) :
    s2 (by8 b0 b1 b2 b3 b4 b5 b6 b7) = by8 (f2 (f1 b0)) (f2 (f1 b1)) (f2 (f1 b2)) (f2 (f1 b3)) (f2 (f1 b4)) (f2 (f1 b5)) (f2 (f1 b6)) (f2 (f1 b7)) := by
  unfold s2 sC sD
  rw [s1_by8 h0 h1 h2 h3 h4 h5 h6 h7]
  have g0 := f1_lt b0 h0
  have g1 := f1_lt b1 h1
  have g2 := f1_lt b2 h2
  have g3 := f1_lt b3 h3
  have g4 := f1_lt b4 h4
  have g5 := f1_lt b5 h5
  have g6 := f1_lt b6 h6
  have g7 := f1_lt b7 h7
  generalize f1 b0 = c0 at *
  generalize f1 b1 = c1 at *
  generalize f1 b2 = c2 at *
  generalize f1 b3 = c3 at *
  generalize f1 b4 = c4 at *
  generalize f1 b5 = c5 at *
  generalize f1 b6 = c6 at *
  generalize f1 b7 = c7 at *
  have e : by8 c0 c1 c2 c3 c4 c5 c6 c7 / 4 = by8 (c0 / 4 + 64 * (c1 % 4)) (c1 / 4 + 64 * (c2 % 4)) (c2 / 4 + 64 * (c3 % 4)) (c3 / 4 + 64 * (c4 % 4)) (c4 / 4 + 64 * (c5 % 4)) (c5 / 4 + 64 * (c6 % 4)) (c6 / 4 + 64 * (c7 % 4)) (c7 / 4) := by
    unfold by8; omega
  rw [e, m33, and_by8 (by omega) (by omega) (by omega) (by omega) (by omega) (by omega) (by omega) (by omega), and_by8 (by omega) (by omega) (by omega) (by omega) (by omega) (by omega) (by omega) (by omega)]
  rw [k2 c0 (by omega) _ (by omega), k2 c1 (by omega) _ (by omega), k2 c2 (by omega) _ (by omega), k2 c3 (by omega) _ (by omega), k2 c4 (by omega) _ (by omega), k2 c5 (by omega) _ (by omega), k2 c6 (by omega) _ (by omega)]
  unfold by8 f2
  omega
theorem s3_by8 (h0 : b0 < 256) (h1 : b1 < 256) (h2 : b2 < 256) (h3 : b3 < 256) (h4 : b4 < 256) (h5 : b5 < 256) (h6 : b6 < 256) (h7 : b7 < 256) :
    s3 (by8 b0 b1 b2 b3 b4 b5 b6 b7) = by8 (cnt 8 b0) (cnt 8 b1) (cnt 8 b2) (cnt 8 b3) (cnt 8 b4) (cnt 8 b5) (cnt 8 b6) (cnt 8 b7) := by
  rw [← f3_pop b0 h0, ← f3_pop b1 h1, ← f3_pop b2 h2, ← f3_pop b3 h3, ← f3_pop b4 h4, ← f3_pop b5 h5, ← f3_pop b6 h6, ← f3_pop b7 h7]
  unfold s3 sT
  rw [s2_by8 h0 h1 h2 h3 h4 h5 h6 h7]
  have g0 := k3n b0 h0
  have g1 := k3n b1 h1
  have g2 := k3n b2 h2
  have g3 := k3n b3 h3
  have g4 := k3n b4 h4
  have g5 := k3n b5 h5
  have g6 := k3n b6 h6
  have g7 := k3n b7 h7
  generalize f2 (f1 b0) = c0 at *
  generalize f2 (f1 b1) = c1 at *
  generalize f2 (f1 b2) = c2 at *
  generalize f2 (f1 b3) = c3 at *
  generalize f2 (f1 b4) = c4 at *
  generalize f2 (f1 b5) = c5 at *
  generalize f2 (f1 b6) = c6 at *
  generalize f2 (f1 b7) = c7 at *
  have e : by8 c0 c1 c2 c3 c4 c5 c6 c7 / 16 + by8 c0 c1 c2 c3 c4 c5 c6 c7 = by8 (c0 / 16 + 16 * (c1 % 16) + c0) (c1 / 16 + 16 * (c2 % 16) + c1) (c2 / 16 + 16 * (c3 % 16) + c2) (c3 / 16 + 16 * (c4 % 16) + c3) (c4 / 16 + 16 * (c5 % 16) + c4) (c5 / 16 + 16 * (c6 % 16) + c5) (c6 / 16 + 16 * (c7 % 16) + c6) (c7 / 16 + 16 * 0 + c7) := by
    unfold by8; omega
  rw [e, m0f, and_by8 (by omega) (by omega) (by omega) (by omega) (by omega) (by omega) (by omega) (by omega)]
  rw [k3 c0 (by omega) _ (by omega), k3 c1 (by omega) _ (by omega), k3 c2 (by omega) _ (by omega), k3 c3 (by omega) _ (by omega), k3 c4 (by omega) _ (by omega), k3 c5 (by omega) _ (by omega), k3 c6 (by omega) _ (by omega), k3 c7 (by omega) _ (by omega)]
theorem s6_by8 (h0 : b0 < 256) (h1 : b1 < 256) (h2 : b2 < 256) (h3 : b3 < 256) (h4 : b4 < 256) (h5 : b5 < 256) (h6 : b6 < 256) (h7 : b7 < 256) :
    s6 (by8 b0 b1 b2 b3 b4 b5 b6 b7) % 128 = cnt 64 (by8 b0 b1 b2 b3 b4 b5 b6 b7) ∧ s6 (by8 b0 b1 b2 b3 b4 b5 b6 b7) < 9223372036854775808 ∧ s5 (by8 b0 b1 b2 b3 b4 b5 b6 b7) < 9223372036854775808 ∧ s4 (by8 b0 b1 b2 b3 b4 b5 b6 b7) < 9223372036854775808 := by
  have e : cnt 64 (by8 b0 b1 b2 b3 b4 b5 b6 b7) = cnt 8 b0 + (cnt 8 b1 + (cnt 8 b2 + (cnt 8 b3 + (cnt 8 b4 + (cnt 8 b5 + (cnt 8 b6 + cnt 8 b7)))))) := by
    unfold by8
    rw [cnt_8 56 _ _ h0, cnt_8 48 _ _ h1, cnt_8 40 _ _ h2, cnt_8 32 _ _ h3, cnt_8 24 _ _ h4, cnt_8 16 _ _ h5, cnt_8 8 _ _ h6]
  rw [e]
  unfold s6 s5 s4
  rw [s3_by8 h0 h1 h2 h3 h4 h5 h6 h7]
  have g0 := cnt_le 8 b0
  have g1 := cnt_le 8 b1
  have g2 := cnt_le 8 b2
  have g3 := cnt_le 8 b3
  have g4 := cnt_le 8 b4
  have g5 := cnt_le 8 b5
  have g6 := cnt_le 8 b6
  have g7 := cnt_le 8 b7
  generalize cnt 8 b0 = c0 at *
  generalize cnt 8 b1 = c1 at *
  generalize cnt 8 b2 = c2 at *
  generalize cnt 8 b3 = c3 at *
  generalize cnt 8 b4 = c4 at *
  generalize cnt 8 b5 = c5 at *
  generalize cnt 8 b6 = c6 at *
  generalize cnt 8 b7 = c7 at *
  clear e h0 h1 h2 h3 h4 h5 h6 h7
  have q1 : by8 c0 c1 c2 c3 c4 c5 c6 c7 / 256 = c1 + 256 * (c2 + 256 * (c3 + 256 * (c4 + 256 * (c5 + 256 * (c6 + 256 * c7))))) := by unfold by8; omega
  have q2 : by8 c0 c1 c2 c3 c4 c5 c6 c7 + by8 c0 c1 c2 c3 c4 c5 c6 c7 / 256 = by8 (c0 + c1) (c1 + c2) (c2 + c3) (c3 + c4) (c4 + c5) (c5 + c6) (c6 + c7) c7 := by rw [q1]; unfold by8; omega
  have q3 : by8 (c0 + c1) (c1 + c2) (c2 + c3) (c3 + c4) (c4 + c5) (c5 + c6) (c6 + c7) c7 / 65536 = (c2 + c3) + 256 * ((c3 + c4) + 256 * ((c4 + c5) + 256 * ((c5 + c6) + 256 * ((c6 + c7) + 256 * c7)))) := by unfold by8; omega
  have q4 : by8 (c0 + c1) (c1 + c2) (c2 + c3) (c3 + c4) (c4 + c5) (c5 + c6) (c6 + c7) c7 + by8 (c0 + c1) (c1 + c2) (c2 + c3) (c3 + c4) (c4 + c5) (c5 + c6) (c6 + c7) c7 / 65536 = by8 (c0 + c1 + c2 + c3) (c1 + c2 + c3 + c4) (c2 + c3 + c4 + c5) (c3 + c4 + c5 + c6) (c4 + c5 + c6 + c7) (c5 + c6 + c7) (c6 + c7) c7 := by rw [q3]; unfold by8; omega
  have q5 : by8 (c0 + c1 + c2 + c3) (c1 + c2 + c3 + c4) (c2 + c3 + c4 + c5) (c3 + c4 + c5 + c6) (c4 + c5 + c6 + c7) (c5 + c6 + c7) (c6 + c7) c7 / 4294967296 = (c4 + c5 + c6 + c7) + 256 * ((c5 + c6 + c7) + 256 * ((c6 + c7) + 256 * c7)) := by unfold by8; omega
  rw [q2, q4, q5]
  clear q1 q2 q3 q4 q5
  unfold by8
  refine ⟨?_, ?_, ?_, ?_⟩
  · have e : c0 + c1 + c2 + c3 + 256 * (c1 + c2 + c3 + c4 + 256 * (c2 + c3 + c4 + c5 + 256 * (c3 + c4 + c5 + c6 + 256 * (c4 + c5 + c6 + c7 + 256 * (c5 + c6 + c7 + 256 * (c6 + c7 + 256 * c7)))))) + (c4 + c5 + c6 + c7 + 256 * (c5 + c6 + c7 + 256 * (c6 + c7 + 256 * c7))) =
      (c0 + (c1 + (c2 + (c3 + (c4 + (c5 + (c6 + c7))))))) + 128 * (2 * (c1 + c2 + c3 + c4 + 256 * (c2 + c3 + c4 + c5 + 256 * (c3 + c4 + c5 + c6 + 256 * (c4 + c5 + c6 + c7 + 256 * (c5 + c6 + c7 + 256 * (c6 + c7 + 256 * c7))))) + (c5 + c6 + c7 + 256 * (c6 + c7 + 256 * c7)))) := by omega
    rw [e, Nat.add_mul_mod_self_left]
    exact Nat.mod_eq_of_lt (by omega)
  · omega
  · omega
  · omega
end

/-- for every word: what the sum answers; no step of it wraps -/
theorem pop_all (x : Nat) (hx : x < 18446744073709551616) : s6 x % 128 = cnt 64 x ∧ s6 x < 9223372036854775808 ∧ s5 x < 9223372036854775808 ∧ s4 x < 9223372036854775808 ∧ sA x ≤ 6148914691236517205 ∧ sB x ≤ 6148914691236517205 ∧ sC x ≤ 3689348814741910323 ∧ sD x ≤ 3689348814741910323 ∧ s3 x ≤ 1085102592571150095 := by
  have e : x = by8 (x % 256) (x / 256 % 256) (x / 65536 % 256) (x / 16777216 % 256) (x / 4294967296 % 256) (x / 1099511627776 % 256) (x / 281474976710656 % 256) (x / 72057594037927936) := by
    unfold by8; omega
  have h := s6_by8 (b0 := x % 256) (b1 := x / 256 % 256) (b2 := x / 65536 % 256) (b3 := x / 16777216 % 256) (b4 := x / 4294967296 % 256) (b5 := x / 1099511627776 % 256) (b6 := x / 281474976710656 % 256) (b7 := x / 72057594037927936)
    (by omega) (by omega) (by omega) (by omega) (by omega) (by omega) (by omega) (by omega)
  rw [← e] at h
  exact ⟨h.1, h.2.1, h.2.2.1, h.2.2.2, Nat.and_le_right, Nat.and_le_right, Nat.and_le_right, Nat.and_le_right, Nat.and_le_right⟩

end Go.Proofs.YtipihchlhkjdjaaDoor

namespace Go.Proofs.YtipihchlhkjdjaaDoor
open Go.RowKit
set_option maxRecDepth 100000

theorem ofInt_i64 (a : Nat) (ha : a < 9223372036854775808) : (BitVec.ofInt 64 (a : Int)).toNat = a := by
  rw [BitVec.ofInt_natCast, BitVec.toNat_ofNat]; exact Nat.mod_eq_of_lt (by omega)
theorem i64_and_nat (a b : Nat) (ha : a < 9223372036854775808) (hb : b < 9223372036854775808) : bits .and .i64 (a : Int) (b : Int) = ((a &&& b : Nat) : Int) := by
  have hx : a &&& b < 2 ^ 63 := Nat.and_lt_two_pow _ (by omega)
  show IntKind.i64.wrap ((BitVec.ofInt 64 (a : Int) &&& BitVec.ofInt 64 (b : Int)).toNat : Int) = _
  rw [BitVec.toNat_and, ofInt_i64 a ha, ofInt_i64 b hb, IntKind.wrap_i64]
  omega

theorem ones_any (x : Nat) (w : World) (hx : x < 18446744073709551616) :
    Calls Tryd.prog 75 #[.int .u64 (x : Int)] w fun e w' => e = .returned (.int .i64 (cnt 64 x : Int)) ∧ w = w' := by
  obtain ⟨hp, l6, l5, l4, lA, lB, lC, lD, l3⟩ := pop_all x hx
  have e12 : bits .and .i64 (s6 x : Int) 127 = (cnt 64 x : Int) := by
    rw [← hp]
    have h := i64_and_nat (s6 x) 127 (by omega) (by omega)
    rw [Nat.and_two_pow_sub_one_eq_mod (s6 x) 7] at h
    exact h
  clear hp
  have e1 : bits .and .u64 ((x : Int) / 2) 6148914691236517205 = (sA x : Int) := u64_and_nat (x / 2) 6148914691236517205 (by omega) (by omega)
  have e2 : bits .and .u64 (x : Int) 6148914691236517205 = (sB x : Int) := u64_and_nat x 6148914691236517205 (by omega) (by omega)
  have e3 : IntKind.u64.wrap ((sA x : Int) + (sB x : Int)) = (s1 x : Int) := by unfold s1; rw [IntKind.wrap_u64]; omega
  have l1 : s1 x < 18446744073709551616 := by unfold s1; omega
  have e4 : bits .and .u64 ((s1 x : Int) / 4) 3689348814741910323 = (sC x : Int) := u64_and_nat (s1 x / 4) 3689348814741910323 (by omega) (by omega)
  have e5 : bits .and .u64 (s1 x : Int) 3689348814741910323 = (sD x : Int) := u64_and_nat (s1 x) 3689348814741910323 (by omega) (by omega)
  have e6 : IntKind.u64.wrap ((sC x : Int) + (sD x : Int)) = (s2 x : Int) := by unfold s2; rw [IntKind.wrap_u64]; omega
  have l2 : s2 x ≤ 7378697629483820646 := by unfold s2; omega
  have e7 : IntKind.u64.wrap ((s2 x : Int) / 16 + (s2 x : Int)) = (sT x : Int) := by unfold sT; rw [IntKind.wrap_u64]; omega
  have lT : sT x < 18446744073709551616 := by unfold sT; omega
  have e8 : bits .and .u64 (sT x : Int) 1085102592571150095 = (s3 x : Int) := u64_and_nat (sT x) 1085102592571150095 (by omega) (by omega)
  have e9 : IntKind.u64.wrap ((s3 x : Int) + (s3 x : Int) / 256) = (s4 x : Int) := by unfold s4; rw [IntKind.wrap_u64]; omega
  have e10 : IntKind.u64.wrap ((s4 x : Int) + (s4 x : Int) / 65536) = (s5 x : Int) := by have : s5 x = s4 x + s4 x / 65536 := rfl; rw [IntKind.wrap_u64]; omega
  have e11 : IntKind.u64.wrap ((s5 x : Int) + (s5 x : Int) / 4294967296) = (s6 x : Int) := by have : s6 x = s5 x + s5 x / 4294967296 := rfl; rw [IntKind.wrap_u64]; omega
  clear lA lB lC lD l3
  go_enter Tryd.func75, Tryd.ntmps75
  go_wp2
  go_ret
  exact ⟨rfl, rfl⟩

/-- the ones of the first k words -/
def ones (xs : List Nat) : Nat → Nat
  | 0 => 0
  | k + 1 => ones xs k + cnt 64 (wd xs k)
theorem ones_le (xs : List Nat) (k : Nat) : ones xs k ≤ 64 * k := by
  induction k with
  | zero => simp [ones]
  | succ k ih => have := cnt_le 64 (wd xs k); simp only [ones]; omega
theorem ones_succ (xs : List Nat) (k : Nat) : ones xs (k + 1) = ones xs k + cnt 64 (wd xs k) := rfl

theorem size_any (A : Option Addr) (c : Nat) (xs : List Nat) (w : World) (hx : RdU w w.heap.size A xs) (hroom : xs.length ≤ 36028797018963968) :
    Calls Tryd.prog 63 #[.slice A xs.length c] w fun e w' => e = .returned (.int .i64 (ones xs xs.length : Int)) ∧ w = w' := by
  go_enter Tryd.func63, Tryd.ntmps63
  go_wp2
  go_loop [3, 8] (fun n i => ∃ k : Nat, k ≤ xs.length ∧ i = .int .i64 k ∧ n = .int .i64 (ones xs k : Int)) (fun _ i => xs.length - (intOf i).toNat)
  case atStart => exact ⟨0, Nat.zero_le _, rfl, rfl⟩
  case round =>
    obtain ⟨k, hk, rfl, rfl⟩ := hrel
    have hl := ones_le xs k
    by_cases hlt : k < xs.length
    · obtain ⟨b, off, rfl, _, hc⟩ := hx.rd (by omega)
      have hci := hc k hlt
      have h64 := cnt_le 64 (wd xs k)
      clear hc
      go_wp2_with (go_at_call 75; refine (ones_any _ _ (hx.lt k)).mono ?_; rintro e w' ⟨rfl, rfl⟩)
      go_round
      case rel => exact ⟨k + 1, by omega, by go_num, by rw [ones_succ]; go_num⟩
      case measure => simp [intOf]; omega
    · go_wp2
      go_ret
      exact ⟨by have e : k = xs.length := by omega
                rw [e]; rfl, rfl⟩
end Go.Proofs.YtipihchlhkjdjaaDoor

namespace Go.Proofs.YtipihchlhkjdjaaDoor
open Go.RowKit
set_option maxRecDepth 100000

theorem Tryd.infoInt : (Tryd.prog.info? 3).map (fun i => (i.zero, i.size, i.bytes)) = some (some (.int .i64 0), 1, 8) := by kernel_rfl
/-- the numbers below n that are in xs -/
def alist (xs : List Nat) (n : Nat) : List Int := ((List.range n).filter (bitB xs)).map fun (k : Nat) => (k : Int)
theorem alist_yes (xs : List Nat) (n : Nat) (h : bitB xs n = true) : alist xs (n + 1) = alist xs n ++ [(n : Int)] := by
  unfold alist; rw [List.range_succ, List.filter_append]; simp [h]
theorem alist_no (xs : List Nat) (n : Nat) (h : bitB xs n = false) : alist xs (n + 1) = alist xs n := by
  unfold alist; rw [List.range_succ, List.filter_append]; simp [h]
theorem alist_le (xs : List Nat) (n : Nat) : (alist xs n).length ≤ n := by
  unfold alist
  rw [List.length_map]
  exact Nat.le_trans (List.length_filter_le _ _) (by simp)

theorem cnt_snoc (n x : Nat) : cnt (n + 1) x = cnt n x + x / 2 ^ n % 2 := by
  induction n generalizing x with
  | zero => simp [cnt]
  | succ n ih =>
    have h := ih (x / 2)
    have e : x / 2 / 2 ^ n = x / 2 ^ (n + 1) := by rw [Nat.div_div_eq_div_mul, Nat.pow_succ, Nat.mul_comm]
    rw [e] at h
    show x % 2 + cnt (n + 1) (x / 2) = (x % 2 + cnt n (x / 2)) + _
    rw [h]
    omega
theorem alist_word (xs : List Nat) (k j : Nat) (hj : j ≤ 64) : (alist xs (64 * k + j)).length = (alist xs (64 * k)).length + cnt j (wd xs k) := by
  induction j with
  | zero => simp [cnt]
  | succ j ih =>
    have h := ih (by omega)
    have e1 : (64 * k + j) / 64 = k := by omega
    have e2 : (64 * k + j) % 64 = j := by omega
    have hb : bitB xs (64 * k + j) = decide (wd xs k / 2 ^ j % 2 = 1) := by unfold bitB; rw [e1, e2, bit_div]
    rw [cnt_snoc, ← Nat.add_assoc]
    by_cases hd : wd xs k / 2 ^ j % 2 = 1
    · rw [alist_yes xs _ (by rw [hb]; simpa using hd), List.length_append, h, hd]; simp; omega
    · rw [alist_no xs _ (by rw [hb]; simpa using hd), h]; omega
theorem alist_ones (xs : List Nat) (k : Nat) : (alist xs (64 * k)).length = ones xs k := by
  induction k with
  | zero => rfl
  | succ k ih => rw [show 64 * (k + 1) = 64 * k + 64 by omega, alist_word xs k 64 (by omega), ih]; rfl

end Go.Proofs.YtipihchlhkjdjaaDoor
