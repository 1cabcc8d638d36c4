/-
  Contracts of bitset.word, of the three closures, of Within, of slices.Equal over words and of the reference's test of one bit. For every slice of words.
-/
import Derived.Test.YtfekcbkafiiieaaDoorBsMath
import Derived.Test.YtfekcbkafiiieaaDoorChecked
import Derived.Deep.QuietTactic
import Derived.BigQuiet
import Derived.Lib.Hide
namespace Go.Proofs.YtfekcbkafiiieaaDoor
open Go.RowKit
set_option maxRecDepth 100000

theorem ret_b {a b : Bool} (h : a = b) : Ending.returned (.bool a) = .returned (.bool b) := by rw [h]
theorem ret_n {k : IntKind} {a b : Int} (h : a = b) : Ending.returned (.int k a) = .returned (.int k b) := by rw [h]

/-- is every word of xs within that of ys? -/
def inB (xs ys : List Nat) : Bool := decide (∀ k, k < xs.length → lessN (wd xs k) (wd ys k) = 0)

theorem bit_div (x j : Nat) : x.testBit j = decide (x / 2 ^ j % 2 = 1) := Nat.testBit_eq_decide_div_mod_eq
theorem half_step (x j : Nat) : x / 2 ^ j / 2 = x / 2 ^ (j + 1) := by rw [Nat.div_div_eq_div_mul, ← Nat.pow_succ]
theorem half_lt (x j : Nat) (h : x < 18446744073709551616) : x / 2 ^ j < 18446744073709551616 := Nat.lt_of_le_of_lt (Nat.div_le_self _ _) h

theorem odd_b (x : Nat) : ((x : Int) % 2 == 1) = decide (x % 2 = 1) := by rw [Bool.eq_iff_iff]; simp; omega
def hv (x j : Nat) : Nat := x / 2 ^ j
end Go.Proofs.YtfekcbkafiiieaaDoor
