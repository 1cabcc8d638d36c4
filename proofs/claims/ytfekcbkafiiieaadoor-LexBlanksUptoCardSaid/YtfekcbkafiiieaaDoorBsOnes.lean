/-
  math/bits.OnesCount64 answers the number of ones, for every word.
-/
import Derived.Test.YtfekcbkafiiieaaDoorBsA
import Derived.Test.YtfekcbkafiiieaaDoorBsPop
namespace Go.Proofs.YtfekcbkafiiieaaDoor
open Go.RowKit
set_option maxRecDepth 100000

theorem ofInt_i64 (a : Nat) (ha : a < 9223372036854775808) : (BitVec.ofInt 64 (a : Int)).toNat = a := by
  rw [BitVec.ofInt_natCast, BitVec.toNat_ofNat]; exact Nat.mod_eq_of_lt (by omega)
theorem i64_and_nat (a b : Nat) (ha : a < 9223372036854775808) (hb : b < 9223372036854775808) : bits .and .i64 (a : Int) (b : Int) = ((a &&& b : Nat) : Int) := by
  have hx : a &&& b < 2 ^ 63 := Nat.and_lt_two_pow _ (by omega)
  show IntKind.i64.wrap ((BitVec.ofInt 64 (a : Int) &&& BitVec.ofInt 64 (b : Int)).toNat : Int) = _
  rw [BitVec.toNat_and, ofInt_i64 a ha, ofInt_i64 b hb, IntKind.wrap_i64]
  omega

/-- the ones of the first k words -/
def ones (xs : List Nat) : Nat → Nat
  | 0 => 0
  | k + 1 => ones xs k + cnt 64 (wd xs k)
theorem ones_le (xs : List Nat) (k : Nat) : ones xs k ≤ 64 * k := by
  induction k with
  | zero => simp [ones]
  | succ k ih => have := cnt_le 64 (wd xs k); simp only [ones]; omega
theorem ones_succ (xs : List Nat) (k : Nat) : ones xs (k + 1) = ones xs k + cnt 64 (wd xs k) := rfl

end Go.Proofs.YtfekcbkafiiieaaDoor
