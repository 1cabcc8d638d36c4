/-
  math/bits.OnesCount64 answers the number of ones, for every word.
-/
import Derived.Test.YtaboafkpmgadmaaDoorBsA
import Derived.Test.YtaboafkpmgadmaaDoorBsPop
namespace Go.Proofs.YtaboafkpmgadmaaDoor
open Go.RowKit
set_option maxRecDepth 100000

theorem ofInt_i64 (a : Nat) (ha : a < 9223372036854775808) : (BitVec.ofInt 64 (a : Int)).toNat = a := by
  rw [BitVec.ofInt_natCast, BitVec.toNat_ofNat]; exact Nat.mod_eq_of_lt (by omega)
theorem i64_and_nat (a b : Nat) (ha : a < 9223372036854775808) (hb : b < 9223372036854775808) : bits .and .i64 (a : Int) (b : Int) = ((a &&& b : Nat) : Int) := by
  have hx : a &&& b < 2 ^ 63 := Nat.and_lt_two_pow _ (by omega)
  show IntKind.i64.wrap ((BitVec.ofInt 64 (a : Int) &&& BitVec.ofInt 64 (b : Int)).toNat : Int) = _
  rw [BitVec.toNat_and, ofInt_i64 a ha, ofInt_i64 b hb, IntKind.wrap_i64]
  omega

theorem ones_any (x : Nat) (w : World) (hx : x < 18446744073709551616) :
    Calls Tryd.prog 87 #[.int .u64 (x : Int)] w fun e w' => e = .returned (.int .i64 (cnt 64 x : Int)) ∧ w = w' := by
  obtain ⟨hp, l6, l5, l4, lA, lB, lC, lD, l3⟩ := pop_all x hx
  have e12 : bits .and .i64 (s6 x : Int) 127 = (cnt 64 x : Int) := by
    rw [← hp]
    have h := i64_and_nat (s6 x) 127 (by omega) (by omega)
    rw [Nat.and_two_pow_sub_one_eq_mod (s6 x) 7] at h
    exact h
  clear hp
  have e1 : bits .and .u64 ((x : Int) / 2) 6148914691236517205 = (sA x : Int) := u64_and_nat (x / 2) 6148914691236517205 (by omega) (by omega)
  have e2 : bits .and .u64 (x : Int) 6148914691236517205 = (sB x : Int) := u64_and_nat x 6148914691236517205 (by omega) (by omega)
  have e3 : IntKind.u64.wrap ((sA x : Int) + (sB x : Int)) = (s1 x : Int) := by unfold s1; rw [IntKind.wrap_u64]; omega
  have l1 : s1 x < 18446744073709551616 := by unfold s1; omega
  have e4 : bits .and .u64 ((s1 x : Int) / 4) 3689348814741910323 = (sC x : Int) := u64_and_nat (s1 x / 4) 3689348814741910323 (by omega) (by omega)
  have e5 : bits .and .u64 (s1 x : Int) 3689348814741910323 = (sD x : Int) := u64_and_nat (s1 x) 3689348814741910323 (by omega) (by omega)
  have e6 : IntKind.u64.wrap ((sC x : Int) + (sD x : Int)) = (s2 x : Int) := by unfold s2; rw [IntKind.wrap_u64]; omega
  have l2 : s2 x ≤ 7378697629483820646 := by unfold s2; omega
  have e7 : IntKind.u64.wrap ((s2 x : Int) / 16 + (s2 x : Int)) = (sT x : Int) := by unfold sT; rw [IntKind.wrap_u64]; omega
  have lT : sT x < 18446744073709551616 := by unfold sT; omega
  have e8 : bits .and .u64 (sT x : Int) 1085102592571150095 = (s3 x : Int) := u64_and_nat (sT x) 1085102592571150095 (by omega) (by omega)
  have e9 : IntKind.u64.wrap ((s3 x : Int) + (s3 x : Int) / 256) = (s4 x : Int) := by unfold s4; rw [IntKind.wrap_u64]; omega
  have e10 : IntKind.u64.wrap ((s4 x : Int) + (s4 x : Int) / 65536) = (s5 x : Int) := by have : s5 x = s4 x + s4 x / 65536 := rfl; rw [IntKind.wrap_u64]; omega
  have e11 : IntKind.u64.wrap ((s5 x : Int) + (s5 x : Int) / 4294967296) = (s6 x : Int) := by have : s6 x = s5 x + s5 x / 4294967296 := rfl; rw [IntKind.wrap_u64]; omega
  clear lA lB lC lD l3
  go_enter Tryd.func87, Tryd.ntmps87
  go_wp2
  go_ret
  exact ⟨rfl, rfl⟩

/-- the ones of the first k words -/
def ones (xs : List Nat) : Nat → Nat
  | 0 => 0
  | k + 1 => ones xs k + cnt 64 (wd xs k)
theorem ones_le (xs : List Nat) (k : Nat) : ones xs k ≤ 64 * k := by
  induction k with
  | zero => simp [ones]
  | succ k ih => have := cnt_le 64 (wd xs k); simp only [ones]; omega
theorem ones_succ (xs : List Nat) (k : Nat) : ones xs (k + 1) = ones xs k + cnt 64 (wd xs k) := rfl

theorem size_any (A : Option Addr) (c : Nat) (xs : List Nat) (w : World) (hx : RdU w w.heap.size A xs) (hroom : xs.length ≤ 36028797018963968) :
    Calls Tryd.prog 58 #[.slice A xs.length c] w fun e w' => e = .returned (.int .i64 (ones xs xs.length : Int)) ∧ w = w' := by
  go_enter Tryd.func58, Tryd.ntmps58
  go_wp2
  go_loop [3, 8] (fun n i => ∃ k : Nat, k ≤ xs.length ∧ i = .int .i64 k ∧ n = .int .i64 (ones xs k : Int)) (fun _ i => xs.length - (intOf i).toNat)
  case atStart => exact ⟨0, Nat.zero_le _, rfl, rfl⟩
  case round =>
    obtain ⟨k, hk, rfl, rfl⟩ := hrel
    have hl := ones_le xs k
    by_cases hlt : k < xs.length
    · obtain ⟨b, off, rfl, _, hc⟩ := hx.rd (by omega)
      have hci := hc k hlt
      have h64 := cnt_le 64 (wd xs k)
      clear hc
      go_wp2_with (go_at_call 87; refine (ones_any _ _ (hx.lt k)).mono ?_; rintro e w' ⟨rfl, rfl⟩)
      go_round
      case rel => exact ⟨k + 1, by omega, by go_num, by rw [ones_succ]; go_num⟩
      case measure => simp [intOf]; omega
    · go_wp2
      go_ret
      exact ⟨by have e : k = xs.length := by omega
                rw [e]; rfl, rfl⟩
end Go.Proofs.YtaboafkpmgadmaaDoor
