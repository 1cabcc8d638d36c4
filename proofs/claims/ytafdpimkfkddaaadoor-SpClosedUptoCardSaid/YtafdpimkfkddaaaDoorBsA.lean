/-
  Contracts of bitset.word, of the three closures, of Within, of slices.Equal over words and of the reference's test of one bit. For every slice of words.
-/
import Derived.Test.YtafdpimkfkddaaaDoorBsMath
import Derived.Test.YtafdpimkfkddaaaDoorChecked
import Derived.Deep.QuietTactic
import Derived.BigQuiet
import Derived.Lib.Hide
namespace Go.Proofs.YtafdpimkfkddaaaDoor
open Go.RowKit
set_option maxRecDepth 100000

theorem word_any (A : Option Addr) (c i : Nat) (xs : List Nat) (w : World) (hx : RdU w w.heap.size A xs) (hi : i ≤ 1152921504606846976) :
    Calls Tryd.prog 37 #[.slice A xs.length c, .int .i64 i] w fun e w' => e = .returned (.int .u64 (wd xs i : Int)) ∧ w = w' := by
  have hr := hx.room
  by_cases hlt : i < xs.length
  · obtain ⟨b, off, rfl, _, hc⟩ := hx.rd (by omega)
    have hci := hc i hlt
    clear hc
    go_enter Tryd.func37, Tryd.ntmps37
    go_wp2
    go_ret
    exact ⟨rfl, rfl⟩
  · have h0 := wd_out xs i (by omega)
    rw [h0]
    clear h0
    go_enter Tryd.func37, Tryd.ntmps37
    go_wp2
    go_ret
    exact ⟨rfl, rfl⟩

theorem ret_b {a b : Bool} (h : a = b) : Ending.returned (.bool a) = .returned (.bool b) := by rw [h]
theorem ret_n {k : IntKind} {a b : Int} (h : a = b) : Ending.returned (.int k a) = .returned (.int k b) := by rw [h]

theorem or1_any (a b : Nat) (w : World) (ha : a < 18446744073709551616) (hb : b < 18446744073709551616) :
    Calls Tryd.prog 43 #[.int .u64 (a : Int), .int .u64 (b : Int)] w fun e w' => e = .returned (.int .u64 (orN a b : Int)) ∧ w = w' := by
  have e : bits .or .u64 (a : Int) (b : Int) = (orN a b : Int) := u64_or_nat a b ha hb
  go_enter Tryd.func43, Tryd.ntmps43
  go_wp2
  go_ret
  exact ⟨rfl, rfl⟩

/-- is every word of xs within that of ys? -/
def inB (xs ys : List Nat) : Bool := decide (∀ k, k < xs.length → lessN (wd xs k) (wd ys k) = 0)

theorem within_any (A A' : Option Addr) (c c' : Nat) (xs ys : List Nat) (w : World) (hx : RdU w w.heap.size A xs) (hy : RdU w w.heap.size A' ys) :
    Calls Tryd.prog 27 #[.slice A xs.length c, .slice A' ys.length c'] w fun e w' =>
      e = .returned (.bool (inB xs ys)) ∧ w = w' := by
  have hr := hx.room
  go_enter Tryd.func27, Tryd.ntmps27
  go_wp2
  go_loop [9] (fun i => ∃ k : Nat, k ≤ xs.length ∧ i = .int .i64 k ∧ Hid (∀ j, j < k → lessN (wd xs j) (wd ys j) = 0)) (fun i => xs.length - (intOf i).toNat)
  case atStart => exact ⟨0, Nat.zero_le _, rfl, fun j hj => by omega⟩
  case round =>
    obtain ⟨k, hk, rfl, hall⟩ := hrel
    by_cases hlt : k < xs.length
    · obtain ⟨b, off, rfl, _, hc⟩ := hx.rd (by omega)
      have hci := hc k hlt
      clear hc
      have e : bits .andNot .u64 (wd xs k : Int) (wd ys k : Int) = (lessN (wd xs k) (wd ys k) : Int) := u64_andNot_nat (wd xs k) (wd ys k) (hx.lt k) (hy.lt k)
      go_wp2_with (go_at_call 37; refine (word_any _ _ _ _ _ hy (by omega)).mono ?_; rintro e w' ⟨rfl, rfl⟩)
      · have hne : ((lessN (wd xs k) (wd ys k) : Int) != 0) = true := by assumption
        go_ret
        exact ⟨ret_b (by unfold inB; symm; rw [decide_eq_false_iff_not]; intro hh; have := hh k hlt; simp [this] at hne), rfl⟩
      · have heq : ((lessN (wd xs k) (wd ys k) : Int) != 0) = false := by assumption
        have h0 : lessN (wd xs k) (wd ys k) = 0 := by simpa using heq
        go_round
        case rel => exact ⟨k + 1, by omega, by go_num, fun j hj => by
          rcases Nat.lt_succ_iff_lt_or_eq.1 hj with h | h
          · exact hall.out j h
          · subst h; exact h0⟩
        case measure => simp [intOf]; omega
    · go_wp2
      go_ret
      exact ⟨ret_b (by unfold inB; symm; rw [decide_eq_true_iff]; intro j hj; exact hall.out j (by omega)), rfl⟩


theorem bit_div (x j : Nat) : x.testBit j = decide (x / 2 ^ j % 2 = 1) := Nat.testBit_eq_decide_div_mod_eq
theorem half_step (x j : Nat) : x / 2 ^ j / 2 = x / 2 ^ (j + 1) := by rw [Nat.div_div_eq_div_mul, ← Nat.pow_succ]
theorem half_lt (x j : Nat) (h : x < 18446744073709551616) : x / 2 ^ j < 18446744073709551616 := Nat.lt_of_le_of_lt (Nat.div_le_self _ _) h

theorem odd_b (x : Nat) : ((x : Int) % 2 == 1) = decide (x % 2 = 1) := by rw [Bool.eq_iff_iff]; simp; omega
def hv (x j : Nat) : Nat := x / 2 ^ j
end Go.Proofs.YtafdpimkfkddaaaDoor
