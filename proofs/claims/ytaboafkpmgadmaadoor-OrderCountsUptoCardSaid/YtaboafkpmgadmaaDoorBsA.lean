/-
  Contracts of bitset.word, of the three closures, of Within, of slices.Equal over words and of the reference's test of one bit. For every slice of words.
-/
import Derived.Test.YtaboafkpmgadmaaDoorBsMath
import Derived.Test.YtaboafkpmgadmaaDoorChecked
import Derived.Deep.QuietTactic
import Derived.BigQuiet
import Derived.Lib.Hide
namespace Go.Proofs.YtaboafkpmgadmaaDoor
open Go.RowKit
set_option maxRecDepth 100000

theorem word_any (A : Option Addr) (c i : Nat) (xs : List Nat) (w : World) (hx : RdU w w.heap.size A xs) (hi : i ≤ 1152921504606846976) :
    Calls Tryd.prog 107 #[.slice A xs.length c, .int .i64 i] w fun e w' => e = .returned (.int .u64 (wd xs i : Int)) ∧ w = w' := by
  have hr := hx.room
  by_cases hlt : i < xs.length
  · obtain ⟨b, off, rfl, _, hc⟩ := hx.rd (by omega)
    have hci := hc i hlt
    clear hc
    go_enter Tryd.func107, Tryd.ntmps107
    go_wp2
    go_ret
    exact ⟨rfl, rfl⟩
  · have h0 := wd_out xs i (by omega)
    rw [h0]
    clear h0
    go_enter Tryd.func107, Tryd.ntmps107
    go_wp2
    go_ret
    exact ⟨rfl, rfl⟩

theorem ret_b {a b : Bool} (h : a = b) : Ending.returned (.bool a) = .returned (.bool b) := by rw [h]
theorem ret_n {k : IntKind} {a b : Int} (h : a = b) : Ending.returned (.int k a) = .returned (.int k b) := by rw [h]

theorem and1_any (a b : Nat) (w : World) (ha : a < 18446744073709551616) (hb : b < 18446744073709551616) :
    Calls Tryd.prog 106 #[.int .u64 (a : Int), .int .u64 (b : Int)] w fun e w' => e = .returned (.int .u64 (andN a b : Int)) ∧ w = w' := by
  have e : bits .and .u64 (a : Int) (b : Int) = (andN a b : Int) := u64_and_nat a b ha hb
  go_enter Tryd.func106, Tryd.ntmps106
  go_wp2
  go_ret
  exact ⟨rfl, rfl⟩
theorem or1_any (a b : Nat) (w : World) (ha : a < 18446744073709551616) (hb : b < 18446744073709551616) :
    Calls Tryd.prog 85 #[.int .u64 (a : Int), .int .u64 (b : Int)] w fun e w' => e = .returned (.int .u64 (orN a b : Int)) ∧ w = w' := by
  have e : bits .or .u64 (a : Int) (b : Int) = (orN a b : Int) := u64_or_nat a b ha hb
  go_enter Tryd.func85, Tryd.ntmps85
  go_wp2
  go_ret
  exact ⟨rfl, rfl⟩
theorem less1_any (a b : Nat) (w : World) (ha : a < 18446744073709551616) (hb : b < 18446744073709551616) :
    Calls Tryd.prog 99 #[.int .u64 (a : Int), .int .u64 (b : Int)] w fun e w' => e = .returned (.int .u64 (lessN a b : Int)) ∧ w = w' := by
  have e : bits .andNot .u64 (a : Int) (b : Int) = (lessN a b : Int) := u64_andNot_nat a b ha hb
  go_enter Tryd.func99, Tryd.ntmps99
  go_wp2
  go_ret
  exact ⟨rfl, rfl⟩

/-- is every word of xs within that of ys? -/
def inB (xs ys : List Nat) : Bool := decide (∀ k, k < xs.length → lessN (wd xs k) (wd ys k) = 0)

theorem within_any (A A' : Option Addr) (c c' : Nat) (xs ys : List Nat) (w : World) (hx : RdU w w.heap.size A xs) (hy : RdU w w.heap.size A' ys) :
    Calls Tryd.prog 74 #[.slice A xs.length c, .slice A' ys.length c'] w fun e w' =>
      e = .returned (.bool (inB xs ys)) ∧ w = w' := by
  have hr := hx.room
  go_enter Tryd.func74, Tryd.ntmps74
  go_wp2
  go_loop [9] (fun i => ∃ k : Nat, k ≤ xs.length ∧ i = .int .i64 k ∧ Hid (∀ j, j < k → lessN (wd xs j) (wd ys j) = 0)) (fun i => xs.length - (intOf i).toNat)
  case atStart => exact ⟨0, Nat.zero_le _, rfl, fun j hj => by omega⟩
  case round =>
    obtain ⟨k, hk, rfl, hall⟩ := hrel
    by_cases hlt : k < xs.length
    · obtain ⟨b, off, rfl, _, hc⟩ := hx.rd (by omega)
      have hci := hc k hlt
      clear hc
      have e : bits .andNot .u64 (wd xs k : Int) (wd ys k : Int) = (lessN (wd xs k) (wd ys k) : Int) := u64_andNot_nat (wd xs k) (wd ys k) (hx.lt k) (hy.lt k)
      go_wp2_with (go_at_call 107; refine (word_any _ _ _ _ _ hy (by omega)).mono ?_; rintro e w' ⟨rfl, rfl⟩)
      · have hne : ((lessN (wd xs k) (wd ys k) : Int) != 0) = true := by assumption
        go_ret
        exact ⟨ret_b (by unfold inB; symm; rw [decide_eq_false_iff_not]; intro hh; have := hh k hlt; simp [this] at hne), rfl⟩
      · have heq : ((lessN (wd xs k) (wd ys k) : Int) != 0) = false := by assumption
        have h0 : lessN (wd xs k) (wd ys k) = 0 := by simpa using heq
        go_round
        case rel => exact ⟨k + 1, by omega, by go_num, fun j hj => by
          rcases Nat.lt_succ_iff_lt_or_eq.1 hj with h | h
          · exact hall.out j h
          · subst h; exact h0⟩
        case measure => simp [intOf]; omega
    · go_wp2
      go_ret
      exact ⟨ret_b (by unfold inB; symm; rw [decide_eq_true_iff]; intro j hj; exact hall.out j (by omega)), rfl⟩

/-- slices.Equal over words -/
theorem equalU_any (A A' : Option Addr) (c c' : Nat) (xs ys : List Nat) (w : World) (hx : RdU w w.heap.size A xs) (hy : RdU w w.heap.size A' ys) :
    Calls Tryd.prog 57 #[.slice A xs.length c, .slice A' ys.length c'] w fun e w' =>
      e = .returned (.bool (decide (xs = ys))) ∧ ∃ n, w' = w.drewN n := by
  have hr := hx.room
  have hr' := hy.room
  by_cases hlen : xs.length = ys.length
  · have hl : ((xs.length : Int) != (ys.length : Int)) = false := by simp; omega
    have HL := Lib.hid hlen
    clear hlen
    go_enter Tryd.func57, Tryd.ntmps57
    go_wp2
    go_loopw [13] (fun i wr => ∃ k n : Nat, k ≤ xs.length ∧ i = .int .i64 k ∧ wr = w.drewN n ∧ Hid (∀ j, j < k → wd xs j = wd ys j)) (fun i _ => xs.length - (intOf i).toNat)
    case atStart => exact ⟨0, 0, Nat.zero_le _, rfl, rfl, fun j hj => by omega⟩
    case round =>
      obtain ⟨k, n, hk, rfl, rfl, hall⟩ := hrel
      by_cases hlt : k < xs.length
      · have hlt' : k < ys.length := by have := HL.out; omega
        obtain ⟨b, off, rfl, _, hc⟩ := hx.rd (by omega)
        obtain ⟨b', off', rfl, _, hc'⟩ := hy.rd (by omega)
        have hci := hc k hlt
        have hci' := hc' k hlt'
        clear hc hc'
        by_cases he : wd xs k = wd ys k
        · have hb : ((wd xs k : Int) != (wd ys k : Int)) = false := by simp [he]
          have HE := Lib.hid he
          clear he
          go_wp2
          go_quiet (fail)
          go_wp2
          go_roundw
          case rel => exact ⟨k + 1, _, by omega, by go_num, rfl, fun j hj => by
            rcases Nat.lt_succ_iff_lt_or_eq.1 hj with h | h
            · exact hall.out j h
            · subst h; exact HE.out⟩
          case measure => simp [intOf]; omega
        · have hb : ((wd xs k : Int) != (wd ys k : Int)) = true := by simp; omega
          go_wp2
          go_quiet (fail)
          go_wp2
          go_ret
          exact ⟨ret_b (by symm; rw [decide_eq_false_iff_not]; rintro rfl; exact he rfl), _, World.drewN_drewN _ _ _⟩
      · go_wp2
        go_ret
        have := HL.out
        exact ⟨ret_b (by symm; rw [decide_eq_true_iff]; exact ext_wd xs ys (by omega) fun j hj => hall.out j (by omega)), _, rfl⟩
  · have hne : decide (xs = ys) = false := by
      rw [decide_eq_false_iff_not]; rintro rfl; exact hlen rfl
    have hl : ((xs.length : Int) != (ys.length : Int)) = true := by simp; omega
    go_enter Tryd.func57, Tryd.ntmps57
    go_wp2
    go_ret
    exact ⟨ret_b hne.symm, 0, rfl⟩

theorem bit_div (x j : Nat) : x.testBit j = decide (x / 2 ^ j % 2 = 1) := Nat.testBit_eq_decide_div_mod_eq
theorem half_step (x j : Nat) : x / 2 ^ j / 2 = x / 2 ^ (j + 1) := by rw [Nat.div_div_eq_div_mul, ← Nat.pow_succ]
theorem half_lt (x j : Nat) (h : x < 18446744073709551616) : x / 2 ^ j < 18446744073709551616 := Nat.lt_of_le_of_lt (Nat.div_le_self _ _) h

theorem odd_b (x : Nat) : ((x : Int) % 2 == 1) = decide (x % 2 = 1) := by rw [Bool.eq_iff_iff]; simp; omega
def hv (x j : Nat) : Nat := x / 2 ^ j
theorem abit_any (A : Option Addr) (c n : Nat) (xs : List Nat) (w : World) (hx : RdU w w.heap.size A xs) (hn : n ≤ 4611686018427387904) :
    Calls Tryd.prog 119 #[.slice A xs.length c, .int .i64 n] w fun e w' => e = .returned (.bool (bitB xs n)) ∧ w = w' := by
  have hr := hx.room
  by_cases hlt : n / 64 < xs.length
  · obtain ⟨b, off, rfl, _, hc⟩ := hx.rd (by omega)
    have hci := hc (n / 64) hlt
    have hwl := hx.lt (n / 64)
    clear hc
    go_enter Tryd.func119, Tryd.ntmps119
    go_wp2
    go_loop [5, 18] (fun x i => ∃ j : Nat, j ≤ n % 64 ∧ i = .int .i64 j ∧ x = .int .u64 (hv (wd xs (n / 64)) j : Int)) (fun _ i => 64 - (intOf i).toNat)
    case atStart => exact ⟨0, Nat.zero_le _, rfl, by simp [hv]⟩
    case round =>
      obtain ⟨j, hj, rfl, rfl⟩ := hrel
      have hh : hv (wd xs (n / 64)) j < 18446744073709551616 := half_lt _ _ hwl
      by_cases hjl : j < n % 64
      · go_wp2
        go_round
        case rel => exact ⟨j + 1, by omega, by go_num, by unfold hv; rw [← half_step]; simp⟩
        case measure => simp [intOf]; omega
      · go_wp2
        go_ret
        exact ⟨ret_b (by obtain rfl : j = n % 64 := by omega
                         unfold bitB; rw [bit_div]; unfold hv; exact odd_b _), rfl⟩
  · have hnl : (bitB xs n) = false := by unfold bitB; rw [wd_out xs _ (by omega)]; simp
    rw [hnl]
    clear hnl
    go_enter Tryd.func119, Tryd.ntmps119
    go_wp2
    go_ret
    exact ⟨rfl, rfl⟩
end Go.Proofs.YtaboafkpmgadmaaDoor
