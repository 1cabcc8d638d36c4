/-
  Contracts of bitset.word, of the three closures, of Within, of slices.Equal over words and of the reference's test of one bit. For every slice of words.
-/
import Derived.Test.YtmnhdboakpaibaaBsMath
import Derived.Test.YtmnhdboakpaibaaChecked
import Derived.Deep.QuietTactic
import Derived.BigQuiet
import Derived.Lib.Hide
namespace Go.Proofs.Ytmnhdboakpaibaa
open Go.RowKit
set_option maxRecDepth 100000

theorem ret_b {a b : Bool} (h : a = b) : Ending.returned (.bool a) = .returned (.bool b) := by rw [h]
theorem ret_n {k : IntKind} {a b : Int} (h : a = b) : Ending.returned (.int k a) = .returned (.int k b) := by rw [h]

/-- is every word of xs within that of ys? -/
def inB (xs ys : List Nat) : Bool := decide (∀ k, k < xs.length → lessN (wd xs k) (wd ys k) = 0)

/-- slices.Equal over words -/
theorem equalU_any (A A' : Option Addr) (c c' : Nat) (xs ys : List Nat) (w : World) (hx : RdU w w.heap.size A xs) (hy : RdU w w.heap.size A' ys) :
    Calls Try.prog 9 #[.slice A xs.length c, .slice A' ys.length c'] w fun e w' =>
      e = .returned (.bool (decide (xs = ys))) ∧ ∃ n, w' = w.drewN n := by
  have hr := hx.room
  have hr' := hy.room
  by_cases hlen : xs.length = ys.length
  · have hl : ((xs.length : Int) != (ys.length : Int)) = false := by simp; omega
    have HL := Lib.hid hlen
    clear hlen
    go_enter Try.func9, Try.ntmps9
    go_wp2
    go_loopw [13] (fun i wr => ∃ k n : Nat, k ≤ xs.length ∧ i = .int .i64 k ∧ wr = w.drewN n ∧ Hid (∀ j, j < k → wd xs j = wd ys j)) (fun i _ => xs.length - (intOf i).toNat)
    case atStart => exact ⟨0, 0, Nat.zero_le _, rfl, rfl, fun j hj => by omega⟩
    case round =>
      obtain ⟨k, n, hk, rfl, rfl, hall⟩ := hrel
      by_cases hlt : k < xs.length
      · have hlt' : k < ys.length := by have := HL.out; omega
        obtain ⟨b, off, rfl, _, hc⟩ := hx.rd (by omega)
        obtain ⟨b', off', rfl, _, hc'⟩ := hy.rd (by omega)
        have hci := hc k hlt
        have hci' := hc' k hlt'
        clear hc hc'
        by_cases he : wd xs k = wd ys k
        · have hb : ((wd xs k : Int) != (wd ys k : Int)) = false := by simp [he]
          have HE := Lib.hid he
          clear he
          go_wp2
          go_quiet (fail)
          go_wp2
          go_roundw
          case rel => exact ⟨k + 1, _, by omega, by go_num, rfl, fun j hj => by
            rcases Nat.lt_succ_iff_lt_or_eq.1 hj with h | h
            · exact hall.out j h
            · subst h; exact HE.out⟩
          case measure => simp [intOf]; omega
        · have hb : ((wd xs k : Int) != (wd ys k : Int)) = true := by simp; omega
          go_wp2
          go_quiet (fail)
          go_wp2
          go_ret
          exact ⟨ret_b (by symm; rw [decide_eq_false_iff_not]; rintro rfl; exact he rfl), _, World.drewN_drewN _ _ _⟩
      · go_wp2
        go_ret
        have := HL.out
        exact ⟨ret_b (by symm; rw [decide_eq_true_iff]; exact ext_wd xs ys (by omega) fun j hj => hall.out j (by omega)), _, rfl⟩
  · have hne : decide (xs = ys) = false := by
      rw [decide_eq_false_iff_not]; rintro rfl; exact hlen rfl
    have hl : ((xs.length : Int) != (ys.length : Int)) = true := by simp; omega
    go_enter Try.func9, Try.ntmps9
    go_wp2
    go_ret
    exact ⟨ret_b hne.symm, 0, rfl⟩

theorem bit_div (x j : Nat) : x.testBit j = decide (x / 2 ^ j % 2 = 1) := Nat.testBit_eq_decide_div_mod_eq
theorem half_step (x j : Nat) : x / 2 ^ j / 2 = x / 2 ^ (j + 1) := by rw [Nat.div_div_eq_div_mul, ← Nat.pow_succ]
theorem half_lt (x j : Nat) (h : x < 18446744073709551616) : x / 2 ^ j < 18446744073709551616 := Nat.lt_of_le_of_lt (Nat.div_le_self _ _) h

theorem odd_b (x : Nat) : ((x : Int) % 2 == 1) = decide (x % 2 = 1) := by rw [Bool.eq_iff_iff]; simp; omega
def hv (x j : Nat) : Nat := x / 2 ^ j
end Go.Proofs.Ytmnhdboakpaibaa
