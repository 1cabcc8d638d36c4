/-
  Contracts of the two inverse functions: the number that gives 1 modulo 2^64.
-/
import Derived.Test.YtafdpimkfkddaaaDoorSpN
import Derived.Test.YtafdpimkfkddaaaDoorSpL
import Derived.Test.YtafdpimkfkddaaaDoorBsTz
namespace Go.Proofs.YtafdpimkfkddaaaDoor
open Go.RowKit
set_option maxRecDepth 100000

theorem u64_wrap (x : Int) : IntKind.u64.wrap x = x % 18446744073709551616 := by simp [IntKind.wrap, IntKind.signed, IntKind.bits]

theorem inv_any (x : Nat) (w : World) (h : x % 2 = 1) (hx : x < 18446744073709551616) :
    Calls Tryd.prog 77 #[.int .u64 (x : Int)] w fun e w' => (∃ v : Int, e = .returned (.int .u64 v) ∧ 0 ≤ v ∧ v < 18446744073709551616 ∧ ((x : Int) * v) % 18446744073709551616 = 1) ∧ w = w' := by
  have h0 := odd_start x h
  have H0 := Lib.hid h0
  clear h0
  go_enter Tryd.func77, Tryd.ntmps77
  go_wp2_with fail
  go_loopw [3, 5] (fun v i wr => ∃ (k : Nat) (z : Int), k ≤ 5 ∧ i = .int .i64 k ∧ v = .int .u64 z ∧ Hid (0 ≤ z ∧ z < 18446744073709551616) ∧ Hid (((2 : Int) ^ ek k) ∣ (x : Int) * z - 1) ∧ wr = w) (fun _ i _ => 5 - (intOf i).toNat)
  case atStart => exact ⟨0, (x : Int), by omega, rfl, rfl, Lib.hid ⟨by omega, by omega⟩, H0, rfl⟩
  case round =>
    obtain ⟨k, z, hk, rfl, rfl, hz, hd, rfl⟩ := hrel
    by_cases hlt : k < 5
    · have n1 : (k : Int) < 5 := by omega
      go_wp2_with fail
      go_roundw
      case rel =>
        refine ⟨k + 1, _, by omega, by go_num, rfl, Lib.hid ⟨?_, ?_⟩, Lib.hid ?_, trivial⟩
        · rw [u64_wrap]; omega
        · rw [u64_wrap]; omega
        · rw [u64_wrap, u64_wrap, u64_wrap]
          obtain ⟨s, hs⟩ := newton_mod (x : Int) z 18446744073709551616
          exact newton hd.out (ek_step k).1 (ek_step k).2 hs
      case measure => simp [intOf]; omega
    · obtain rfl : k = 5 := by omega
      go_wp2_with fail
      go_ret
      exact ⟨⟨z, rfl, hz.out.1, hz.out.2, inv_end 5 (Nat.le_refl _) hd.out⟩, rfl⟩
theorem rinv_any (x : Nat) (w : World) (h : x % 2 = 1) (hx : x < 18446744073709551616) :
    Calls Tryd.prog 30 #[.int .u64 (x : Int)] w fun e w' => (∃ v : Int, e = .returned (.int .u64 v) ∧ 0 ≤ v ∧ v < 18446744073709551616 ∧ ((x : Int) * v) % 18446744073709551616 = 1) ∧ w = w' := by
  have h0 := odd_start x h
  have H0 := Lib.hid h0
  clear h0
  go_enter Tryd.func30, Tryd.ntmps30
  go_wp2_with fail
  go_loopw [3, 5] (fun v i wr => ∃ (k : Nat) (z : Int), k ≤ 6 ∧ i = .int .i64 k ∧ v = .int .u64 z ∧ Hid (0 ≤ z ∧ z < 18446744073709551616) ∧ Hid (((2 : Int) ^ ek k) ∣ (x : Int) * z - 1) ∧ wr = w) (fun _ i _ => 6 - (intOf i).toNat)
  case atStart => exact ⟨0, (x : Int), by omega, rfl, rfl, Lib.hid ⟨by omega, by omega⟩, H0, rfl⟩
  case round =>
    obtain ⟨k, z, hk, rfl, rfl, hz, hd, rfl⟩ := hrel
    by_cases hlt : k < 6
    · have n1 : (k : Int) < 6 := by omega
      go_wp2_with fail
      go_roundw
      case rel =>
        refine ⟨k + 1, _, by omega, by go_num, rfl, Lib.hid ⟨?_, ?_⟩, Lib.hid ?_, trivial⟩
        · rw [u64_wrap]; omega
        · rw [u64_wrap]; omega
        · rw [u64_wrap, u64_wrap, u64_wrap]
          obtain ⟨s, hs⟩ := newton_mod (x : Int) z 18446744073709551616
          exact newton hd.out (ek_step k).1 (ek_step k).2 hs
      case measure => simp [intOf]; omega
    · obtain rfl : k = 6 := by omega
      go_wp2_with fail
      go_ret
      exact ⟨⟨z, rfl, hz.out.1, hz.out.2, inv_end 6 (by omega) hd.out⟩, rfl⟩
end Go.Proofs.YtafdpimkfkddaaaDoor
