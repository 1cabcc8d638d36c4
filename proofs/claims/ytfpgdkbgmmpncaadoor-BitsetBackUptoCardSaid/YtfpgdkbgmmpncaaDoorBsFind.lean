/-
  slices.Contains answers true at an element, for every slice of ints.
-/
import Derived.Test.YtfpgdkbgmmpncaaDoorBsEqI
namespace Go.Proofs.YtfpgdkbgmmpncaaDoor
open Go.RowKit

theorem zd_of_mem {zs : List Int} {v : Int} (h : v ∈ zs) : ∃ k, k < zs.length ∧ zd zs k = v := by
  obtain ⟨k, hk, e⟩ := List.mem_iff_getElem.1 h
  exact ⟨k, hk, by unfold zd; simpa [List.getD, hk] using e⟩

theorem index_any (A : Option Addr) (c : Nat) (zs : List Int) (v : Int) (w : World) (hx : RdI w w.heap.size A zs) (hv : v ∈ zs) (h1 : -9223372036854775808 ≤ v) (h2 : v ≤ 9223372036854775807) :
    Calls Tryd.prog 31 #[.slice A zs.length c, .int .i64 v] w fun e w' => (∃ k : Nat, k < zs.length ∧ e = .returned (.int .i64 (k : Int))) ∧ w = w' := by
  obtain ⟨j0, hj0, hj1⟩ := zd_of_mem hv
  have hroom := hx.room
  have HJ := Lib.hid hj1
  clear hj1 hv
  go_enter Tryd.func31, Tryd.ntmps31
  go_wp2
  go_loop [8] (fun i => ∃ k : Nat, k ≤ zs.length ∧ i = .int .i64 k ∧ Hid (∀ j, j < k → zd zs j ≠ v)) (fun i => zs.length - (intOf i).toNat)
  case atStart => exact ⟨0, Nat.zero_le _, rfl, Lib.hid fun j hj => by omega⟩
  case round =>
    obtain ⟨k, hk, rfl, hall⟩ := hrel
    by_cases hlt : k < zs.length
    · obtain ⟨b, off, rfl, _, hc⟩ := hx.rd (by omega)
      have hci := hc k hlt
      clear hc
      by_cases he : zd zs k = v
      · have hb : (v == zd zs k) = true := by simp [he]
        have HE := Lib.hid he
        clear he
        go_wp2
        go_ret
        exact ⟨⟨k, hlt, rfl⟩, rfl⟩
      · have hb : (v == zd zs k) = false := by simp; exact fun e => he e.symm
        have HE := Lib.hid he
        clear he
        go_wp2
        go_round
        case rel => exact ⟨k + 1, by omega, by go_num, Lib.hid fun j hj => by
          rcases Nat.lt_or_ge j k with h | h
          · exact hall.out j h
          · obtain rfl : j = k := by omega
            exact HE.out⟩
        case measure => simp [intOf]; omega
    · exact absurd HJ.out (hall.out j0 (by omega))
theorem contains_any (A : Option Addr) (c : Nat) (zs : List Int) (v : Int) (w : World) (hx : RdI w w.heap.size A zs) (hv : v ∈ zs) (h1 : -9223372036854775808 ≤ v) (h2 : v ≤ 9223372036854775807) :
    Calls Tryd.prog 19 #[.slice A zs.length c, .int .i64 v] w fun e w' => e = .returned (.bool true) ∧ w = w' := by
  have hroom := hx.room
  go_enter Tryd.func19, Tryd.ntmps19
  go_wp2_with fail
  refine (index_any A c zs v _ hx hv h1 h2).mono ?_
  rintro e w' ⟨⟨k, hk, rfl⟩, rfl⟩
  go_wp2
  go_ret
  exact ⟨rfl, rfl⟩
end Go.Proofs.YtfpgdkbgmmpncaaDoor
