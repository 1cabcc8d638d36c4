/-
  slices.Equal over ints, for every two slices of ints.
-/
import Derived.Test.YtafhljjekpaehaaBsOps
namespace Go.Proofs.Ytafhljjekpaehaa
open Go.RowKit
set_option maxRecDepth 100000

theorem ext_zd (xs ys : List Int) (hl : xs.length = ys.length) (h : ∀ k, k < xs.length → zd xs k = zd ys k) : xs = ys := by
  apply List.ext_getElem hl
  intro i h1 h2
  have := h i h1
  unfold zd at this
  simpa [List.getD, h1, h2] using this
theorem RdI.step {w w' : World} {A : Option Addr} {xs : List Int} (h : RdI w w.heap.size A xs) (hb : Below w.heap.size w w') : RdI w' w'.heap.size A xs := (h.below hb).more hb.size

/-- slices.Equal over ints -/
theorem equalI_any (A A' : Option Addr) (c c' : Nat) (xs ys : List Int) (w : World) (hx : RdI w w.heap.size A xs) (hy : RdI w w.heap.size A' ys) :
    Calls Try.prog 9 #[.slice A xs.length c, .slice A' ys.length c'] w fun e w' =>
      e = .returned (.bool (decide (xs = ys))) ∧ ∃ n, w' = w.drewN n := by
  have hr := hx.room
  have hr' := hy.room
  by_cases hlen : xs.length = ys.length
  · have hl : ((xs.length : Int) != (ys.length : Int)) = false := by simp; omega
    have HL := Lib.hid hlen
    clear hlen
    go_enter Try.func9, Try.ntmps9
    go_wp2
    go_loopw [13] (fun i wr => ∃ k n : Nat, k ≤ xs.length ∧ i = .int .i64 k ∧ wr = w.drewN n ∧ Hid (∀ j, j < k → zd xs j = zd ys j)) (fun i _ => xs.length - (intOf i).toNat)
    case atStart => exact ⟨0, 0, Nat.zero_le _, rfl, rfl, fun j hj => by omega⟩
    case round =>
      obtain ⟨k, n, hk, rfl, rfl, hall⟩ := hrel
      by_cases hlt : k < xs.length
      · have hlt' : k < ys.length := by have := HL.out; omega
        obtain ⟨b, off, rfl, _, hc⟩ := hx.rd (by omega)
        obtain ⟨b', off', rfl, _, hc'⟩ := hy.rd (by omega)
        have hci := hc k hlt
        have hci' := hc' k hlt'
        clear hc hc'
        by_cases he : zd xs k = zd ys k
        · have hb : (zd xs k != zd ys k) = false := by simp [he]
          have HE := Lib.hid he
          clear he
          go_wp2
          go_quiet (fail)
          go_wp2
          go_roundw
          case rel => exact ⟨k + 1, _, by omega, by go_num, rfl, fun j hj => by
            rcases Nat.lt_succ_iff_lt_or_eq.1 hj with h | h
            · exact hall.out j h
            · subst h; exact HE.out⟩
          case measure => simp [intOf]; omega
        · have hb : (zd xs k != zd ys k) = true := by simp; omega
          go_wp2
          go_quiet (fail)
          go_wp2
          go_ret
          exact ⟨ret_b (by symm; rw [decide_eq_false_iff_not]; rintro rfl; exact he rfl), _, World.drewN_drewN _ _ _⟩
      · go_wp2
        go_ret
        have := HL.out
        exact ⟨ret_b (by symm; rw [decide_eq_true_iff]; exact ext_zd xs ys (by omega) fun j hj => hall.out j (by omega)), _, rfl⟩
  · have hne : decide (xs = ys) = false := by
      rw [decide_eq_false_iff_not]; rintro rfl; exact hlen rfl
    have hl : ((xs.length : Int) != (ys.length : Int)) = true := by simp; omega
    go_enter Try.func9, Try.ntmps9
    go_wp2
    go_ret
    exact ⟨ret_b hne.symm, 0, rfl⟩

theorem equalI_same (A A' : Option Addr) (c c' : Nat) (xs : List Int) (w : World) (hx : RdI w w.heap.size A xs) (hy : RdI w w.heap.size A' xs) :
    Calls Try.prog 9 #[.slice A xs.length c, .slice A' xs.length c'] w fun e w' => e = .returned (.bool true) ∧ Below w.heap.size w w' :=
  (equalI_any A A' c c' xs xs w hx hy).mono fun _ _ ⟨he, n, hw⟩ => ⟨by rw [he, decide_eq_true rfl], by rw [hw]; exact below_drewN (Below.refl _ _) n⟩
end Go.Proofs.Ytafhljjekpaehaa
