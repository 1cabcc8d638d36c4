/-
  Contracts of the reference's HPlay and of ufind.Play, for every slice of at most 2^20 + 1 operations.
-/
import Derived.Test.YtafhljjekpaehaaUfN
namespace Go.Proofs.Ytafhljjekpaehaa
open Go.RowKit
set_option maxRecDepth 100000

theorem rdI_nilP (w : World) : RdI w w.heap.size none [] := ⟨fun k => by simp [zd], fun k => by simp [zd], by simp, fun h => absurd h (by simp)⟩
theorem hplay_any (n : Int) (A : Option Addr) (c : Nat) (ops : List SOp) (w : World) (ho : Rd3 w w.heap.size A ops) (hl : ops.length ≤ 1048577) :
    Calls Try.prog 8 #[.int .i64 n, .slice A ops.length c] w (PlayR n ops w) := by
  by_cases h : 0 ≤ n ∧ n ≤ 200
  · obtain ⟨N, rfl⟩ : ∃ N : Nat, n = (N : Int) := ⟨n.toNat, by omega⟩
    exact hplay_ok N (by omega) A c ops w ho hl
  · have hE : Hid (plE n = 2) := Lib.hid (if_neg h)
    have hL : Hid (plL n ops = []) := Lib.hid (if_neg h)
    rcases (show n < 0 ∨ (¬ n < 0 ∧ 200 < n) by omega) with h1 | ⟨h1, h2⟩
    all_goals
      clear h
      go_enter Try.func8, Try.ntmps8
      go_wp2_with fail
      go_ret2
      unfold PlayR
      rw [hE.out, hL.out]
      exact ⟨none, 0, rfl, Nat.le_refl _, rdI_nilP w, Below.refl _ _⟩
theorem play_any (n : Int) (A : Option Addr) (c : Nat) (ops : List SOp) (w : World) (ho : Rd3 w w.heap.size A ops) (hl : ops.length ≤ 1048577) :
    Calls Try.prog 7 #[.int .i64 n, .slice A ops.length c] w (PlayR n ops w) := by
  by_cases h : 0 ≤ n ∧ n ≤ 200
  · obtain ⟨N, rfl⟩ : ∃ N : Nat, n = (N : Int) := ⟨n.toNat, by omega⟩
    exact play_ok N (by omega) A c ops w ho hl
  · have hE : Hid (plE n = 2) := Lib.hid (if_neg h)
    have hL : Hid (plL n ops = []) := Lib.hid (if_neg h)
    rcases (show n < 0 ∨ (¬ n < 0 ∧ 200 < n) by omega) with h1 | ⟨h1, h2⟩
    all_goals
      clear h
      go_enter Try.func7, Try.ntmps7
      go_wp2_with fail
      go_ret2
      unfold PlayR
      rw [hE.out, hL.out]
      exact ⟨none, 0, rfl, Nat.le_refl _, rdI_nilP w, Below.refl _ _⟩
end Go.Proofs.Ytafhljjekpaehaa
