/-
  Contracts of the program's isOperation, truth, divide, remainder and apply: an operation's answer on two numbers.
-/
import Derived.Test.YtinbcdadffljhaaExM
import Derived.Test.YtinbcdadffljhaaBsOps
import Derived.WalkKit
import Derived.Deep.QuietTactic
namespace Go.Proofs.Ytinbcdadffljhaa
open Go.RowKit
set_option maxRecDepth 100000

theorem w64 (x : Int) : wrap64 x = wr x := by
  unfold wr wrap64
  rw [IntKind.wrap_i64]
theorem isop_any (k : Int) (w : World) : Calls Try.prog 51 #[.int .i64 k] w fun e w' => e = .returned (.bool (decide (3 ≤ k) && decide (k ≤ 9))) ∧ w' = w := by
  by_cases h3 : 3 ≤ k
  · by_cases h9 : k ≤ 9
    · rw [decide_eq_true h3, decide_eq_true h9]
      go_enter Try.func51, Try.ntmps51
      go_wp2_with fail
      go_ret
      exact ⟨rfl, rfl⟩
    · rw [decide_eq_true h3, decide_eq_false h9]
      go_enter Try.func51, Try.ntmps51
      go_wp2_with fail
      go_ret
      exact ⟨rfl, rfl⟩
  · rw [decide_eq_false h3, Bool.false_and]
    go_enter Try.func51, Try.ntmps51
    go_wp2_with fail
    go_ret
    exact ⟨rfl, rfl⟩
theorem truth_any (b : Bool) (w : World) : Calls Try.prog 50 #[.bool b] w fun e w' => e = .returned (.int .i64 (if b then 1 else 0)) ∧ w' = w := by
  cases b
  all_goals
    simp only [Bool.false_eq_true, if_true, if_false]
    go_enter Try.func50, Try.ntmps50
    go_wp2_with fail
    go_ret
    exact ⟨rfl, rfl⟩
theorem pdiv_any (x y : Int) (w : World) : Calls Try.prog 48 #[.int .i64 x, .int .i64 y] w fun e w' => e = .returned (.int .i64 (if y = 0 then 0 else wr (x.tdiv y))) ∧ w' = w := by
  by_cases h0 : y = 0
  · subst h0
    rw [if_pos rfl]
    go_enter Try.func48, Try.ntmps48
    go_wp2_with fail
    go_ret
    exact ⟨rfl, rfl⟩
  · rw [if_neg h0]
    have h1 : (y == 0) = false := by simpa using h0
    go_enter Try.func48, Try.ntmps48
    go_wp2_with fail
    go_ret
    exact ⟨ret_n (w64 _), rfl⟩
theorem prem_any (x y : Int) (w : World) (hx : inI x) : Calls Try.prog 49 #[.int .i64 x, .int .i64 y] w fun e w' => e = .returned (.int .i64 (if y = 0 then 0 else x.tmod y)) ∧ w' = w := by
  by_cases h0 : y = 0
  · subst h0
    rw [if_pos rfl]
    go_enter Try.func49, Try.ntmps49
    go_wp2_with fail
    go_ret
    exact ⟨rfl, rfl⟩
  · rw [if_neg h0]
    have h1 : (y == 0) = false := by simpa using h0
    have h2 : IntKind.i64.wrap (x.tmod y) = x.tmod y := wr_id (tmod_in hx)
    clear hx
    go_enter Try.func49, Try.ntmps49
    go_wp2_with fail
    go_ret
    exact ⟨rfl, rfl⟩
theorem apply_any (k x y : Int) (w : World) (hk : 3 ≤ k ∧ k ≤ 9) (hx : inI x) :
    Calls Try.prog 30 #[.int .i64 k, .int .i64 x, .int .i64 y] w fun e w' => e = .returned (.int .i64 (ar k x y)) ∧ w' = w := by
  have h6 := pdiv_any x y w
  have h7 := prem_any x y w hx
  clear hx
  rcases (show k = 3 ∨ k = 4 ∨ k = 5 ∨ k = 6 ∨ k = 7 ∨ k = 8 ∨ k = 9 by omega) with rfl | rfl | rfl | rfl | rfl | rfl | rfl
  · show Calls _ _ _ _ fun e w' => e = .returned (.int .i64 (wr (x + y))) ∧ w' = w
    go_enter Try.func30, Try.ntmps30
    go_wp2_with fail
    go_ret
    exact ⟨ret_n (w64 _), rfl⟩
  · show Calls _ _ _ _ fun e w' => e = .returned (.int .i64 (wr (x - y))) ∧ w' = w
    go_enter Try.func30, Try.ntmps30
    go_wp2_with fail
    go_ret
    exact ⟨ret_n (w64 _), rfl⟩
  · show Calls _ _ _ _ fun e w' => e = .returned (.int .i64 (wr (x * y))) ∧ w' = w
    go_enter Try.func30, Try.ntmps30
    go_wp2_with fail
    go_ret
    exact ⟨ret_n (w64 _), rfl⟩
  · show Calls _ _ _ _ fun e w' => e = .returned (.int .i64 (if y = 0 then 0 else wr (x.tdiv y))) ∧ w' = w
    obtain ⟨V, hV⟩ : ∃ V, V = (if y = 0 then 0 else wr (x.tdiv y)) := ⟨_, rfl⟩
    rw [← hV] at h6 ⊢
    clear hV h7 hk
    go_enter Try.func30, Try.ntmps30
    go_wp2_with fail
    refine h6.mono ?_
    rintro e w' ⟨rfl, rfl⟩
    go_wp2_with fail
    go_ret
    exact ⟨rfl, rfl⟩
  · show Calls _ _ _ _ fun e w' => e = .returned (.int .i64 (if y = 0 then 0 else x.tmod y)) ∧ w' = w
    obtain ⟨V, hV⟩ : ∃ V, V = (if y = 0 then 0 else x.tmod y) := ⟨_, rfl⟩
    rw [← hV] at h7 ⊢
    clear hV h6 hk
    go_enter Try.func30, Try.ntmps30
    go_wp2_with fail
    refine h7.mono ?_
    rintro e w' ⟨rfl, rfl⟩
    go_wp2_with fail
    go_ret
    exact ⟨rfl, rfl⟩
  · have e : ar 8 x y = if x < y then 1 else 0 := by unfold ar; simp
    rw [e]
    clear e h6 h7 hk
    by_cases h : x < y
    · have h8 := truth_any true w
      rw [if_pos h]
      simp only [if_true] at h8
      go_enter Try.func30, Try.ntmps30
      go_wp2_with fail
      refine h8.mono ?_
      rintro e w' ⟨rfl, rfl⟩
      go_wp2_with fail
      go_ret
      exact ⟨rfl, rfl⟩
    · have h8 := truth_any false w
      rw [if_neg h]
      simp only [Bool.false_eq_true, if_false] at h8
      go_enter Try.func30, Try.ntmps30
      go_wp2_with fail
      refine h8.mono ?_
      rintro e w' ⟨rfl, rfl⟩
      go_wp2_with fail
      go_ret
      exact ⟨rfl, rfl⟩
  · have e : ar 9 x y = if x = y then 1 else 0 := by unfold ar; simp
    rw [e]
    clear e h6 h7 hk
    by_cases h : x = y
    · have h8 := truth_any true w
      have h9 : (x == y) = true := by simpa using h
      rw [if_pos h]
      clear h
      simp only [if_true] at h8
      go_enter Try.func30, Try.ntmps30
      go_wp2_with fail
      refine h8.mono ?_
      rintro e w' ⟨rfl, rfl⟩
      go_wp2_with fail
      go_ret
      exact ⟨rfl, rfl⟩
    · have h8 := truth_any false w
      have h9 : (x == y) = false := by simpa using h
      rw [if_neg h]
      clear h
      simp only [Bool.false_eq_true, if_false] at h8
      go_enter Try.func30, Try.ntmps30
      go_wp2_with fail
      refine h8.mono ?_
      rintro e w' ⟨rfl, rfl⟩
      go_wp2_with fail
      go_ret
      exact ⟨rfl, rfl⟩
end Go.Proofs.Ytinbcdadffljhaa
