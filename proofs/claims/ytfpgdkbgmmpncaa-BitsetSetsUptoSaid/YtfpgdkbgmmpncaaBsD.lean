/-
  The reference's choice by bits (forkwrightref.AWhere) at the three choices of the law, for every two slices of at most 2^20 words; And, Or, Less by their merge.
-/
import Derived.Test.YtfpgdkbgmmpncaaBsC
import Derived.Test.YtfpgdkbgmmpncaaBsB
namespace Go.Proofs.Ytfpgdkbgmmpncaa
open Go.RowKit

def fL (a b : Bool) : Bool := a && !b
def fA (a b : Bool) : Bool := a && b
def fO (a b : Bool) : Bool := a || b

def lenOf : Value → Nat | .slice _ n _ => n | _ => 0
theorem u64_zero : Value.int .u64 0 = Value.int .u64 ((0 : Nat) : Int) := rfl
theorem put_val (p : Nat → Bool) (k : Nat) (hp : p k = true) : IntKind.u64.wrap ((wd (awl p k) (k / 64) : Int) + IntKind.u64.wrap (2 ^ (k % 64))) = ((wd (awl p k) (k / 64) + 2 ^ (k % 64) : Nat) : Int) := by
  have h := (awl_ok p (k + 1)).1 (k / 64)
  have hl : (awl p k).length ≤ k / 64 + 1 := by have := awl_len p k; omega
  rw [awl_yes p k hp, wd_put _ _ _ hl, if_pos rfl] at h
  have hr : 2 ^ (k % 64) ≤ 2 ^ 63 := Nat.pow_le_pow_right (by omega) (by omega)
  have hr2 : 0 < 2 ^ (k % 64) := Nat.pow_pos (by omega)
  have e : ((2 : Int) ^ (k % 64)) = ((2 ^ (k % 64) : Nat) : Int) := by simp
  rw [e, IntKind.wrap_u64, IntKind.wrap_u64]
  omega
theorem uVals_set (L : List Nat) (i x : Nat) : (uVals L).set i (.int .u64 (x : Int)) = uVals (L.set i x) := by
  unfold uVals; rw [List.map_set]
theorem rel_put {wr : World} {B E g c2 k t : Nat} {p : Nat → Bool} (hown2 : wr.ownsRow B E 1 (.slice (some ⟨g, 0, none⟩) ((awl p k).length + t) c2) ((awl p k).length + t) (uVals (awl p k ++ List.replicate t 0)))
    (hL : (awl p k).length + t = k / 64 + 1) (hp : p k = true) :
    (wr.setCell ⟨g, k / 64, none⟩ (.int .u64 (IntKind.u64.wrap ((wd (awl p k) (k / 64) : Int) + IntKind.u64.wrap (2 ^ (k % 64)))))).drew.ownsRow B E 1 (.slice (some ⟨g, 0, none⟩) ((awl p k).length + t) c2) (awl p (k + 1)).length (uVals (awl p (k + 1))) := by
  have hl : (awl p k).length ≤ k / 64 + 1 := by omega
  have e : awl p k ++ List.replicate t 0 = ext (awl p k) (k / 64) := by unfold ext; rw [show k / 64 + 1 - (awl p k).length = t by omega]
  have h := (hown2.stored (k / 64) (.int .u64 ((wd (awl p k) (k / 64) + 2 ^ (k % 64) : Nat) : Int))).1
  rw [put_val p k hp, awl_yes p k hp, put_len _ _ hl]
  rw [uVals_set, e, hL] at h
  rw [hL]
  exact h.drew
theorem app_zero (L : List Nat) (t : Nat) : (L ++ List.replicate t 0) ++ [0] = L ++ List.replicate (t + 1) 0 := by
  rw [List.append_assoc, List.replicate_succ', ]

theorem closfL_any (a b : Bool) (w : World) : Calls Try.prog 5 #[.bool a, .bool b] w fun e w' => e = .returned (.bool (fL a b)) ∧ w = w' := by
  cases a <;> cases b <;> (go_enter Try.func5, Try.ntmps5; go_wp2; go_ret; exact ⟨rfl, rfl⟩)

set_option maxHeartbeats 2000000 in
theorem awherefL_any (A A' : Option Addr) (c c' : Nat) (xs ys : List Nat) (w : World) (hx : RdU w w.heap.size A xs) (hy : RdU w w.heap.size A' ys) (hxl : xs.length ≤ 1048576) (hyl : ys.length ≤ 1048576) :
    Calls Try.prog 4 #[.slice A xs.length c, .slice A' ys.length c', .func (.func 5) #[] #[]] w fun e w' => ∃ v zs, e = .returned v ∧ zs = awl (fun n => fL (bitB xs n) (bitB ys n)) (64 * max xs.length ys.length) ∧ w'.ownsRow w.heap.size 26 1 v zs.length (uVals zs) ∧ Below w.heap.size w w' := by
  obtain ⟨i0, hi, hz0, hz1, hz2⟩ := info_parts Try.infoU64
  obtain ⟨p, hp⟩ : ∃ p : Nat → Bool, p = fun n => fL (bitB xs n) (bitB ys n) := ⟨_, rfl⟩
  obtain ⟨N, hN⟩ : ∃ N, N = max xs.length ys.length := ⟨_, rfl⟩
  have hNl : N ≤ 1048576 := by omega
  have HP : Hid (∀ n, fL (bitB xs n) (bitB ys n) = p n) := fun n => by rw [hp]
  rw [← hp, ← hN]
  have HN := Lib.hid hN
  clear hp hN
  go_enter Try.func4, Try.ntmps4
  go_wp2
  all_goals
    obtain ⟨X, hX, hN1, hN2⟩ : ∃ X, (X = xs.length ∨ X = ys.length) ∧ N ≤ X ∧ X ≤ N := by
      have := HN.out
      first | exact ⟨ys.length, .inr rfl, by omega, by omega⟩ | exact ⟨xs.length, .inl rfl, by omega, by omega⟩
    have hN3 : (N ≤ ys.length ∧ ys.length ≤ N) ∨ (N ≤ xs.length ∧ xs.length ≤ N) := by omega
    clear hX hN1 hN2
    first
      | (have hN1 : N ≤ ys.length := by have := HN.out; omega)
      | (have hN1 : N ≤ xs.length := by have := HN.out; omega)
    have hNx : xs.length ≤ N := by have := HN.out; omega
    have hNy : ys.length ≤ N := by have := HN.out; omega
    clear hN3
    go_loopw [7, 15] (fun v i wr => ∃ k : Nat, k ≤ 64 * N ∧ i = .int .i64 k ∧ wr.ownsRow w.heap.size 26 1 v (awl p k).length (uVals (awl p k)) ∧ Below w.heap.size w wr) (fun _ i _ => 64 * N - (intOf i).toNat)
    case atStart => exact ⟨0, Nat.zero_le _, rfl, World.ownsRow_nil _ _ _ _, Below.refl _ _⟩
    case round =>
      obtain ⟨k, hk, rfl, hown, hB⟩ := hrel
      have hle := awl_len p k
      by_cases hlt : k < 64 * N
      · have hsz := hB.size
        have hxr : RdU wr wr.heap.size A xs := (hx.below hB).more hsz
        have hyr : RdU wr wr.heap.size A' ys := (hy.below hB).more hsz
        by_cases hpk : p k = true
        · have hq : fL (bitB xs k) (bitB ys k) = true := (HP.out k).trans hpk
          have HPK := Lib.hid hpk
          clear hpk
          go_wp2_with (first | (go_at_call 15; (first | (with_reducible refine (abit_any _ _ _ _ _ hxr (by omega)).mono ?_) | (with_reducible refine (abit_any _ _ _ _ _ hyr (by omega)).mono ?_)); rintro e w' ⟨rfl, rfl⟩) | (go_at_call 5; refine (closfL_any _ _ _).mono ?_; rintro e w' ⟨rfl, rfl⟩))
          clear hq hxr hyr
          obtain ⟨wo, rfl⟩ : ∃ wo : World, wo = wr := ⟨_, rfl⟩
          go_loopw [7] (fun v2 wr2 => ∃ t : Nat, (awl p k).length + t ≤ k / 64 + 1 ∧ wr2.ownsRow w.heap.size 26 1 v2 ((awl p k).length + t) (uVals (awl p k ++ List.replicate t 0)) ∧ Below w.heap.size w wr2) (fun v2 _ => k / 64 + 1 - lenOf v2)
          case atStart => exact ⟨0, by omega, by simpa using hown, hB⟩
          case round =>
            obtain ⟨t, ht, hown2, hB2⟩ := hrel
            clear hown hB hsz
            have hsz2 := hB2.size
            obtain ⟨A2, c2, rfl⟩ := own_any hown2
            by_cases hin : (awl p k).length + t ≤ k / 64
            · go_wp2_with (at_builtin; refine wpList_append_own _ rfl _ _ 22 rfl w.heap.size 26 i0 (.int .u64 0) 1 8 Try.underlying22 hi hz0 hz1 hz2 rfl (by decide) _ _ _ rfl (hown2.alloc _) ⟨wr.heap.size, 0, none⟩ 1 1 [.int .u64 0] rfl rfl (cell_one_new _ _ _) (by simp [Value.oneCell']) (by unfold maxLen; omega) (by omega) (by simp; omega) ?_; intro v' w1 hown' hgrow _)
              have hB3 := below_app hB2 hsz2 hown2 hgrow
              have hown3 : w1.ownsRow w.heap.size 26 1 v' ((awl p k).length + (t + 1)) (uVals (awl p k ++ List.replicate (t + 1) 0)) := by
                rw [u64_zero, uVals_snoc, app_zero] at hown'
                exact hown'
              obtain ⟨A3, c3, rfl⟩ := own_any hown3
              clear hown' hgrow hown2 hB2
              go_roundw
              case rel => exact ⟨t + 1, by omega, hown3, hB3⟩
              case measure => simp [lenOf]; omega
            · obtain ⟨g, cap, hA2, hbg, hglt⟩ := own_shape hown2 (by omega)
              injection hA2 with hA2 _ hc2
              subst hA2
              subst hc2
              have hL : (awl p k).length + t = k / 64 + 1 := by omega
              have hwl : (uVals (awl p k ++ List.replicate t 0))[k / 64]? = some (.int .u64 (wd (awl p k) (k / 64) : Int)) := by
                rw [uVals_at _ _ (by simp; omega), ← wd_ext (awl p k) (k / 64)]
                unfold ext
                rw [show k / 64 + 1 - (awl p k).length = t by omega]
              have hcell : wr.cell? ⟨g, k / 64, none⟩ = some (.int .u64 (wd (awl p k) (k / 64) : Int)) := by
                rw [hown2.cellAt (k / 64) (by omega)]; exact hwl
              have hfz : wr.frozen? ⟨g, k / 64, none⟩ = false := hown2.frozenAt _
              have hLi : k / 64 < (awl p k).length + t := by omega
              have HL := Lib.hid hL
              clear hL hwl
              go_wp2
              go_region
              go_wp2
              go_roundw
              case rel => exact ⟨k + 1, by omega, by go_num, rel_put hown2 HL.out HPK.out, (hB2.setCell (p := ⟨g, k / 64, none⟩) hbg _).drew⟩
              case measure => simp [intOf]; omega
        · have hq : fL (bitB xs k) (bitB ys k) = false := (HP.out k).trans (by simpa using hpk)
          have HPK : Hid (p k = false) := Lib.hid (by simpa using hpk)
          clear hpk
          go_wp2_with (first | (go_at_call 15; (first | (with_reducible refine (abit_any _ _ _ _ _ hxr (by omega)).mono ?_) | (with_reducible refine (abit_any _ _ _ _ _ hyr (by omega)).mono ?_)); rintro e w' ⟨rfl, rfl⟩) | (go_at_call 5; refine (closfL_any _ _ _).mono ?_; rintro e w' ⟨rfl, rfl⟩))
          go_roundw
          case rel => exact ⟨k + 1, by omega, by go_num, by rw [awl_no p k HPK.out]; exact hown, hB⟩
          case measure => simp [intOf]; omega
      · go_wp2
        go_ret
        obtain rfl : k = 64 * N := by omega
        exact ⟨_, _, rfl, rfl, hown, hB⟩

theorem closfA_any (a b : Bool) (w : World) : Calls Try.prog 8 #[.bool a, .bool b] w fun e w' => e = .returned (.bool (fA a b)) ∧ w = w' := by
  cases a <;> cases b <;> (go_enter Try.func8, Try.ntmps8; go_wp2; go_ret; exact ⟨rfl, rfl⟩)

set_option maxHeartbeats 2000000 in
theorem awherefA_any (A A' : Option Addr) (c c' : Nat) (xs ys : List Nat) (w : World) (hx : RdU w w.heap.size A xs) (hy : RdU w w.heap.size A' ys) (hxl : xs.length ≤ 1048576) (hyl : ys.length ≤ 1048576) :
    Calls Try.prog 4 #[.slice A xs.length c, .slice A' ys.length c', .func (.func 8) #[] #[]] w fun e w' => ∃ v zs, e = .returned v ∧ zs = awl (fun n => fA (bitB xs n) (bitB ys n)) (64 * max xs.length ys.length) ∧ w'.ownsRow w.heap.size 26 1 v zs.length (uVals zs) ∧ Below w.heap.size w w' := by
  obtain ⟨i0, hi, hz0, hz1, hz2⟩ := info_parts Try.infoU64
  obtain ⟨p, hp⟩ : ∃ p : Nat → Bool, p = fun n => fA (bitB xs n) (bitB ys n) := ⟨_, rfl⟩
  obtain ⟨N, hN⟩ : ∃ N, N = max xs.length ys.length := ⟨_, rfl⟩
  have hNl : N ≤ 1048576 := by omega
  have HP : Hid (∀ n, fA (bitB xs n) (bitB ys n) = p n) := fun n => by rw [hp]
  rw [← hp, ← hN]
  have HN := Lib.hid hN
  clear hp hN
  go_enter Try.func4, Try.ntmps4
  go_wp2
  all_goals
    obtain ⟨X, hX, hN1, hN2⟩ : ∃ X, (X = xs.length ∨ X = ys.length) ∧ N ≤ X ∧ X ≤ N := by
      have := HN.out
      first | exact ⟨ys.length, .inr rfl, by omega, by omega⟩ | exact ⟨xs.length, .inl rfl, by omega, by omega⟩
    have hN3 : (N ≤ ys.length ∧ ys.length ≤ N) ∨ (N ≤ xs.length ∧ xs.length ≤ N) := by omega
    clear hX hN1 hN2
    first
      | (have hN1 : N ≤ ys.length := by have := HN.out; omega)
      | (have hN1 : N ≤ xs.length := by have := HN.out; omega)
    have hNx : xs.length ≤ N := by have := HN.out; omega
    have hNy : ys.length ≤ N := by have := HN.out; omega
    clear hN3
    go_loopw [7, 15] (fun v i wr => ∃ k : Nat, k ≤ 64 * N ∧ i = .int .i64 k ∧ wr.ownsRow w.heap.size 26 1 v (awl p k).length (uVals (awl p k)) ∧ Below w.heap.size w wr) (fun _ i _ => 64 * N - (intOf i).toNat)
    case atStart => exact ⟨0, Nat.zero_le _, rfl, World.ownsRow_nil _ _ _ _, Below.refl _ _⟩
    case round =>
      obtain ⟨k, hk, rfl, hown, hB⟩ := hrel
      have hle := awl_len p k
      by_cases hlt : k < 64 * N
      · have hsz := hB.size
        have hxr : RdU wr wr.heap.size A xs := (hx.below hB).more hsz
        have hyr : RdU wr wr.heap.size A' ys := (hy.below hB).more hsz
        by_cases hpk : p k = true
        · have hq : fA (bitB xs k) (bitB ys k) = true := (HP.out k).trans hpk
          have HPK := Lib.hid hpk
          clear hpk
          go_wp2_with (first | (go_at_call 15; (first | (with_reducible refine (abit_any _ _ _ _ _ hxr (by omega)).mono ?_) | (with_reducible refine (abit_any _ _ _ _ _ hyr (by omega)).mono ?_)); rintro e w' ⟨rfl, rfl⟩) | (go_at_call 8; refine (closfA_any _ _ _).mono ?_; rintro e w' ⟨rfl, rfl⟩))
          clear hq hxr hyr
          obtain ⟨wo, rfl⟩ : ∃ wo : World, wo = wr := ⟨_, rfl⟩
          go_loopw [7] (fun v2 wr2 => ∃ t : Nat, (awl p k).length + t ≤ k / 64 + 1 ∧ wr2.ownsRow w.heap.size 26 1 v2 ((awl p k).length + t) (uVals (awl p k ++ List.replicate t 0)) ∧ Below w.heap.size w wr2) (fun v2 _ => k / 64 + 1 - lenOf v2)
          case atStart => exact ⟨0, by omega, by simpa using hown, hB⟩
          case round =>
            obtain ⟨t, ht, hown2, hB2⟩ := hrel
            clear hown hB hsz
            have hsz2 := hB2.size
            obtain ⟨A2, c2, rfl⟩ := own_any hown2
            by_cases hin : (awl p k).length + t ≤ k / 64
            · go_wp2_with (at_builtin; refine wpList_append_own _ rfl _ _ 22 rfl w.heap.size 26 i0 (.int .u64 0) 1 8 Try.underlying22 hi hz0 hz1 hz2 rfl (by decide) _ _ _ rfl (hown2.alloc _) ⟨wr.heap.size, 0, none⟩ 1 1 [.int .u64 0] rfl rfl (cell_one_new _ _ _) (by simp [Value.oneCell']) (by unfold maxLen; omega) (by omega) (by simp; omega) ?_; intro v' w1 hown' hgrow _)
              have hB3 := below_app hB2 hsz2 hown2 hgrow
              have hown3 : w1.ownsRow w.heap.size 26 1 v' ((awl p k).length + (t + 1)) (uVals (awl p k ++ List.replicate (t + 1) 0)) := by
                rw [u64_zero, uVals_snoc, app_zero] at hown'
                exact hown'
              obtain ⟨A3, c3, rfl⟩ := own_any hown3
              clear hown' hgrow hown2 hB2
              go_roundw
              case rel => exact ⟨t + 1, by omega, hown3, hB3⟩
              case measure => simp [lenOf]; omega
            · obtain ⟨g, cap, hA2, hbg, hglt⟩ := own_shape hown2 (by omega)
              injection hA2 with hA2 _ hc2
              subst hA2
              subst hc2
              have hL : (awl p k).length + t = k / 64 + 1 := by omega
              have hwl : (uVals (awl p k ++ List.replicate t 0))[k / 64]? = some (.int .u64 (wd (awl p k) (k / 64) : Int)) := by
                rw [uVals_at _ _ (by simp; omega), ← wd_ext (awl p k) (k / 64)]
                unfold ext
                rw [show k / 64 + 1 - (awl p k).length = t by omega]
              have hcell : wr.cell? ⟨g, k / 64, none⟩ = some (.int .u64 (wd (awl p k) (k / 64) : Int)) := by
                rw [hown2.cellAt (k / 64) (by omega)]; exact hwl
              have hfz : wr.frozen? ⟨g, k / 64, none⟩ = false := hown2.frozenAt _
              have hLi : k / 64 < (awl p k).length + t := by omega
              have HL := Lib.hid hL
              clear hL hwl
              go_wp2
              go_region
              go_wp2
              go_roundw
              case rel => exact ⟨k + 1, by omega, by go_num, rel_put hown2 HL.out HPK.out, (hB2.setCell (p := ⟨g, k / 64, none⟩) hbg _).drew⟩
              case measure => simp [intOf]; omega
        · have hq : fA (bitB xs k) (bitB ys k) = false := (HP.out k).trans (by simpa using hpk)
          have HPK : Hid (p k = false) := Lib.hid (by simpa using hpk)
          clear hpk
          go_wp2_with (first | (go_at_call 15; (first | (with_reducible refine (abit_any _ _ _ _ _ hxr (by omega)).mono ?_) | (with_reducible refine (abit_any _ _ _ _ _ hyr (by omega)).mono ?_)); rintro e w' ⟨rfl, rfl⟩) | (go_at_call 8; refine (closfA_any _ _ _).mono ?_; rintro e w' ⟨rfl, rfl⟩))
          go_roundw
          case rel => exact ⟨k + 1, by omega, by go_num, by rw [awl_no p k HPK.out]; exact hown, hB⟩
          case measure => simp [intOf]; omega
      · go_wp2
        go_ret
        obtain rfl : k = 64 * N := by omega
        exact ⟨_, _, rfl, rfl, hown, hB⟩

theorem closfO_any (a b : Bool) (w : World) : Calls Try.prog 10 #[.bool a, .bool b] w fun e w' => e = .returned (.bool (fO a b)) ∧ w = w' := by
  cases a <;> cases b <;> (go_enter Try.func10, Try.ntmps10; go_wp2; go_ret; exact ⟨rfl, rfl⟩)

set_option maxHeartbeats 2000000 in
theorem awherefO_any (A A' : Option Addr) (c c' : Nat) (xs ys : List Nat) (w : World) (hx : RdU w w.heap.size A xs) (hy : RdU w w.heap.size A' ys) (hxl : xs.length ≤ 1048576) (hyl : ys.length ≤ 1048576) :
    Calls Try.prog 4 #[.slice A xs.length c, .slice A' ys.length c', .func (.func 10) #[] #[]] w fun e w' => ∃ v zs, e = .returned v ∧ zs = awl (fun n => fO (bitB xs n) (bitB ys n)) (64 * max xs.length ys.length) ∧ w'.ownsRow w.heap.size 26 1 v zs.length (uVals zs) ∧ Below w.heap.size w w' := by
  obtain ⟨i0, hi, hz0, hz1, hz2⟩ := info_parts Try.infoU64
  obtain ⟨p, hp⟩ : ∃ p : Nat → Bool, p = fun n => fO (bitB xs n) (bitB ys n) := ⟨_, rfl⟩
  obtain ⟨N, hN⟩ : ∃ N, N = max xs.length ys.length := ⟨_, rfl⟩
  have hNl : N ≤ 1048576 := by omega
  have HP : Hid (∀ n, fO (bitB xs n) (bitB ys n) = p n) := fun n => by rw [hp]
  rw [← hp, ← hN]
  have HN := Lib.hid hN
  clear hp hN
  go_enter Try.func4, Try.ntmps4
  go_wp2
  all_goals
    obtain ⟨X, hX, hN1, hN2⟩ : ∃ X, (X = xs.length ∨ X = ys.length) ∧ N ≤ X ∧ X ≤ N := by
      have := HN.out
      first | exact ⟨ys.length, .inr rfl, by omega, by omega⟩ | exact ⟨xs.length, .inl rfl, by omega, by omega⟩
    have hN3 : (N ≤ ys.length ∧ ys.length ≤ N) ∨ (N ≤ xs.length ∧ xs.length ≤ N) := by omega
    clear hX hN1 hN2
    first
      | (have hN1 : N ≤ ys.length := by have := HN.out; omega)
      | (have hN1 : N ≤ xs.length := by have := HN.out; omega)
    have hNx : xs.length ≤ N := by have := HN.out; omega
    have hNy : ys.length ≤ N := by have := HN.out; omega
    clear hN3
    go_loopw [7, 15] (fun v i wr => ∃ k : Nat, k ≤ 64 * N ∧ i = .int .i64 k ∧ wr.ownsRow w.heap.size 26 1 v (awl p k).length (uVals (awl p k)) ∧ Below w.heap.size w wr) (fun _ i _ => 64 * N - (intOf i).toNat)
    case atStart => exact ⟨0, Nat.zero_le _, rfl, World.ownsRow_nil _ _ _ _, Below.refl _ _⟩
    case round =>
      obtain ⟨k, hk, rfl, hown, hB⟩ := hrel
      have hle := awl_len p k
      by_cases hlt : k < 64 * N
      · have hsz := hB.size
        have hxr : RdU wr wr.heap.size A xs := (hx.below hB).more hsz
        have hyr : RdU wr wr.heap.size A' ys := (hy.below hB).more hsz
        by_cases hpk : p k = true
        · have hq : fO (bitB xs k) (bitB ys k) = true := (HP.out k).trans hpk
          have HPK := Lib.hid hpk
          clear hpk
          go_wp2_with (first | (go_at_call 15; (first | (with_reducible refine (abit_any _ _ _ _ _ hxr (by omega)).mono ?_) | (with_reducible refine (abit_any _ _ _ _ _ hyr (by omega)).mono ?_)); rintro e w' ⟨rfl, rfl⟩) | (go_at_call 10; refine (closfO_any _ _ _).mono ?_; rintro e w' ⟨rfl, rfl⟩))
          clear hq hxr hyr
          obtain ⟨wo, rfl⟩ : ∃ wo : World, wo = wr := ⟨_, rfl⟩
          go_loopw [7] (fun v2 wr2 => ∃ t : Nat, (awl p k).length + t ≤ k / 64 + 1 ∧ wr2.ownsRow w.heap.size 26 1 v2 ((awl p k).length + t) (uVals (awl p k ++ List.replicate t 0)) ∧ Below w.heap.size w wr2) (fun v2 _ => k / 64 + 1 - lenOf v2)
          case atStart => exact ⟨0, by omega, by simpa using hown, hB⟩
          case round =>
            obtain ⟨t, ht, hown2, hB2⟩ := hrel
            clear hown hB hsz
            have hsz2 := hB2.size
            obtain ⟨A2, c2, rfl⟩ := own_any hown2
            by_cases hin : (awl p k).length + t ≤ k / 64
            · go_wp2_with (at_builtin; refine wpList_append_own _ rfl _ _ 22 rfl w.heap.size 26 i0 (.int .u64 0) 1 8 Try.underlying22 hi hz0 hz1 hz2 rfl (by decide) _ _ _ rfl (hown2.alloc _) ⟨wr.heap.size, 0, none⟩ 1 1 [.int .u64 0] rfl rfl (cell_one_new _ _ _) (by simp [Value.oneCell']) (by unfold maxLen; omega) (by omega) (by simp; omega) ?_; intro v' w1 hown' hgrow _)
              have hB3 := below_app hB2 hsz2 hown2 hgrow
              have hown3 : w1.ownsRow w.heap.size 26 1 v' ((awl p k).length + (t + 1)) (uVals (awl p k ++ List.replicate (t + 1) 0)) := by
                rw [u64_zero, uVals_snoc, app_zero] at hown'
                exact hown'
              obtain ⟨A3, c3, rfl⟩ := own_any hown3
              clear hown' hgrow hown2 hB2
              go_roundw
              case rel => exact ⟨t + 1, by omega, hown3, hB3⟩
              case measure => simp [lenOf]; omega
            · obtain ⟨g, cap, hA2, hbg, hglt⟩ := own_shape hown2 (by omega)
              injection hA2 with hA2 _ hc2
              subst hA2
              subst hc2
              have hL : (awl p k).length + t = k / 64 + 1 := by omega
              have hwl : (uVals (awl p k ++ List.replicate t 0))[k / 64]? = some (.int .u64 (wd (awl p k) (k / 64) : Int)) := by
                rw [uVals_at _ _ (by simp; omega), ← wd_ext (awl p k) (k / 64)]
                unfold ext
                rw [show k / 64 + 1 - (awl p k).length = t by omega]
              have hcell : wr.cell? ⟨g, k / 64, none⟩ = some (.int .u64 (wd (awl p k) (k / 64) : Int)) := by
                rw [hown2.cellAt (k / 64) (by omega)]; exact hwl
              have hfz : wr.frozen? ⟨g, k / 64, none⟩ = false := hown2.frozenAt _
              have hLi : k / 64 < (awl p k).length + t := by omega
              have HL := Lib.hid hL
              clear hL hwl
              go_wp2
              go_region
              go_wp2
              go_roundw
              case rel => exact ⟨k + 1, by omega, by go_num, rel_put hown2 HL.out HPK.out, (hB2.setCell (p := ⟨g, k / 64, none⟩) hbg _).drew⟩
              case measure => simp [intOf]; omega
        · have hq : fO (bitB xs k) (bitB ys k) = false := (HP.out k).trans (by simpa using hpk)
          have HPK : Hid (p k = false) := Lib.hid (by simpa using hpk)
          clear hpk
          go_wp2_with (first | (go_at_call 15; (first | (with_reducible refine (abit_any _ _ _ _ _ hxr (by omega)).mono ?_) | (with_reducible refine (abit_any _ _ _ _ _ hyr (by omega)).mono ?_)); rintro e w' ⟨rfl, rfl⟩) | (go_at_call 10; refine (closfO_any _ _ _).mono ?_; rintro e w' ⟨rfl, rfl⟩))
          go_roundw
          case rel => exact ⟨k + 1, by omega, by go_num, by rw [awl_no p k HPK.out]; exact hown, hB⟩
          case measure => simp [intOf]; omega
      · go_wp2
        go_ret
        obtain rfl : k = 64 * N := by omega
        exact ⟨_, _, rfl, rfl, hown, hB⟩

/-- what came before stays, and lies below the new size -/
theorem RdU.step {w w' : World} {A : Option Addr} {xs : List Nat} (h : RdU w w.heap.size A xs) (hb : Below w.heap.size w w') : RdU w' w'.heap.size A xs := (h.below hb).more hb.size
theorem below_drewN {B : Nat} {a w : World} (h : Below B a w) (n : Nat) : Below B a (w.drewN n) := ⟨h.os, h.tape, h.output, h.size, h.block⟩
theorem below_step {B : Nat} {W w w' : World} (hb : Below B W w) (hs : B ≤ w.heap.size) (h : Below w.heap.size w w') : Below B W w' := hb.trans (h.mono hs)

theorem equalU_same (A A' : Option Addr) (c c' : Nat) (xs : List Nat) (w : World) (hx : RdU w w.heap.size A xs) (hy : RdU w w.heap.size A' xs) :
    Calls Try.prog 6 #[.slice A xs.length c, .slice A' xs.length c'] w fun e w' => e = .returned (.bool true) ∧ Below w.heap.size w w' :=
  (equalU_any A A' c c' xs xs w hx hy).mono fun _ _ ⟨he, n, hw⟩ => ⟨by rw [he, decide_eq_true rfl], by rw [hw]; exact below_drewN (Below.refl _ _) n⟩

theorem opandN_any (A A' : Option Addr) (c c' : Nat) (xs ys : List Nat) (w : World) (hx : RdU w w.heap.size A xs) (hy : RdU w w.heap.size A' ys) (hxl : xs.length ≤ 35184372088832) (hyl : ys.length ≤ 35184372088832) :
    Calls Try.prog 7 #[.slice A xs.length c, .slice A' ys.length c'] w fun e w' => ∃ A1 c1, e = .returned (.slice A1 (mrg andN xs ys).length c1) ∧ RdU w' w'.heap.size A1 (mrg andN xs ys) ∧ Below w.heap.size w w' := by
  go_enter Try.func7, Try.ntmps7
  go_wp2_with fail
  refine (mergeandN_any A A' c c' xs ys _ hx hy hxl hyl).mono ?_
  rintro e w1 ⟨v, rfl, hown, hB⟩
  have hle := mrg_le andN xs ys
  obtain ⟨A1, c1, rfl, hr⟩ := own_rdU hown (fun k => by rw [mrg_wd rfl]; exact andN_lt _ _ (hx.lt k)) (by omega)
  clear hown
  go_wp2
  go_ret
  exact ⟨_, _, rfl, hr, hB⟩

theorem oporN_any (A A' : Option Addr) (c c' : Nat) (xs ys : List Nat) (w : World) (hx : RdU w w.heap.size A xs) (hy : RdU w w.heap.size A' ys) (hxl : xs.length ≤ 35184372088832) (hyl : ys.length ≤ 35184372088832) :
    Calls Try.prog 9 #[.slice A xs.length c, .slice A' ys.length c'] w fun e w' => ∃ A1 c1, e = .returned (.slice A1 (mrg orN xs ys).length c1) ∧ RdU w' w'.heap.size A1 (mrg orN xs ys) ∧ Below w.heap.size w w' := by
  go_enter Try.func9, Try.ntmps9
  go_wp2_with fail
  refine (mergeorN_any A A' c c' xs ys _ hx hy hxl hyl).mono ?_
  rintro e w1 ⟨v, rfl, hown, hB⟩
  have hle := mrg_le orN xs ys
  obtain ⟨A1, c1, rfl, hr⟩ := own_rdU hown (fun k => by rw [mrg_wd rfl]; exact orN_lt _ _ (hx.lt k) (hy.lt k)) (by omega)
  clear hown
  go_wp2
  go_ret
  exact ⟨_, _, rfl, hr, hB⟩

theorem oplessN_any (A A' : Option Addr) (c c' : Nat) (xs ys : List Nat) (w : World) (hx : RdU w w.heap.size A xs) (hy : RdU w w.heap.size A' ys) (hxl : xs.length ≤ 35184372088832) (hyl : ys.length ≤ 35184372088832) :
    Calls Try.prog 11 #[.slice A xs.length c, .slice A' ys.length c'] w fun e w' => ∃ A1 c1, e = .returned (.slice A1 (mrg lessN xs ys).length c1) ∧ RdU w' w'.heap.size A1 (mrg lessN xs ys) ∧ Below w.heap.size w w' := by
  go_enter Try.func11, Try.ntmps11
  go_wp2_with fail
  refine (mergelessN_any A A' c c' xs ys _ hx hy hxl hyl).mono ?_
  rintro e w1 ⟨v, rfl, hown, hB⟩
  have hle := mrg_le lessN xs ys
  obtain ⟨A1, c1, rfl, hr⟩ := own_rdU hown (fun k => by rw [mrg_wd rfl]; exact lessN_lt _ _ (hx.lt k)) (by omega)
  clear hown
  go_wp2
  go_ret
  exact ⟨_, _, rfl, hr, hB⟩
end Go.Proofs.Ytfpgdkbgmmpncaa
