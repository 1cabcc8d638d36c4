/-
  Contracts of vector.Tick, Join and Within, and of the reference's GWithin. For every slice of at most 2^21 words.
-/
import Derived.Test.YtmnhdboakpaibaaVcB
namespace Go.Proofs.Ytmnhdboakpaibaa
open Go.RowKit Go.Shelf
set_option maxRecDepth 100000

/-- the call returned the words of L, in memory that it made -/
def OutU (w : World) (L : List Nat) (e : Ending) (w' : World) : Prop := ∃ A1 c1, e = .returned (.slice A1 L.length c1) ∧ L.length ≤ c1 ∧ RdU w' w'.heap.size A1 L ∧ Below w.heap.size w w'

theorem tick_bad {xs : List Nat} {i : Int} (h : ¬ (0 ≤ i ∧ i ≤ 65535)) : (List.range (trm xs).length).map (wd (trm xs)) = vTick xs i := by
  have e : trm xs = vTick xs i := by
    unfold vTick tckN
    rw [if_neg h]
    refine vec_congr fun k _ => ?_
    unfold tckF
    rw [if_neg (by omega)]
  rw [e]
  unfold vTick
  rw [vec_len]
  refine wd_extV (by rw [vec_len]; simp) fun k => ?_
  rw [wd_map, vec_at]
  have := tl_le (tckF xs i) (tckN xs i)
  by_cases hk : k < tl (tckF xs i) (tckN xs i)
  · rw [if_pos hk, if_pos (by omega)]
  · rw [if_neg hk]
    split
    · rename_i h2
      exact (tl_zero _ _ (by omega) h2).symm
    · rfl
theorem tick_good {xs : List Nat} {i n : Nat} (h : i ≤ 65535) (hn : (trm xs).length ≤ n) (hi : i < n) : trm ((List.range n).map fun k => if k = i then incN (wd (trm xs) i) else wd (trm xs) k) = vTick xs i := by
  refine trm_of fun k => ?_
  have := tick_at xs (i : Int) k
  unfold vTick at this
  rw [this, wd_map]
  unfold tckF
  by_cases hk : k = i
  · subst hk
    rw [if_pos hi, if_pos rfl, if_pos ⟨rfl, by omega⟩, trm_wd]
  · rw [if_neg hk, if_neg (show ¬ ((k : Int) = (i : Int) ∧ (i : Int) ≤ 65535) by omega), trm_wd]
    split
    · rfl
    · rw [← trm_wd, wd_out _ _ (by omega)]

set_option maxHeartbeats 1000000 in
theorem tick_any (A : Option Addr) (c : Nat) (xs : List Nat) (i : Int) (w : World) (hx : RdU w w.heap.size A xs) (hcap : xs.length ≤ c) (hl : xs.length ≤ 2097152) (hi1 : -9223372036854775808 ≤ i) (hi2 : i ≤ 9223372036854775807) :
    Calls Try.prog 10 #[.slice A xs.length c, .int .i64 i] w (OutU w (vTick xs i)) := by
  have hle := trm_le xs
  go_enter Try.func10, Try.ntmps10
  go_wp2_with fail
  refine (trimmed_any A c xs _ hx hcap).mono ?_
  rintro e w' ⟨⟨A1, c1, rfl, hc1, h1⟩, rfl⟩
  by_cases hb : 0 ≤ i ∧ i ≤ 65535
  · obtain ⟨k, rfl⟩ : ∃ k : Nat, i = (k : Int) := ⟨i.toNat, by omega⟩
    have hk : k ≤ 65535 := by omega
    have hg := fun n h2 h3 => tick_good (xs := xs) (n := n) hk h2 h3
    obtain ⟨L, hL⟩ : ∃ L, L = trm xs := ⟨_, rfl⟩
    have hlt := h1.lt
    rw [← hL] at hg hc1 h1 hle hlt ⊢
    obtain ⟨N, hN⟩ : ∃ N, N = max L.length (k + 1) := ⟨_, rfl⟩
    have G := Lib.hid (hg N (by omega) (by omega))
    have hN1 : N ≤ 2097152 := by omega
    have hN2 : k < N := by omega
    have hN3 : L.length ≤ N := by omega
    have hmx : max (L.length : Int) ((k : Int) + 1) = (N : Int) := by omega
    have HL := Lib.hid hlt
    clear hg hL hx hcap hlt hN hb hi1 hi2
    go_wp2_with fail
    refine (extended_any A1 c1 N L _ h1 hN3 (by omega)).mono ?_
    rintro e w2 ⟨rfl, hrow, hB⟩
    have hcell := hrow.cell hN2
    have hfz := hrow.frozen k
    have hinc : IntKind.u64.wrap ((wd L k : Int) + 1) = ((incN (wd L k) : Nat) : Int) := by
      rw [IntKind.wrap_u64]; unfold incN; omega
    have R2 := hrow.set k (.int .u64 ((incN (wd L k) : Nat) : Int))
    have R3 : (w2.setCell ⟨w.heap.size, k, none⟩ (.int .u64 ((incN (wd L k) : Nat) : Int))).rowIs w.heap.size 23 N (fun j => .int .u64 ((if j = k then incN (wd L k) else wd L j : Nat) : Int)) := R2.congr fun j _ => by split <;> rfl
    have h4 := rowU R3 (fun j => by have := HL.out j; have := incN_lt (wd L k); split <;> assumption) (by omega)
    have hB2 := hB.setCell (p := ⟨w.heap.size, k, none⟩) (Nat.le_refl _) (.int .u64 ((incN (wd L k) : Nat) : Int))
    obtain ⟨w3, hw3⟩ : ∃ w3, w3 = w2.setCell ⟨w.heap.size, k, none⟩ (.int .u64 ((incN (wd L k) : Nat) : Int)) := ⟨_, rfl⟩
    obtain ⟨M, hM⟩ : ∃ M, M = (List.range N).map fun j => if j = k then incN (wd L k) else wd L j := ⟨_, rfl⟩
    have hMl : M.length = N := by rw [hM]; simp
    rw [← hM, ← hw3] at h4
    rw [← hw3] at hB2
    rw [← hM] at G
    have HW3 := Lib.hid hw3
    have HM := Lib.hid hMl
    clear hrow R2 R3 hw3 hM hmx h1 hMl hB
    go_upto_region 6 with fail
    rw [← HW3.out]
    go_wp2_with fail
    rw [← HM.out]
    refine (trimmed_any _ _ M _ h4 (Nat.le_refl _)).mono ?_
    rintro e w' ⟨⟨A2, c2, rfl, hc2, h2⟩, rfl⟩
    rw [G.out] at hc2 h2 ⊢
    go_wp2
    go_ret
    exact ⟨_, _, rfl, hc2, h2, hB2⟩
  · have E := Lib.hid (tick_bad (xs := xs) hb)
    obtain ⟨L, hL⟩ : ∃ L, L = trm xs := ⟨_, rfl⟩
    have hlt := h1.lt
    rw [← hL] at E hc1 h1 hle hlt ⊢
    rcases (show i < 0 ∨ (¬ i < 0 ∧ 65535 < i) by omega) with h | ⟨h, h'⟩
    all_goals
      clear hb hL hx hcap
      go_wp2_with fail
      refine (extended_any A1 c1 L.length L _ h1 (Nat.le_refl _) (by omega)).mono ?_
      rintro e w2 ⟨rfl, hrow, hB⟩
      go_wp2
      go_ret
      have hr := rowU hrow hlt (by omega)
      rw [E.out] at hr
      have hl2 : L.length = (vTick xs i).length := by rw [← E.out]; simp
      rw [hl2]
      exact ⟨_, _, rfl, Nat.le_refl _, hr, hB⟩
end Go.Proofs.Ytmnhdboakpaibaa
