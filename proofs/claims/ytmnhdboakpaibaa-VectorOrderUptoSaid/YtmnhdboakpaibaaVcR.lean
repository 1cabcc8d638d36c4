/-
  Contracts of the reference's clockOf (for any closure of two cells), GTick and GJoin. For every two slices of at most 2^21 words.
-/
import Derived.Test.YtmnhdboakpaibaaVcJ
import Derived.Maps.AppendAt
import Derived.Deep.RegionHeld3
namespace Go.Proofs.Ytmnhdboakpaibaa
open Go.RowKit Go.Shelf
set_option maxRecDepth 100000

theorem own_stpV {w w' : World} {base e size n : Nat} {v : Value} {xs : List Value} (h : w.ownsRow base e size v n xs) (hb : Below w.heap.size w w') : w'.ownsRow base e size v n xs := by
  obtain ⟨h1, h2⟩ := h
  refine ⟨h1, ?_⟩
  rcases h2 with h2 | ⟨g, cap, cur, hv, hbg, hg, hr⟩
  · exact .inl h2
  · have hlt : g < w.heap.size := by
      rcases Nat.lt_or_ge g w.heap.size with h | h
      · exact h
      · rw [Array.getElem?_eq_none h] at hg; cases hg
    exact .inr ⟨g, cap, cur, hv, hbg, (hb.block g hlt).trans hg, hr⟩
theorem vec_len_le (f : Nat → Nat) (n : Nat) : (vec f n).length ≤ n := by rw [vec_len]; exact tl_le _ _
theorem zeros_snoc (L : List Nat) (t : Nat) : L ++ List.replicate t 0 ++ [0] = L ++ List.replicate (t + 1) 0 := by
  rw [List.append_assoc, List.replicate_succ']
theorem own_capV {w : World} {base e size n c : Nat} {A : Option Addr} {xs : List Value} (h : w.ownsRow base e size (.slice A n c) n xs) : n ≤ c := by
  rcases h.2 with ⟨h1, rfl⟩ | ⟨g, cap, cur, h1, _, _, h2, _⟩
  · exact Nat.zero_le _
  · injection h1 with _ _ h1
    omega
theorem own_out {w w' : World} {v : Value} {L : List Nat} (h : w'.ownsRow w.heap.size 23 1 v L.length (uVals L)) (hlt : ∀ k, wd L k < 18446744073709551616) (hl : L.length ≤ 1152921504606846976) (hB : Below w.heap.size w w') : OutU w L (.returned v) w' := by
  obtain ⟨A, c, rfl⟩ := own_any h
  obtain ⟨A1, c1, h1, hr⟩ := own_rdU h hlt hl
  injection h1 with h1 _ h2
  subst h1 h2
  exact ⟨_, _, rfl, own_capV h, hr, hB⟩
theorem vec_put {f : Nat → Nat} {k t : Nat} (h0 : f k ≠ 0) (ht : (vec f k).length + t = k + 1) : (vec f k ++ List.replicate t 0).set k (f k) = vec f (k + 1) := by
  rw [vec_snoc h0]
  have hle := tl_le f k
  rw [vec_len] at ht
  obtain ⟨s, rfl⟩ : ∃ s, t = s + 1 := ⟨t - 1, by omega⟩
  rw [show k - tl f k = s by omega, List.replicate_succ', ← List.append_assoc]
  have hl : (vec f k ++ List.replicate s 0).length = k := by simp [vec_len]; omega
  rw [List.set_append_right _ _ (by omega), hl]
  simp

/-- the length of a slice -/
def lenOfV : Value → Nat
  | .slice _ n _ => n
  | _ => 0

set_option maxHeartbeats 4000000 in
theorem clockT_any (p1 p2 : Value) (f : Nat → Nat) (n : Nat) (hn : n ≤ 2097152) (hf : ∀ k, f k < 18446744073709551616) (w w0 : World) (h0 : w0.heap.size ≤ w.heap.size) (hB0 : Below w0.heap.size w0 w)
    (hF : ∀ k, k < n → ∀ W : World, Below w.heap.size w W → Calls Try.prog 20 #[.int .i64 (k : Int), p1, p2] W fun e w' => e = .returned (.int .u64 (f k : Int)) ∧ Below W.heap.size W w') :
    Calls Try.prog 19 #[.int .i64 n, .func (.func 20) #[] #[p1, p2]] w (OutU w0 (vec f n)) := by
  obtain ⟨i0, hi, hz0, hz1, hz2⟩ := info_parts Try.infoU64
  have HF := Lib.hid hF
  clear hF
  go_enter Try.func19, Try.ntmps19
  go_wp2
  go_loopw [5, 9] (fun v i wr => ∃ k : Nat, k ≤ n ∧ i = .int .i64 k ∧ wr.ownsRow w.heap.size 23 1 v (vec f k).length (uVals (vec f k)) ∧ Below w.heap.size w wr) (fun _ i _ => n - (intOf i).toNat)
  case atStart => exact ⟨0, Nat.zero_le _, rfl, World.ownsRow_nil _ _ _ _, Below.refl _ _⟩
  case round =>
    obtain ⟨k, hk, rfl, hown, hB⟩ := hrel
    have hsz := hB.size
    have hvl := vec_len_le f k
    by_cases hlt : k < n
    · go_wp2_with fail
      refine (HF.out k hlt _ hB).mono ?_
      rintro e w1 ⟨rfl, hb⟩
      have hown1 := own_stpV hown hb
      have hB1 := below_step hB hsz hb
      have hsz1 := hB1.size
      clear hown hb hB hsz
      by_cases hz : f k = 0
      · have hlen : (vec f (k + 1)).length = (vec f k).length := by rw [vec_snoc_zero hz]
        have HV := Lib.hid (vec_snoc_zero hz)
        rw [hz]
        go_wp2_with fail
        go_roundw
        case rel => exact ⟨k + 1, by omega, by go_num, by rw [HV.out]; exact hown1, hB1⟩
        case measure => simp [intOf]; omega
      · obtain ⟨q, hq⟩ : ∃ q, q = f k := ⟨_, rfl⟩
        have hq0 : 0 < q := by omega
        have HP := Lib.hid (fun t (ht : (vec f k).length + t = k + 1) => vec_put hz ht)
        rw [← hq]
        rw [← hq] at HP
        obtain ⟨L, hL⟩ : ∃ L, L = vec f k := ⟨_, rfl⟩
        rw [← hL] at HP hown1 hvl
        clear hz hq hL
        go_wp2_with fail
        obtain ⟨wo, rfl⟩ : ∃ wo : World, wo = w1 := ⟨_, rfl⟩
        go_loopw [5] (fun v2 wr2 => ∃ t : Nat, L.length + t ≤ k + 1 ∧ wr2.ownsRow w.heap.size 23 1 v2 (L.length + t) (uVals (L ++ List.replicate t 0)) ∧ Below w.heap.size w wr2) (fun v2 _ => k + 1 - lenOfV v2)
        case atStart => exact ⟨0, by omega, by simpa using hown1, hB1⟩
        case round =>
          obtain ⟨t, ht, hown2, hB3⟩ := hrel
          clear hown1 hB1 hsz1
          have hsz3 := hB3.size
          obtain ⟨A3, c3, rfl⟩ := own_any hown2
          by_cases hin : L.length + t ≤ k
          · go_wp2_with (at_builtin; refine wpList_append_own _ rfl _ _ 22 rfl w.heap.size 23 i0 (.int .u64 0) 1 8 Try.underlying22 hi hz0 hz1 hz2 rfl (by decide) _ _ _ rfl (hown2.alloc _) ⟨wr.heap.size, 0, none⟩ 1 1 [.int .u64 0] rfl rfl (cell_one_new _ _ _) (by simp [Value.oneCell']) (by unfold maxLen; omega) (by omega) (by simp; omega) ?_; intro v' w1 hown' hgrow _)
            have hB4 := below_app hB3 hsz3 hown2 hgrow
            have hown3 : w1.ownsRow w.heap.size 23 1 v' (L.length + (t + 1)) (uVals (L ++ List.replicate (t + 1) 0)) := by
              rw [show (Value.int .u64 0) = .int .u64 ((0 : Nat) : Int) from rfl, uVals_snoc, zeros_snoc] at hown'
              exact hown'
            obtain ⟨A4, c4, rfl⟩ := own_any hown3
            clear hown' hgrow hown2 hB3
            go_roundw
            case rel => exact ⟨t + 1, by omega, hown3, hB4⟩
            case measure => simp [lenOfV]; omega
          · obtain ⟨g, cap, hA2, hbg, hglt⟩ := own_shape hown2 (by omega)
            injection hA2 with hA2 _ hc2
            subst hA2
            subst hc2
            have hLt : L.length + t = k + 1 := by omega
            obtain ⟨v0, hcell⟩ : ∃ v, wr.cell? ⟨g, k, none⟩ = some v := by
              rw [hown2.cellAt k (by omega)]
              exact ⟨_, List.getElem?_eq_getElem (by rw [uVals_len]; simp; omega)⟩
            have hfz : wr.frozen? ⟨g, k, none⟩ = false := hown2.frozenAt _
            have hLi : k < L.length + t := by omega
            have HL := Lib.hid hLt
            have hst := (hown2.stored k (.int .u64 (q : Int))).1
            have hBs := hB3.setCell (p := ⟨g, k, none⟩) hbg (.int .u64 (q : Int))
            have hrow : (wr.setCell ⟨g, k, none⟩ (.int .u64 (q : Int))).ownsRow w.heap.size 23 1 (.slice (some ⟨g, 0, none⟩) (L.length + t) c3) (vec f (k + 1)).length (uVals (vec f (k + 1))) := by
              have e := HP.out t hLt
              have e2 : (vec f (k + 1)).length = L.length + t := by rw [← e]; simp
              rw [e2, ← e]
              unfold uVals at hst ⊢
              rw [List.map_set]
              exact hst
            have X := Lib.hid (And.intro hrow hBs)
            clear hLt hin hst hBs hrow hown2 hB3
            go_wp2_with fail
            go_roundw
            case rel => exact ⟨k + 1, by omega, by go_num, X.out.1, X.out.2⟩
            case measure => simp [intOf]; omega
    · obtain rfl : k = n := by omega
      go_wp2
      go_ret
      have h1 := own_out hown (fun j => vec_lt (by omega) hf k j) (by omega) hB
      obtain ⟨A1, c1, e1, e2, e3, e4⟩ := h1
      exact ⟨A1, c1, e1, e2, e3, hB0.trans (hB.mono h0)⟩
set_option maxHeartbeats 4000000 in
theorem clockJ_any (p1 p2 : Value) (f : Nat → Nat) (n : Nat) (hn : n ≤ 2097152) (hf : ∀ k, f k < 18446744073709551616) (w w0 : World) (h0 : w0.heap.size ≤ w.heap.size) (hB0 : Below w0.heap.size w0 w)
    (hF : ∀ k, k < n → ∀ W : World, Below w.heap.size w W → Calls Try.prog 21 #[.int .i64 (k : Int), p1, p2] W fun e w' => e = .returned (.int .u64 (f k : Int)) ∧ Below W.heap.size W w') :
    Calls Try.prog 19 #[.int .i64 n, .func (.func 21) #[] #[p1, p2]] w (OutU w0 (vec f n)) := by
  obtain ⟨i0, hi, hz0, hz1, hz2⟩ := info_parts Try.infoU64
  have HF := Lib.hid hF
  clear hF
  go_enter Try.func19, Try.ntmps19
  go_wp2
  go_loopw [5, 9] (fun v i wr => ∃ k : Nat, k ≤ n ∧ i = .int .i64 k ∧ wr.ownsRow w.heap.size 23 1 v (vec f k).length (uVals (vec f k)) ∧ Below w.heap.size w wr) (fun _ i _ => n - (intOf i).toNat)
  case atStart => exact ⟨0, Nat.zero_le _, rfl, World.ownsRow_nil _ _ _ _, Below.refl _ _⟩
  case round =>
    obtain ⟨k, hk, rfl, hown, hB⟩ := hrel
    have hsz := hB.size
    have hvl := vec_len_le f k
    by_cases hlt : k < n
    · go_wp2_with fail
      refine (HF.out k hlt _ hB).mono ?_
      rintro e w1 ⟨rfl, hb⟩
      have hown1 := own_stpV hown hb
      have hB1 := below_step hB hsz hb
      have hsz1 := hB1.size
      clear hown hb hB hsz
      by_cases hz : f k = 0
      · have hlen : (vec f (k + 1)).length = (vec f k).length := by rw [vec_snoc_zero hz]
        have HV := Lib.hid (vec_snoc_zero hz)
        rw [hz]
        go_wp2_with fail
        go_roundw
        case rel => exact ⟨k + 1, by omega, by go_num, by rw [HV.out]; exact hown1, hB1⟩
        case measure => simp [intOf]; omega
      · obtain ⟨q, hq⟩ : ∃ q, q = f k := ⟨_, rfl⟩
        have hq0 : 0 < q := by omega
        have HP := Lib.hid (fun t (ht : (vec f k).length + t = k + 1) => vec_put hz ht)
        rw [← hq]
        rw [← hq] at HP
        obtain ⟨L, hL⟩ : ∃ L, L = vec f k := ⟨_, rfl⟩
        rw [← hL] at HP hown1 hvl
        clear hz hq hL
        go_wp2_with fail
        obtain ⟨wo, rfl⟩ : ∃ wo : World, wo = w1 := ⟨_, rfl⟩
        go_loopw [5] (fun v2 wr2 => ∃ t : Nat, L.length + t ≤ k + 1 ∧ wr2.ownsRow w.heap.size 23 1 v2 (L.length + t) (uVals (L ++ List.replicate t 0)) ∧ Below w.heap.size w wr2) (fun v2 _ => k + 1 - lenOfV v2)
        case atStart => exact ⟨0, by omega, by simpa using hown1, hB1⟩
        case round =>
          obtain ⟨t, ht, hown2, hB3⟩ := hrel
          clear hown1 hB1 hsz1
          have hsz3 := hB3.size
          obtain ⟨A3, c3, rfl⟩ := own_any hown2
          by_cases hin : L.length + t ≤ k
          · go_wp2_with (at_builtin; refine wpList_append_own _ rfl _ _ 22 rfl w.heap.size 23 i0 (.int .u64 0) 1 8 Try.underlying22 hi hz0 hz1 hz2 rfl (by decide) _ _ _ rfl (hown2.alloc _) ⟨wr.heap.size, 0, none⟩ 1 1 [.int .u64 0] rfl rfl (cell_one_new _ _ _) (by simp [Value.oneCell']) (by unfold maxLen; omega) (by omega) (by simp; omega) ?_; intro v' w1 hown' hgrow _)
            have hB4 := below_app hB3 hsz3 hown2 hgrow
            have hown3 : w1.ownsRow w.heap.size 23 1 v' (L.length + (t + 1)) (uVals (L ++ List.replicate (t + 1) 0)) := by
              rw [show (Value.int .u64 0) = .int .u64 ((0 : Nat) : Int) from rfl, uVals_snoc, zeros_snoc] at hown'
              exact hown'
            obtain ⟨A4, c4, rfl⟩ := own_any hown3
            clear hown' hgrow hown2 hB3
            go_roundw
            case rel => exact ⟨t + 1, by omega, hown3, hB4⟩
            case measure => simp [lenOfV]; omega
          · obtain ⟨g, cap, hA2, hbg, hglt⟩ := own_shape hown2 (by omega)
            injection hA2 with hA2 _ hc2
            subst hA2
            subst hc2
            have hLt : L.length + t = k + 1 := by omega
            obtain ⟨v0, hcell⟩ : ∃ v, wr.cell? ⟨g, k, none⟩ = some v := by
              rw [hown2.cellAt k (by omega)]
              exact ⟨_, List.getElem?_eq_getElem (by rw [uVals_len]; simp; omega)⟩
            have hfz : wr.frozen? ⟨g, k, none⟩ = false := hown2.frozenAt _
            have hLi : k < L.length + t := by omega
            have HL := Lib.hid hLt
            have hst := (hown2.stored k (.int .u64 (q : Int))).1
            have hBs := hB3.setCell (p := ⟨g, k, none⟩) hbg (.int .u64 (q : Int))
            have hrow : (wr.setCell ⟨g, k, none⟩ (.int .u64 (q : Int))).ownsRow w.heap.size 23 1 (.slice (some ⟨g, 0, none⟩) (L.length + t) c3) (vec f (k + 1)).length (uVals (vec f (k + 1))) := by
              have e := HP.out t hLt
              have e2 : (vec f (k + 1)).length = L.length + t := by rw [← e]; simp
              rw [e2, ← e]
              unfold uVals at hst ⊢
              rw [List.map_set]
              exact hst
            have X := Lib.hid (And.intro hrow hBs)
            clear hLt hin hst hBs hrow hown2 hB3
            go_wp2_with fail
            go_roundw
            case rel => exact ⟨k + 1, by omega, by go_num, X.out.1, X.out.2⟩
            case measure => simp [intOf]; omega
    · obtain rfl : k = n := by omega
      go_wp2
      go_ret
      have h1 := own_out hown (fun j => vec_lt (by omega) hf k j) (by omega) hB
      obtain ⟨A1, c1, e1, e2, e3, e4⟩ := h1
      exact ⟨A1, c1, e1, e2, e3, hB0.trans (hB.mono h0)⟩
end Go.Proofs.Ytmnhdboakpaibaa
