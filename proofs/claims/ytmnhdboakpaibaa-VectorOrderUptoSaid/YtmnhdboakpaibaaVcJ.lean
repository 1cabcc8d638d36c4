/-
  Contracts of vector.Join and Within, and of the reference's GWithin. For every two slices of at most 2^21 words.
-/
import Derived.Test.YtmnhdboakpaibaaVcC
namespace Go.Proofs.Ytmnhdboakpaibaa
open Go.RowKit Go.Shelf
set_option maxRecDepth 100000

theorem vAt_nat (xs : List Nat) (k : Nat) : vAt xs (k : Int) = wd xs k := by unfold vAt; rw [if_pos (by omega)]; rfl
theorem vIn_no {xs ys : List Nat} {k : Nat} (h : wd ys k < wd xs k) : vIn xs ys = false := by
  rw [← Bool.not_eq_true, vIn_iff]
  intro hc
  have := hc k
  omega
theorem vIn_yes {xs ys : List Nat} (h : ∀ k, k < xs.length → wd xs k ≤ wd ys k) : vIn xs ys = true := (vIn_iff _ _).2 fun k => by
  by_cases hk : k < xs.length
  · exact h k hk
  · rw [wd_out _ _ (by omega)]; exact Nat.zero_le _

theorem vin_any (A A' : Option Addr) (c c' : Nat) (xs ys : List Nat) (w : World) (hx : RdU w w.heap.size A xs) (hy : RdU w w.heap.size A' ys) :
    Calls Try.prog 14 #[.slice A xs.length c, .slice A' ys.length c'] w fun e w' => e = .returned (.bool (vIn xs ys)) ∧ w = w' := by
  have hr := hx.room
  go_enter Try.func14, Try.ntmps14
  go_wp2
  go_loop [9] (fun i => ∃ k : Nat, k ≤ xs.length ∧ i = .int .i64 k ∧ Hid (∀ j, j < k → wd xs j ≤ wd ys j)) (fun i => xs.length - (intOf i).toNat)
  case atStart => exact ⟨0, Nat.zero_le _, rfl, fun j hj => by omega⟩
  case round =>
    obtain ⟨k, hk, rfl, hall⟩ := hrel
    by_cases hlt : k < xs.length
    · obtain ⟨b, off, rfl, _, hc⟩ := hx.rd (by omega)
      have hci := hc k hlt
      have h1 := vat_any A' c' ys (k : Int) w hy
      rw [vAt_nat] at h1
      clear hc
      by_cases h : wd ys k < wd xs k
      · have H := Lib.hid (vIn_no h)
        go_wp2_with (go_at_call 7; refine h1.mono ?_; rintro e w' ⟨rfl, rfl⟩)
        go_ret
        exact ⟨ret_b H.out.symm, rfl⟩
      · have H := Lib.hid h
        go_wp2_with (go_at_call 7; refine h1.mono ?_; rintro e w' ⟨rfl, rfl⟩)
        go_round
        case rel => exact ⟨k + 1, by omega, by go_num, fun j hj => by
          rcases Nat.lt_succ_iff_lt_or_eq.1 hj with h | h
          · exact hall.out j h
          · subst h; exact Nat.not_lt.1 H.out⟩
        case measure => simp [intOf]; omega
    · go_wp2
      go_ret
      exact ⟨ret_b (vIn_yes fun j hj => hall.out j (by omega)).symm, rfl⟩

theorem gvin_any (A A' : Option Addr) (c c' : Nat) (xs ys : List Nat) (w : World) (hx : RdU w w.heap.size A xs) (hy : RdU w w.heap.size A' ys) :
    Calls Try.prog 15 #[.slice A xs.length c, .slice A' ys.length c'] w fun e w' => e = .returned (.bool (vIn xs ys)) ∧ w = w' := by
  have hr := hx.room
  go_enter Try.func15, Try.ntmps15
  go_wp2
  go_loop [8] (fun i => ∃ k : Nat, k ≤ xs.length ∧ i = .int .i64 k ∧ Hid (∀ j, j < k → wd xs j ≤ wd ys j)) (fun i => xs.length - (intOf i).toNat)
  case atStart => exact ⟨0, Nat.zero_le _, rfl, fun j hj => by omega⟩
  case round =>
    obtain ⟨k, hk, rfl, hall⟩ := hrel
    by_cases hlt : k < xs.length
    · have h1 := hand_any A' c' ys (k : Int) w hy
      have h2 := hand_any A c xs (k : Int) w hx
      rw [vAt_nat] at h1 h2
      by_cases h : wd ys k < wd xs k
      · have H := Lib.hid (vIn_no h)
        go_wp2_with (go_at_call 8; (first | (with_reducible refine h1.mono ?_) | (with_reducible refine h2.mono ?_)); rintro e w' ⟨rfl, rfl⟩)
        go_ret
        exact ⟨ret_b H.out.symm, rfl⟩
      · have H := Lib.hid h
        go_wp2_with (go_at_call 8; (first | (with_reducible refine h1.mono ?_) | (with_reducible refine h2.mono ?_)); rintro e w' ⟨rfl, rfl⟩)
        go_round
        case rel => exact ⟨k + 1, by omega, by go_num, fun j hj => by
          rcases Nat.lt_succ_iff_lt_or_eq.1 hj with h | h
          · exact hall.out j h
          · subst h; exact Nat.not_lt.1 H.out⟩
        case measure => simp [intOf]; omega
    · go_wp2
      go_ret
      exact ⟨ret_b (vIn_yes fun j hj => hall.out j (by omega)).symm, rfl⟩

theorem join_row {xs ys : List Nat} {n : Nat} (hn : n = max (trm xs).length (trm ys).length) : (List.range n).map (fun k => max (wd (trm xs) k) (wd (trm ys) k)) = vJoin xs ys := by
  obtain ⟨J, hJ⟩ : ∃ J, J = (List.range n).map (fun k => max (wd (trm xs) k) (wd (trm ys) k)) := ⟨_, rfl⟩
  have hl : J.length = n := by rw [hJ]; simp
  have hw : ∀ k, wd J k = max (wd xs k) (wd ys k) := fun k => by
    rw [hJ, wd_map, trm_wd, trm_wd]
    split
    · rfl
    · have h1 := wd_out (trm xs) k (by omega)
      have h2 := wd_out (trm ys) k (by omega)
      rw [trm_wd] at h1 h2
      rw [h1, h2]; rfl
  rw [← hJ, ← trm_full (xs := J)]
  · exact trm_of fun k => by
      have := join_at xs ys k
      unfold vJoin at this
      rw [this, hw]
  · by_cases h0 : n = 0
    · left; omega
    · right
      rw [hw, hl]
      rw [trm_len, trm_len] at hn
      rcases Nat.le_total (tl (wd xs) xs.length) (tl (wd ys) ys.length) with h | h
      · have := tl_last (wd ys) ys.length (by omega)
        rw [show tl (wd ys) ys.length = n by omega] at this
        omega
      · have := tl_last (wd xs) xs.length (by omega)
        rw [show tl (wd xs) xs.length = n by omega] at this
        omega

set_option maxHeartbeats 1000000 in
theorem join_anyV (A A' : Option Addr) (c c' : Nat) (xs ys : List Nat) (w : World) (hx : RdU w w.heap.size A xs) (hy : RdU w w.heap.size A' ys) (hcap : xs.length ≤ c) (hcap' : ys.length ≤ c') (hl : xs.length ≤ 2097152) (hl' : ys.length ≤ 2097152) :
    Calls Try.prog 12 #[.slice A xs.length c, .slice A' ys.length c'] w (OutU w (vJoin xs ys)) := by
  have hle := trm_le xs
  have hle' := trm_le ys
  have hj := fun n h => join_row (xs := xs) (ys := ys) (n := n) h
  go_enter Try.func12, Try.ntmps12
  go_wp2_with fail
  refine (trimmed_any A c xs _ hx hcap).mono ?_
  rintro e w' ⟨⟨A1, c1, rfl, hc1, h1⟩, rfl⟩
  go_wp2_with fail
  refine (trimmed_any A' c' ys _ hy hcap').mono ?_
  rintro e w' ⟨⟨A2, c2, rfl, hc2, h2⟩, rfl⟩
  obtain ⟨L, hL⟩ : ∃ L, L = trm xs := ⟨_, rfl⟩
  obtain ⟨M, hM⟩ : ∃ M, M = trm ys := ⟨_, rfl⟩
  rw [← hL, ← hM] at hj
  rw [← hL] at hc1 h1 hle ⊢
  rw [← hM] at hc2 h2 hle' ⊢
  have hlt := h1.lt
  have hlt' := h2.lt
  obtain ⟨N, hN⟩ : ∃ N, N = max L.length M.length := ⟨_, rfl⟩
  have HJ := Lib.hid (hj N hN)
  have hN1 : N ≤ 2097152 := by omega
  have hN2 : M.length ≤ N := by omega
  have hN3 : L.length ≤ N := by omega
  have hmx : max (L.length : Int) (M.length : Int) = (N : Int) := by omega
  have HL := Lib.hid hlt
  have HL' := Lib.hid hlt'
  clear hj hL hM hx hy hcap hcap' hN hlt hlt'
  go_wp2_with fail
  refine (extended_any A1 c1 N L _ h1 hN3 (by omega)).mono ?_
  rintro e w2 ⟨rfl, hrow, hB⟩
  have h2' := h2.below hB
  clear h2 h1 hmx
  have HR0 : w2.rowIs w.heap.size 23 N (fun j => .int .u64 ((if j < 0 then max (wd L j) (wd M j) else wd L j : Nat) : Int)) := hrow.congr fun j _ => by rw [if_neg (by omega)]
  clear hrow
  go_wp2_with fail
  obtain ⟨wo, rfl⟩ : ∃ wo : World, wo = w2 := ⟨_, rfl⟩
  go_loopw [21] (fun i wr => ∃ q : Nat, q ≤ M.length ∧ i = .int .i64 q ∧ wr.rowIs w.heap.size 23 N (fun j => .int .u64 ((if j < q then max (wd L j) (wd M j) else wd L j : Nat) : Int)) ∧ Below w.heap.size w wr ∧ RdU wr w.heap.size A2 M) (fun i _ => M.length - (intOf i).toNat)
  case atStart => exact ⟨0, Nat.zero_le _, rfl, HR0, hB, h2'⟩
  case round =>
    obtain ⟨q, hq, rfl, hr, hbr, hm⟩ := hrel
    clear HR0 hB h2'
    by_cases hlt : q < M.length
    · obtain ⟨b, off, rfl, _, hc⟩ := hm.rd (by omega)
      have hci := hc q hlt
      have hcell := hr.cell (i := q) (by omega)
      rw [if_neg (by omega)] at hcell
      have hfz := hr.frozen q
      have hqN : q < N := by omega
      have hmx : max (wd L q : Int) (wd M q : Int) = ((max (wd L q) (wd M q) : Nat) : Int) := by omega
      have R2 := hr.set q (.int .u64 ((max (wd L q) (wd M q) : Nat) : Int))
      have R3 : (wr.setCell ⟨w.heap.size, q, none⟩ (.int .u64 ((max (wd L q) (wd M q) : Nat) : Int))).rowIs w.heap.size 23 N (fun j => .int .u64 ((if j < q + 1 then max (wd L j) (wd M j) else wd L j : Nat) : Int)) := R2.congr fun j _ => by
        by_cases e : j = q
        · subst e; rw [if_pos rfl, if_pos (by omega)]
        · rw [if_neg e]
          by_cases e2 : j < q
          · rw [if_pos e2, if_pos (by omega)]
          · rw [if_neg e2, if_neg (by omega)]
      have hB2 := hbr.setCell (p := ⟨w.heap.size, q, none⟩) (Nat.le_refl _) (.int .u64 ((max (wd L q) (wd M q) : Nat) : Int))
      have hm2 : RdU (wr.setCell ⟨w.heap.size, q, none⟩ (.int .u64 ((max (wd L q) (wd M q) : Nat) : Int))) w.heap.size (some ⟨b, off, none⟩) M := hm.below ((Below.refl w.heap.size wr).setCell (p := ⟨w.heap.size, q, none⟩) (Nat.le_refl _) _)
      have X := Lib.hid (And.intro R3 (And.intro hB2 hm2))
      clear R2 R3 hB2 hm2 hc hr hbr hm
      go_wp2_with fail
      go_roundw
      case rel => exact ⟨q + 1, by omega, by go_num, X.out.1, X.out.2.1, X.out.2.2⟩
      case measure => simp [intOf]; omega
    · obtain rfl : q = M.length := by omega
      go_wp2
      go_ret
      have R : wr.rowIs w.heap.size 23 N (fun j => .int .u64 ((max (wd L j) (wd M j) : Nat) : Int)) := hr.congr fun j _ => by
        split
        · rfl
        · rw [wd_out M _ (by omega)]; simp
      have hr2 := rowU R (fun j => by have := HL.out j; have := HL'.out j; omega) (by omega)
      rw [HJ.out] at hr2
      have hl2 : N = (vJoin xs ys).length := by rw [← HJ.out]; simp
      rw [hl2]
      exact ⟨_, _, rfl, Nat.le_refl _, hr2, hbr⟩
end Go.Proofs.Ytmnhdboakpaibaa
