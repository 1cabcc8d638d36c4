/-
  Contracts of the reference's GTick and GJoin. For every two slices of at most 2^20 words.
-/
import Derived.Test.YtmnhdboakpaibaaVcR
namespace Go.Proofs.Ytmnhdboakpaibaa
open Go.RowKit Go.Shelf
set_option maxRecDepth 100000

theorem gt1_any (k : Nat) (i : Int) (A : Option Addr) (c : Nat) (xs : List Nat) (Bi Bv : Nat) (w : World) (hi : w.cell? ⟨Bi, 0, none⟩ = some (.int .i64 i)) (hv : w.cell? ⟨Bv, 0, none⟩ = some (.slice A xs.length c)) (hx : RdU w w.heap.size A xs) :
    Calls Try.prog 20 #[.int .i64 (k : Int), .pointer (some ⟨Bi, 0, none⟩), .pointer (some ⟨Bv, 0, none⟩)] w fun e w' => e = .returned (.int .u64 (tckF xs i k : Int)) ∧ w = w' := by
  have h1 := hand_any A c xs (k : Int) w hx
  rw [vAt_nat] at h1
  have hinc : IntKind.u64.wrap ((wd xs k : Int) + 1) = ((incN (wd xs k) : Nat) : Int) := by
    rw [IntKind.wrap_u64]; unfold incN; omega
  by_cases h : (k : Int) = i
  · subst h
    by_cases h2 : (k : Int) ≤ 65535
    · have e : tckF xs (k : Int) k = incN (wd xs k) := if_pos ⟨rfl, h2⟩
      rw [e]
      clear e hx
      go_enter Try.func20, Try.ntmps20
      go_wp2_with (go_at_call 8; refine h1.mono ?_; rintro e w' ⟨rfl, rfl⟩)
      go_ret
      exact ⟨rfl, rfl⟩
    · have e : tckF xs (k : Int) k = wd xs k := if_neg (by omega)
      rw [e]
      clear e hx hinc
      go_enter Try.func20, Try.ntmps20
      go_wp2_with (go_at_call 8; refine h1.mono ?_; rintro e w' ⟨rfl, rfl⟩)
      go_ret
      exact ⟨rfl, rfl⟩
  · have e : tckF xs i k = wd xs k := if_neg (by omega)
    rw [e]
    have hb : ((k : Int) == i) = false := by simpa using h
    clear e hx hinc h
    go_enter Try.func20, Try.ntmps20
    go_wp2_with (go_at_call 8; refine h1.mono ?_; rintro e w' ⟨rfl, rfl⟩)
    go_ret
    exact ⟨rfl, rfl⟩

/-- the two boxes hold the two slices -/
abbrev HeldJ (w0 : World) (B1 B2 : Nat) (A A' : Option Addr) (c c' : Nat) (xs ys : List Nat) (w : World) : Prop :=
  w.cell? ⟨B1, 0, none⟩ = some (.slice A xs.length c) ∧ w.cell? ⟨B2, 0, none⟩ = some (.slice A' ys.length c') ∧ RdU w w.heap.size A xs ∧ RdU w w.heap.size A' ys ∧ Below w0.heap.size w0 w
theorem HeldJ.drew {w0 w : World} {B1 B2 : Nat} {A A' : Option Addr} {c c' : Nat} {xs ys : List Nat} (h : HeldJ w0 B1 B2 A A' c c' xs ys w) : HeldJ w0 B1 B2 A A' c c' xs ys w.drew :=
  ⟨h.1, h.2.1, h.2.2.1.drewN 1, h.2.2.2.1.drewN 1, h.2.2.2.2.drew⟩

set_option maxHeartbeats 1000000 in
theorem gj1_any (k : Nat) (A A' : Option Addr) (c c' : Nat) (xs ys : List Nat) (B1 B2 : Nat) (w : World) (h : HeldJ w B1 B2 A A' c c' xs ys w) :
    Calls Try.prog 21 #[.int .i64 (k : Int), .pointer (some ⟨B1, 0, none⟩), .pointer (some ⟨B2, 0, none⟩)] w fun e w' => e = .returned (.int .u64 (joiF xs ys k : Int)) ∧ Below w.heap.size w w' := by
  have hm : max (wd xs k : Int) (wd ys k : Int) = (joiF xs ys k : Int) := by unfold joiF; omega
  have H1 : Hid (∀ W : World, HeldJ w B1 B2 A A' c c' xs ys W → Calls Try.prog 8 #[.slice A xs.length c, .int .i64 (k : Int)] W fun e w' => e = .returned (.int .u64 (wd xs k : Int)) ∧ HeldJ w B1 B2 A A' c c' xs ys w') := fun W hW => (hand_any A c xs (k : Int) W hW.2.2.1).mono fun e w' ⟨h1, h2⟩ => by
    subst h2; exact ⟨by rw [h1, vAt_nat], hW⟩
  have H2 : Hid (∀ W : World, HeldJ w B1 B2 A A' c c' xs ys W → Calls Try.prog 8 #[.slice A' ys.length c', .int .i64 (k : Int)] W fun e w' => e = .returned (.int .u64 (wd ys k : Int)) ∧ HeldJ w B1 B2 A A' c c' xs ys w') := fun W hW => (hand_any A' c' ys (k : Int) W hW.2.2.2.1).mono fun e w' ⟨h1, h2⟩ => by
    subst h2; exact ⟨by rw [h1, vAt_nat], hW⟩
  obtain ⟨c1, c2, r1, r2, b0⟩ := h
  go_enter Try.func21, Try.ntmps21
  go_wp2_with fail
  go_region_held3 (HeldJ w B1 B2 A A' c c' xs ys)
    (first
      | (go_split_ands; refine ⟨?_, ?_, ?_, ?_, ?_⟩ <;> first | assumption | exact Below.refl _ _)
      | (go_split_ands; exact HeldJ.drew ⟨‹_›, ‹_›, ‹_›, ‹_›, ‹_›⟩))
    (first
      | (go_at_call 8; with_reducible refine (H1.out _ (by assumption)).mono ?_; rintro e w5 ⟨rfl, hq5⟩)
      | (go_at_call 8; with_reducible refine (H2.out _ (by assumption)).mono ?_; rintro e w6 ⟨rfl, hq6⟩))
  all_goals
    go_wp2
    go_ret
    exact ⟨rfl, by go_split_ands; assumption⟩

theorem tckF_lt {xs : List Nat} (h : ∀ k, wd xs k < 18446744073709551616) (i : Int) (k : Nat) : tckF xs i k < 18446744073709551616 := by
  unfold tckF
  split
  · exact incN_lt _
  · exact h k
theorem joiF_lt {xs ys : List Nat} (h : ∀ k, wd xs k < 18446744073709551616) (h' : ∀ k, wd ys k < 18446744073709551616) (k : Nat) : joiF xs ys k < 18446744073709551616 := by
  have := h k
  have := h' k
  unfold joiF
  omega
theorem two_boxes (w : World) (v u : Value) (t1 t2 : TypeId) : ∃ W, W = (w.alloc (.cells #[v] t1)).alloc (.cells #[u] t2) ∧ Below w.heap.size w W ∧ w.heap.size ≤ W.heap.size ∧ ∀ W', Below W.heap.size W W' → W'.cell? ⟨w.heap.size, 0, none⟩ = some v ∧ W'.cell? ⟨w.heap.size + 1, 0, none⟩ = some u ∧ Below w.heap.size w W' := by
  have r1 := World.rowIs_alloc w #[v] t1 (fun _ => v) (fun i hi => by
    obtain rfl : i = 0 := by simpa using hi
    rfl)
  have r2 := World.rowIs_alloc (w.alloc (.cells #[v] t1)) #[u] t2 (fun _ => u) (fun i hi => by
    obtain rfl : i = 0 := by simpa using hi
    rfl)
  have hb := ((Below.refl w.heap.size w).alloc (Nat.le_refl _) (.cells #[v] t1)).alloc (by simp) (.cells #[u] t2)
  have e : (w.alloc (.cells #[v] t1)).heap.size = w.heap.size + 1 := by simp
  rw [e] at r2
  replace r1 := r1.alloc (.cells #[u] t2)
  have h1 := r1.lt
  have h2 := r2.lt
  refine ⟨_, rfl, hb, hb.size, fun W' hW' => ⟨(hW'.cell (p := ⟨w.heap.size, 0, none⟩) h1).trans (r1.cell (by simp)), (hW'.cell (p := ⟨w.heap.size + 1, 0, none⟩) h2).trans (r2.cell (by simp)), hb.trans (hW'.mono hb.size)⟩⟩

set_option maxHeartbeats 1000000 in
theorem gtick_any (A : Option Addr) (c : Nat) (xs : List Nat) (i : Int) (w : World) (hx : RdU w w.heap.size A xs) (hl : xs.length ≤ 1048576) :
    Calls Try.prog 11 #[.slice A xs.length c, .int .i64 i] w (OutU w (vTick xs i)) := by
  have hlt := hx.lt
  have hn : tckN xs i ≤ 2097152 := by unfold tckN; split <;> omega
  obtain ⟨W, hW, hb, hs, hF⟩ := two_boxes w (.slice A xs.length c) (.int .i64 i) 22 3
  have key := clockT_any (.pointer (some ⟨w.heap.size + 1, 0, none⟩)) (.pointer (some ⟨w.heap.size, 0, none⟩)) (tckF xs i) (tckN xs i) hn (tckF_lt hlt i) W w hs hb fun k _ W' hW' => by
    obtain ⟨h1, h2, h3⟩ := hF W' hW'
    exact (gt1_any k i A c xs _ _ W' h2 h1 (hx.step h3)).mono fun e w' ⟨h4, h5⟩ => ⟨h4, h5 ▸ Below.refl _ _⟩
  have HK := Lib.hid key
  have hW' := Lib.hid hW
  clear key hF hW hb hs hlt hx
  go_enter Try.func11, Try.ntmps11
  rcases (show (∃ k : Nat, i = (k : Int) ∧ k ≤ 65535) ∨ i < 0 ∨ (0 ≤ i ∧ 65535 < i) by
    by_cases h : 0 ≤ i ∧ i ≤ 65535
    · exact .inl ⟨i.toNat, by omega, by omega⟩
    · omega) with ⟨k, rfl, hk⟩ | h | ⟨h, h2⟩
  · have hmx : max (xs.length : Int) ((k : Int) + 1) = ((tckN xs (k : Int) : Nat) : Int) := by unfold tckN; rw [if_pos (by omega)]; omega
    go_wp2_with fail
    rw [← hW'.out]
    refine HK.out.mono ?_
    rintro e w' ⟨A1, c1, rfl, h1, h2, h3⟩
    go_wp2
    go_ret
    exact ⟨_, _, rfl, h1, h2, h3⟩
  all_goals
    have hmx : tckN xs i = xs.length := by unfold tckN; rw [if_neg (by omega)]
    have HV : Hid (vTick xs i = vec (tckF xs i) xs.length) := by unfold vTick; rw [hmx]; exact rfl
    rw [hmx] at HK
    clear hmx
    go_wp2_with fail
    rw [← hW'.out]
    refine HK.out.mono ?_
    rintro e w' ⟨A1, c1, rfl, h1, h2, h3⟩
    go_wp2
    go_ret
    rw [HV.out]
    exact ⟨_, _, rfl, h1, h2, h3⟩

set_option maxHeartbeats 1000000 in
theorem gjoin_any (A A' : Option Addr) (c c' : Nat) (xs ys : List Nat) (w : World) (hx : RdU w w.heap.size A xs) (hy : RdU w w.heap.size A' ys) (hl : xs.length ≤ 1048576) (hl' : ys.length ≤ 1048576) :
    Calls Try.prog 13 #[.slice A xs.length c, .slice A' ys.length c'] w (OutU w (vJoin xs ys)) := by
  obtain ⟨W, hW, hb, hs, hF⟩ := two_boxes w (.slice A xs.length c) (.slice A' ys.length c') 22 22
  have key := clockJ_any (.pointer (some ⟨w.heap.size, 0, none⟩)) (.pointer (some ⟨w.heap.size + 1, 0, none⟩)) (joiF xs ys) (max xs.length ys.length) (by omega) (joiF_lt hx.lt hy.lt) W w hs hb fun k _ W' hW' => by
    obtain ⟨h1, h2, h3⟩ := hF W' hW'
    exact gj1_any k A A' c c' xs ys _ _ W' ⟨h1, h2, hx.step h3, hy.step h3, Below.refl _ _⟩
  have HK := Lib.hid key
  have hW' := Lib.hid hW
  obtain ⟨N, hN⟩ : ∃ N, N = max xs.length ys.length := ⟨_, rfl⟩
  rw [← hN] at HK
  have HV : Hid (vJoin xs ys = vec (joiF xs ys) N) := by unfold vJoin; rw [hN]; exact rfl
  have hmx : max (xs.length : Int) (ys.length : Int) = (N : Int) := by omega
  clear key hF hW hb hs hx hy hN
  go_enter Try.func13, Try.ntmps13
  go_wp2_with fail
  rw [← hW'.out]
  refine HK.out.mono ?_
  rintro e w' ⟨A1, c1, rfl, h1, h2, h3⟩
  go_wp2
  go_ret
  rw [HV.out]
  exact ⟨_, _, rfl, h1, h2, h3⟩
end Go.Proofs.Ytmnhdboakpaibaa
