/-
  The law ExprWorth.
-/
import Derived.Test.YtinbcdadffljhaaExAl
namespace Go.Proofs.Ytinbcdadffljhaa
open Go.RowKit Go.Shelf
set_option maxRecDepth 100000

set_option maxHeartbeats 1000000 in
theorem eworth_any (T : Xp) (h : Eh) (A : Option Addr) (c : Nat) (env : List (ByteArray × Int)) (w : World) (hT : EIn w w.heap.size T h) (he : RdB w w.heap.size A env) (hl : env.length ≤ 1048576) (hc : env.length ≤ c) :
    Calls Try.prog 3 #[.agg h.cells, .slice A env.length c] w fun e w' => e = .returned (.bool true) ∧ Below w.heap.size w w' := by
  have HC := Lib.hid hc
  clear hc
  obtain ⟨y0, y1, y2, y3, y4, y5⟩ := h
  have key : ∃ w1, w1 = w.alloc (.cells (Eh.cells ⟨y0, y1, y2, y3, y4, y5⟩) 24) ∧ Below w.heap.size w w1 ∧ EB 24 w1 w.heap.size ⟨y0, y1, y2, y3, y4, y5⟩ := ⟨_, rfl, (Below.refl _ _).alloc (Nat.le_refl _) _, EB.new _ _ _⟩
  obtain ⟨w1, hw1, hb1, t1⟩ := key
  have HB1 := Lib.hid hb1
  have HZ := HB1
  replace hT := hT.step hb1
  replace he := he.step hb1
  obtain ⟨V, hV⟩ : ∃ V, V = T.ev env := ⟨_, rfl⟩
  obtain ⟨N, hN⟩ : ∃ N, N = env.length := ⟨_, rfl⟩
  have A1 : Hid (∀ W, HeldA9 w.heap.size w1 ⟨y0, y1, y2, y3, y4, y5⟩ W → Calls Try.prog 9 #[.agg #[.int .i64 y0, .int .i64 y1, .string y2, .slice y3 y4 y5], .slice A N c] W fun e w' => e = .returned (.int .i64 V) ∧ HeldA9 w.heap.size w1 ⟨y0, y1, y2, y3, y4, y5⟩ w') := Lib.hid fun W hW => by
    rw [hN]
    refine (deval T ⟨y0, y1, y2, y3, y4, y5⟩ A c env W (hT.step hW.2.2.2.2.1) (he.step hW.2.2.2.2.1) (by omega) HC.out).mono ?_
    rintro e w' ⟨rfl, h1⟩
    exact ⟨by rw [hV], hW.step h1⟩
  have A2 : Hid (∀ W, HeldA9 w.heap.size w1 ⟨y0, y1, y2, y3, y4, y5⟩ W → Calls Try.prog 10 #[.agg #[.int .i64 y0, .int .i64 y1, .string y2, .slice y3 y4 y5], .slice A N c] W fun e w' => e = .returned (.int .i64 V) ∧ HeldA9 w.heap.size w1 ⟨y0, y1, y2, y3, y4, y5⟩ w') := Lib.hid fun W hW => by
    rw [hN]
    refine (evs T ⟨y0, y1, y2, y3, y4, y5⟩ A c env W (hT.step hW.2.2.2.2.1) (he.step hW.2.2.2.2.1) (by omega)).mono ?_
    rintro e w' ⟨rfl, h1⟩
    exact ⟨by rw [hV], hW.step h1⟩
  have hH0 : HeldA9 w.heap.size w1 ⟨y0, y1, y2, y3, y4, y5⟩ w1 := ⟨t1.c0, t1.c1, t1.c2, t1.c3, Below.refl _ _, t1.lt⟩
  have HW := Lib.hid hw1
  rw [← hN]
  clear hV hN hT he hl t1 hb1 hw1
  go_enter Try.func3, Try.ntmps3
  go_upto_region 1 with fail
  rw [show w.alloc _ = w1 from HW.out.symm]
  refine wp_region_held_drew (S := HeldA9 w.heap.size w1 ⟨y0, y1, y2, y3, y4, y5⟩) (by kernel_rfl) (HeldA9.drew hH0) (fun hHeld => ?_)
  refine wpAnyH_take (i := 0) (oi := { dst := some 5, op := _, type := _, pos := _, after := _, guard := _ }) (v := ?_) rfl (by kernel_rfl) (by kernel_rfl) (by kernel_rfl) (fun _ _ _ h => h) (Or.inl ⟨by rfl, ?_⟩) (by assumption) ?_
  rotate_left
  · intro w hSw; (try dsimp only at hSw); go_simp; (try with_reducible rfl)
  (try simp only [Act.put, List.setIfInBounds_toArray, List.set_cons_zero, List.set_cons_succ])
  refine wpAnyH_take (i := 1) (oi := { dst := some 6, op := _, type := _, pos := _, after := _, guard := _ }) (v := ?_) rfl (by kernel_rfl) (by kernel_rfl) (by kernel_rfl) (fun _ _ _ h => h) (Or.inl ⟨by rfl, ?_⟩) (by assumption) ?_
  rotate_left
  · intro w hSw; (try dsimp only at hSw); go_simp; (try with_reducible rfl)
  (try simp only [Act.put, List.setIfInBounds_toArray, List.set_cons_zero, List.set_cons_succ])
  refine wpAnyH_take (i := 3) (oi := { dst := some 8, op := _, type := _, pos := _, after := _, guard := _ }) (v := ?_) rfl (by kernel_rfl) (by kernel_rfl) (by kernel_rfl) (fun _ _ _ h => h) (Or.inl ⟨by rfl, ?_⟩) (by assumption) ?_
  rotate_left
  · intro w hSw; (try dsimp only at hSw); go_simp; (try with_reducible rfl)
  (try simp only [Act.put, List.setIfInBounds_toArray, List.set_cons_zero, List.set_cons_succ])
  refine wpAnyH_take (i := 4) (oi := { dst := some 9, op := _, type := _, pos := _, after := _, guard := _ }) (v := ?_) rfl (by kernel_rfl) (by kernel_rfl) (by kernel_rfl) (fun _ _ _ h => h) (Or.inl ⟨by rfl, ?_⟩) (by assumption) ?_
  rotate_left
  · intro w hSw; (try dsimp only at hSw); go_simp; (try with_reducible rfl)
  (try simp only [Act.put, List.setIfInBounds_toArray, List.set_cons_zero, List.set_cons_succ])
  refine wpAnyH_ready (rs := [2]) (by kernel_rfl) (by simp) ?_
  refine AllReadyH.cons rfl (fun K hK => ?_) AllReadyH.nil
  go_simp
  refine (A1.out _ hHeld).mono ?_
  rintro e w8 ⟨rfl, hq8⟩
  dsimp only
  refine hK.out _ _ hq8 (fun hHeld => ?_)
  clear hK K
  (try simp only [Act.put, List.setIfInBounds_toArray, List.set_cons_zero, List.set_cons_succ])
  refine wpAnyH_ready (rs := [5]) (by kernel_rfl) (by simp) ?_
  refine AllReadyH.cons rfl (fun K hK => ?_) AllReadyH.nil
  go_simp
  refine (A2.out _ hHeld).mono ?_
  rintro e w9 ⟨rfl, hq9⟩
  dsimp only
  refine hK.out _ _ hq9 (fun hHeld => ?_)
  clear hK K
  (try simp only [Act.put, List.setIfInBounds_toArray, List.set_cons_zero, List.set_cons_succ])
  refine wpAnyH_take (i := 6) (oi := { dst := some 11, op := _, type := _, pos := _, after := _, guard := _ }) (v := ?_) rfl (by kernel_rfl) (by kernel_rfl) (by kernel_rfl) (fun _ _ _ h => h) (Or.inl ⟨by rfl, ?_⟩) (by assumption) ?_
  rotate_left
  · intro w hSw; (try dsimp only at hSw); go_simp; (try with_reducible rfl)
  (try simp only [Act.put, List.setIfInBounds_toArray, List.set_cons_zero, List.set_cons_succ])
  refine wpAnyH_take (i := 7) (oi := { dst := some 4, op := _, type := _, pos := _, after := _, guard := _ }) (v := ?_) rfl (by kernel_rfl) (by kernel_rfl) (by kernel_rfl) (fun _ _ _ h => h) (Or.inl ⟨by rfl, ?_⟩) (by assumption) ?_
  rotate_left
  · intro w hSw; (try dsimp only at hSw); go_simp; (try with_reducible rfl)
  (try simp only [Act.put, List.setIfInBounds_toArray, List.set_cons_zero, List.set_cons_succ])
  refine wpAnyH_done (by kernel_rfl) ?_ _
  go_wp2_with fail
  go_ret
  exact ⟨rfl, HZ.out.trans (hHeld.2.2.2.2.1.mono HZ.out.size)⟩
end Go.Proofs.Ytinbcdadffljhaa
