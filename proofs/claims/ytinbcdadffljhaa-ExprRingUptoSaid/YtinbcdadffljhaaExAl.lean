/-
  alive9: the example of the laws of expr answers true.
-/
import Derived.Test.YtinbcdadffljhaaExC
import Derived.Test.YtinbcdadffljhaaExD
import Derived.Test.YtinbcdadffljhaaExSl
namespace Go.Proofs.Ytinbcdadffljhaa
open Go.RowKit Go.Shelf
set_option maxRecDepth 100000

/-- the name x -/
abbrev xN : ByteArray := ⟨#[120]⟩
abbrev T9a : Xp := .op 5 (.num 3) (.nam xN)
/-- 2 + 3 * x -/
abbrev T9 : Xp := .op 3 (.num 2) T9a
theorem T9_ev : T9.ev [(xN, 5), (xN, 4)] = 14 := by decide
theorem T9_names : T9.names = [xN] := by decide
theorem T9_fold : (Xp.put xN (.num 1) T9).fold = .num 5 := by rfl
/-- a number's header, and nothing besides -/
abbrev NumH (n : Int) (h : Eh) : Prop := h.k = 1 ∧ h.n = n ∧ inI n ∧ h.s = ByteArray.empty ∧ h.m = 0
theorem new_xN (W : World) : RdN (W.alloc (.cells #[.string xN] 9)) (W.alloc (.cells #[.string xN] 9)).heap.size (some ⟨W.heap.size, 0, none⟩) [xN] := by
  have e := World.alloc_heap_new W (.cells #[.string xN] 9)
  refine ⟨by simp, fun _ => ⟨_, 0, rfl, by simp, fun k hk => ?_⟩⟩
  have hk2 : k = 0 := by simp at hk; omega
  subst hk2
  simp only [World.cell?, e]; rfl
/-- the example's box, and all that lay -/
abbrev HeldA9 (D : Nat) (w7 : World) (h : Eh) (W : World) : Prop :=
  W.cell? ⟨D, 0, none⟩ = some (.int .i64 h.k) ∧ W.cell? ⟨D, 1, none⟩ = some (.int .i64 h.n) ∧ W.cell? ⟨D, 2, none⟩ = some (.string h.s) ∧ W.cell? ⟨D, 3, none⟩ = some (.slice h.A h.m h.cap) ∧ Below w7.heap.size w7 W ∧ D < w7.heap.size
theorem HeldA9.drew {D : Nat} {w7 W : World} {h : Eh} (hh : HeldA9 D w7 h W) : HeldA9 D w7 h W.drew := ⟨hh.1, hh.2.1, hh.2.2.1, hh.2.2.2.1, hh.2.2.2.2.1.drew, hh.2.2.2.2.2⟩
theorem HeldA9.step {D : Nat} {w7 W w2 : World} {h : Eh} (hh : HeldA9 D w7 h W) (hw : Below W.heap.size W w2) : HeldA9 D w7 h w2 := by
  obtain ⟨a1, a2, a3, a4, a5, a6⟩ := hh
  have hs := a5.size
  have c : ∀ x, w2.cell? ⟨D, x, none⟩ = W.cell? ⟨D, x, none⟩ := fun x => hw.cell (p := ⟨D, x, none⟩) (by show D < _; omega)
  exact ⟨(c _).trans a1, (c _).trans a2, (c _).trans a3, (c _).trans a4, a5.trans (hw.mono hs), a6⟩
theorem HeldA9.alloc {D : Nat} {w7 W : World} {h : Eh} (hh : HeldA9 D w7 h W) (o : Obj) : HeldA9 D w7 h (W.alloc o) := hh.step ((Below.refl _ _).alloc (Nat.le_refl _) _)
set_option maxHeartbeats 4000000 in
theorem alive9_any (w : World) : Calls Try.prog 19 #[] w fun e w' => e = .returned (.bool true) ∧ Below w.heap.size w w' := by
  go_enter Try.func19, Try.ntmps19
  go_wp2_with fail
  refine (num_any 2 w (by unfold inI; omega)).mono ?_
  rintro e w1 ⟨h1, rfl, hx1, hb1⟩
  have n1 := hx1.inn
  clear hx1
  go_wp2_with fail
  refine (num_any 3 w1 (by unfold inI; omega)).mono ?_
  rintro e w2 ⟨h2, rfl, hx2, hb2⟩
  have n2 := hx2.inn
  replace n1 := n1.step hb2
  replace hb2 := below_step hb1 hb1.size hb2
  clear hx2 hb1
  go_wp2_with fail
  refine (nam_any xN (by decide) w2).mono ?_
  rintro e w3 ⟨h3, rfl, hx3, hb3⟩
  have n3 := hx3.inn
  replace n1 := n1.step hb3
  replace n2 := n2.step hb3
  replace hb3 := below_step hb2 hb2.size hb3
  clear hx3 hb2
  go_wp2_with fail
  refine (bothX_any 5 ⟨by omega, by omega⟩ (.num 3) (.nam xN) h2 h3 w3 n2 n3).mono ?_
  rintro e w4 ⟨h4, rfl, n4, hb4⟩
  replace n1 := n1.step hb4
  replace hb4 := below_step hb3 hb3.size hb4
  clear n2 n3 hb3
  go_wp2_with fail
  refine (bothX_any 3 ⟨by omega, by omega⟩ (.num 2) T9a h1 h4 w4 n1 n4).mono ?_
  rintro e w6 ⟨h6, rfl, n6, hb6⟩
  replace hb6 := below_step hb4 hb4.size hb6
  clear n1 n4 hb4
  obtain ⟨y0, y1, y2, y3, y4, y5⟩ := h6
  rw [show (Eh.cells ⟨y0, y1, y2, y3, y4, y5⟩) = #[.int .i64 y0, .int .i64 y1, .string y2, .slice y3 y4 y5] from rfl]
  have key : ∃ w7, w7 = w6.alloc (.cells (Eh.cells ⟨y0, y1, y2, y3, y4, y5⟩) 24) ∧ EB 24 w7 w6.heap.size ⟨y0, y1, y2, y3, y4, y5⟩ ∧ Below w6.heap.size w6 w7 := ⟨_, rfl, EB.new _ _ _, (Below.refl _ _).alloc (Nat.le_refl _) _⟩
  obtain ⟨w7, hw7, t7, hb7⟩ := key
  have HW7 : Hid (w7 = w6.alloc (.cells #[.int .i64 y0, .int .i64 y1, .string y2, .slice y3 y4 y5] 24)) := hw7
  replace n6 := n6.step hb7
  have hb8 := below_step hb6 hb6.size hb7
  have hx : HeldA9 w6.heap.size w7 ⟨y0, y1, y2, y3, y4, y5⟩ w7 := ⟨t7.c0, t7.c1, t7.c2, t7.c3, Below.refl _ _, t7.lt⟩
  have BB : ∀ W, HeldA9 w6.heap.size w7 ⟨y0, y1, y2, y3, y4, y5⟩ W → Below w7.heap.size w7 W := fun W hW => hW.2.2.2.2.1
  have A1 : Hid (∀ W, HeldA9 w6.heap.size w7 ⟨y0, y1, y2, y3, y4, y5⟩ W → Calls Try.prog 9 #[.agg #[.int .i64 y0, .int .i64 y1, .string y2, .slice y3 y4 y5], .slice (some ⟨W.heap.size, 0, none⟩) 2 2] (W.alloc (.cells #[.string xN, .int .i64 5, .string xN, .int .i64 4] 38)) fun e w' => e = .returned (.int .i64 14) ∧ HeldA9 w6.heap.size w7 ⟨y0, y1, y2, y3, y4, y5⟩ w') := Lib.hid fun W hW => by
    have hr : RdB (W.alloc (.cells #[.string xN, .int .i64 5, .string xN, .int .i64 4] 38)) (W.alloc (.cells #[.string xN, .int .i64 5, .string xN, .int .i64 4] 38)).heap.size (some ⟨W.heap.size, 0, none⟩) [(xN, 5), (xN, 4)] := by
      have e := World.alloc_heap_new W (.cells #[.string xN, .int .i64 5, .string xN, .int .i64 4] 38)
      refine ⟨fun b hb => ?_, by simp, fun _ => ⟨_, 0, rfl, by simp, fun k hk => ?_⟩, fun b hb => ?_⟩
      · simp at hb
        rcases hb with rfl | rfl <;> (unfold inI; dsimp only; omega)
      · have hk2 : k = 0 ∨ k = 1 := by simp at hk; omega
        rcases hk2 with rfl | rfl <;> constructor <;> simp only [World.cell?, e] <;> rfl
      · simp at hb
        rcases hb with rfl | rfl <;> decide
    have hq := (hW.alloc (.cells #[.string xN, .int .i64 5, .string xN, .int .i64 4] 38))
    have := deval T9 ⟨y0, y1, y2, y3, y4, y5⟩ _ 2 _ _ (n6.step (BB _ hq)) hr (by simp) (by simp)
    rw [T9_ev] at this
    refine Calls.mono this ?_
    rintro e w' ⟨rfl, h1⟩
    exact ⟨rfl, hq.step h1⟩
  have A2 : Hid (∀ W, HeldA9 w6.heap.size w7 ⟨y0, y1, y2, y3, y4, y5⟩ W → Calls Try.prog 12 #[.agg #[.int .i64 y0, .int .i64 y1, .string y2, .slice y3 y4 y5]] W fun e w' => ∃ A c, e = .returned (.slice A 1 c) ∧ RdN w' w'.heap.size A [xN] ∧ Below W.heap.size W w' ∧ HeldA9 w6.heap.size w7 ⟨y0, y1, y2, y3, y4, y5⟩ w') := Lib.hid fun W hW => by
    refine (dnames T9 ⟨y0, y1, y2, y3, y4, y5⟩ W (n6.step (BB _ hW)) (by decide)).mono ?_
    rintro e w' ⟨v, rfl, h1, h2⟩
    rw [T9_names] at h1
    obtain ⟨A, c, rfl, hr⟩ := own_rdN h1 (by simp)
    exact ⟨A, c, rfl, hr, h2, hW.step h2⟩
  have A3 : Hid (∀ W A c B, HeldA9 w6.heap.size w7 ⟨y0, y1, y2, y3, y4, y5⟩ W → RdN W W.heap.size A [xN] → RdN W W.heap.size B [xN] → Calls Try.prog 11 #[.slice A 1 c, .slice B 1 1] W fun e w' => e = .returned (.bool true) ∧ HeldA9 w6.heap.size w7 ⟨y0, y1, y2, y3, y4, y5⟩ w') := Lib.hid fun W A c B hW hA hB => by
    refine (equalN_same A B c 1 [xN] _ hA hB).mono ?_
    rintro e w' ⟨rfl, h1⟩
    exact ⟨rfl, hW.step h1⟩
  have A4 : Hid (∀ W, HeldA9 w6.heap.size w7 ⟨y0, y1, y2, y3, y4, y5⟩ W → Calls Try.prog 22 #[.int .i64 1] W fun e w' => ∃ g, e = .returned (.agg g.cells) ∧ NumH 1 g ∧ HeldA9 w6.heap.size w7 ⟨y0, y1, y2, y3, y4, y5⟩ w') := Lib.hid fun W hW => by
    refine (num_any 1 W (by unfold inI; omega)).mono ?_
    rintro e w' ⟨g, rfl, h1, h2⟩
    exact ⟨g, rfl, h1, hW.step h2⟩
  have A5 : Hid (∀ W g, HeldA9 w6.heap.size w7 ⟨y0, y1, y2, y3, y4, y5⟩ W → NumH 1 g → Calls Try.prog 15 #[.agg #[.int .i64 y0, .int .i64 y1, .string y2, .slice y3 y4 y5], .string xN, .agg g.cells] W fun e w' => ∃ k, e = .returned (.agg k.cells) ∧ EIn w' w'.heap.size (Xp.put xN (.num 1) T9) k ∧ HeldA9 w6.heap.size w7 ⟨y0, y1, y2, y3, y4, y5⟩ w') := Lib.hid fun W g hW hg => by
    refine (dput T9 ⟨y0, y1, y2, y3, y4, y5⟩ xN (.num 1) g W (n6.step (BB _ hW)) ⟨hg.1, hg.2.1, hg.2.2.1⟩).mono ?_
    rintro e w' ⟨k, rfl, h1, h2⟩
    exact ⟨k, rfl, h1.inn, hW.step h2⟩
  have A6 : Hid (∀ W k, HeldA9 w6.heap.size w7 ⟨y0, y1, y2, y3, y4, y5⟩ W → EIn W W.heap.size (Xp.put xN (.num 1) T9) k → Calls Try.prog 17 #[.agg k.cells] W fun e w' => ∃ g, e = .returned (.agg g.cells) ∧ NumH 5 g ∧ HeldA9 w6.heap.size w7 ⟨y0, y1, y2, y3, y4, y5⟩ w') := Lib.hid fun W k hW hk => by
    have := dfold _ k W hk (by decide)
    rw [T9_fold] at this
    refine Calls.mono this ?_
    rintro e w' ⟨g, rfl, h1, h2⟩
    exact ⟨g, rfl, h1, hW.step h2⟩
  have A7 : Hid (∀ W, HeldA9 w6.heap.size w7 ⟨y0, y1, y2, y3, y4, y5⟩ W → Calls Try.prog 22 #[.int .i64 5] W fun e w' => ∃ g, e = .returned (.agg g.cells) ∧ NumH 5 g ∧ HeldA9 w6.heap.size w7 ⟨y0, y1, y2, y3, y4, y5⟩ w') := Lib.hid fun W hW => by
    refine (num_any 5 W (by unfold inI; omega)).mono ?_
    rintro e w' ⟨g, rfl, h1, h2⟩
    exact ⟨g, rfl, h1, hW.step h2⟩
  have A8 : Hid (∀ W g k, HeldA9 w6.heap.size w7 ⟨y0, y1, y2, y3, y4, y5⟩ W → NumH 5 g → NumH 5 k → Calls Try.prog 14 #[.agg g.cells, .agg k.cells] W fun e w' => e = .returned (.bool true) ∧ HeldA9 w6.heap.size w7 ⟨y0, y1, y2, y3, y4, y5⟩ w') := Lib.hid fun W g k hW hg hk => by
    refine (same_any (.num 5) g k 0 0 W hg hk).mono ?_
    rintro e w' ⟨rfl, h2⟩
    exact ⟨rfl, hW.step h2⟩
  have c0 := t7.c0
  have c1 := t7.c1
  have c2 := t7.c2
  have c3 := t7.c3
  dsimp only at c0 c1 c2 c3
  have hH0 := hx
  have hlt7 := t7.lt
  clear BB hw7 t7 n6 hb6 hb7 hx
  go_upto_region 2 with fail
  rw [← HW7.out]
  refine wp_region_held_drew (S := HeldA9 w6.heap.size w7 ⟨y0, y1, y2, y3, y4, y5⟩) (by kernel_rfl) (HeldA9.drew hH0) (fun hHeld => ?_)
  refine wpAnyH_take (i := 0) (oi := { dst := some 7, op := _, type := _, pos := _, after := _, guard := _ }) (v := ?_) rfl (by kernel_rfl) (by kernel_rfl) (by kernel_rfl) (fun _ _ _ h => h) (Or.inl ⟨by rfl, ?_⟩) (by assumption) ?_
  rotate_left
  · intro w hSw; (try dsimp only at hSw); go_simp; (try with_reducible rfl)
  (try simp only [Act.put, List.setIfInBounds_toArray, List.set_cons_zero, List.set_cons_succ])
  refine wpAnyH_take (i := 1) (oi := { dst := some 8, op := _, type := _, pos := _, after := _, guard := _ }) (v := ?_) rfl (by kernel_rfl) (by kernel_rfl) (by kernel_rfl) (fun _ _ _ h => h) (Or.inl ⟨by rfl, ?_⟩) (by assumption) ?_
  rotate_left
  · intro w hSw; (try dsimp only at hSw); go_simp; (try with_reducible rfl)
  (try simp only [Act.put, List.setIfInBounds_toArray, List.set_cons_zero, List.set_cons_succ])
  refine wpAnyH_take (i := 2) (oi := { dst := some 9, op := _, type := _, pos := _, after := _, guard := _ }) (v := ?_) rfl (by kernel_rfl) (by kernel_rfl) (by kernel_rfl) (fun _ _ _ h => h) (Or.inl ⟨by rfl, ?_⟩) (by assumption) ?_
  rotate_left
  · intro w hSw; (try dsimp only at hSw); go_simp; (try with_reducible rfl)
  (try simp only [Act.put, List.setIfInBounds_toArray, List.set_cons_zero, List.set_cons_succ])
  refine wpAnyH_ready (rs := [3]) (by kernel_rfl) (by simp) ?_
  refine AllReadyH.cons rfl (fun K hK => ?_) AllReadyH.nil
  have hH3 := hHeld
  go_simp
  refine hK.out _ _ (hHeld.alloc _) (fun hHeld => ?_)
  clear hK K
  (try simp only [Act.put, List.setIfInBounds_toArray, List.set_cons_zero, List.set_cons_succ])
  refine wpAnyH_ready (rs := [4]) (by kernel_rfl) (by simp) ?_
  refine AllReadyH.cons rfl (fun K hK => ?_) AllReadyH.nil
  go_simp
  refine (A1.out _ hH3).mono ?_
  rintro e w8 ⟨rfl, hq8⟩
  dsimp only
  refine hK.out _ _ hq8 (fun hHeld => ?_)
  clear hK K
  (try simp only [Act.put, List.setIfInBounds_toArray, List.set_cons_zero, List.set_cons_succ])
  refine wpAnyH_take (i := 5) (oi := { dst := some 12, op := _, type := _, pos := _, after := _, guard := _ }) (v := ?_) rfl (by kernel_rfl) (by kernel_rfl) (by kernel_rfl) (fun _ _ _ h => h) (Or.inl ⟨by rfl, ?_⟩) (by assumption) ?_
  rotate_left
  · intro w hSw; (try dsimp only at hSw); go_simp; (try with_reducible rfl)
  (try simp only [Act.put, List.setIfInBounds_toArray, List.set_cons_zero, List.set_cons_succ])
  refine wpAnyH_take (i := 6) (oi := { dst := some 13, op := _, type := _, pos := _, after := _, guard := _ }) (v := ?_) rfl (by kernel_rfl) (by kernel_rfl) (by kernel_rfl) (fun _ _ _ h => h) (Or.inl ⟨by rfl, ?_⟩) (by assumption) ?_
  rotate_left
  · intro w hSw; (try dsimp only at hSw); go_simp; (try with_reducible rfl)
  (try simp only [Act.put, List.setIfInBounds_toArray, List.set_cons_zero, List.set_cons_succ])
  refine wpAnyH_take (i := 7) (oi := { dst := some 14, op := _, type := _, pos := _, after := _, guard := _ }) (v := ?_) rfl (by kernel_rfl) (by kernel_rfl) (by kernel_rfl) (fun _ _ _ h => h) (Or.inl ⟨by rfl, ?_⟩) (by assumption) ?_
  rotate_left
  · intro w hSw; (try dsimp only at hSw); go_simp; (try with_reducible rfl)
  (try simp only [Act.put, List.setIfInBounds_toArray, List.set_cons_zero, List.set_cons_succ])
  refine wpAnyH_ready (rs := [8, 9]) (by kernel_rfl) (by simp) ?_
  refine AllReadyH.cons rfl (fun K hK => ?_) (AllReadyH.cons rfl (fun K hK => ?_) AllReadyH.nil)
  · go_simp
    refine (A2.out _ hHeld).mono ?_
    rintro e w9 ⟨A9, c9, rfl, hr9, hb9, hq9⟩
    try replace hrB := hrB.step hb9
    dsimp only
    refine hK.out _ _ hq9 (fun hHeld => ?_)
    clear hK K
    (try simp only [Act.put, List.setIfInBounds_toArray, List.set_cons_zero, List.set_cons_succ])
    refine wpAnyH_ready (rs := [9]) (by kernel_rfl) (by simp) ?_
    refine AllReadyH.cons rfl (fun K hK => ?_) AllReadyH.nil
    have hrB := new_xN ‹World›
    try replace hr9 := hr9.step ((Below.refl _ _).alloc (Nat.le_refl _) (.cells #[.string xN] 9))
    go_simp
    refine hK.out _ _ (hHeld.alloc _) (fun hHeld => ?_)
    clear hK K
    (try simp only [Act.put, List.setIfInBounds_toArray, List.set_cons_zero, List.set_cons_succ])
    refine wpAnyH_ready (rs := [10]) (by kernel_rfl) (by simp) ?_
    refine AllReadyH.cons rfl (fun K hK => ?_) AllReadyH.nil
    go_simp
    refine (A3.out _ _ _ _ hHeld hr9 hrB).mono ?_
    rintro e w10 ⟨rfl, hq10⟩
    dsimp only
    refine hK.out _ _ hq10 (fun hHeld => ?_)
    clear hK K
    (try simp only [Act.put, List.setIfInBounds_toArray, List.set_cons_zero, List.set_cons_succ])
    refine wpAnyH_take (i := 11) (oi := { dst := some 18, op := _, type := _, pos := _, after := _, guard := _ }) (v := ?_) rfl (by kernel_rfl) (by kernel_rfl) (by kernel_rfl) (fun _ _ _ h => h) (Or.inl ⟨by rfl, ?_⟩) (by assumption) ?_
    rotate_left
    · intro w hSw; (try dsimp only at hSw); go_simp; (try with_reducible rfl)
    (try simp only [Act.put, List.setIfInBounds_toArray, List.set_cons_zero, List.set_cons_succ])
    refine wpAnyH_take (i := 12) (oi := { dst := some 19, op := _, type := _, pos := _, after := _, guard := _ }) (v := ?_) rfl (by kernel_rfl) (by kernel_rfl) (by kernel_rfl) (fun _ _ _ h => h) (Or.inl ⟨by rfl, ?_⟩) (by assumption) ?_
    rotate_left
    · intro w hSw; (try dsimp only at hSw); go_simp; (try with_reducible rfl)
    (try simp only [Act.put, List.setIfInBounds_toArray, List.set_cons_zero, List.set_cons_succ])
    refine wpAnyH_take (i := 13) (oi := { dst := some 20, op := _, type := _, pos := _, after := _, guard := _ }) (v := ?_) rfl (by kernel_rfl) (by kernel_rfl) (by kernel_rfl) (fun _ _ _ h => h) (Or.inl ⟨by rfl, ?_⟩) (by assumption) ?_
    rotate_left
    · intro w hSw; (try dsimp only at hSw); go_simp; (try with_reducible rfl)
    (try simp only [Act.put, List.setIfInBounds_toArray, List.set_cons_zero, List.set_cons_succ])
    refine wpAnyH_ready (rs := [14]) (by kernel_rfl) (by simp) ?_
    refine AllReadyH.cons rfl (fun K hK => ?_) AllReadyH.nil
    go_simp
    refine (A4.out _ hHeld).mono ?_
    rintro e w11 ⟨g11, rfl, hg11, hq11⟩
    dsimp only
    refine hK.out _ _ hq11 (fun hHeld => ?_)
    clear hK K
    (try simp only [Act.put, List.setIfInBounds_toArray, List.set_cons_zero, List.set_cons_succ])
    refine wpAnyH_ready (rs := [15]) (by kernel_rfl) (by simp) ?_
    refine AllReadyH.cons rfl (fun K hK => ?_) AllReadyH.nil
    go_simp
    refine (A5.out _ _ hHeld hg11).mono ?_
    rintro e w12 ⟨g12, rfl, hg12, hq12⟩
    dsimp only
    refine hK.out _ _ hq12 (fun hHeld => ?_)
    clear hK K
    (try simp only [Act.put, List.setIfInBounds_toArray, List.set_cons_zero, List.set_cons_succ])
    refine wpAnyH_ready (rs := [16]) (by kernel_rfl) (by simp) ?_
    refine AllReadyH.cons rfl (fun K hK => ?_) AllReadyH.nil
    go_simp
    refine (A6.out _ _ hHeld hg12).mono ?_
    rintro e w13 ⟨g13, rfl, hg13, hq13⟩
    dsimp only
    refine hK.out _ _ hq13 (fun hHeld => ?_)
    clear hK K
    (try simp only [Act.put, List.setIfInBounds_toArray, List.set_cons_zero, List.set_cons_succ])
    refine wpAnyH_ready (rs := [17]) (by kernel_rfl) (by simp) ?_
    refine AllReadyH.cons rfl (fun K hK => ?_) AllReadyH.nil
    go_simp
    refine (A7.out _ hHeld).mono ?_
    rintro e w14 ⟨g14, rfl, hg14, hq14⟩
    dsimp only
    refine hK.out _ _ hq14 (fun hHeld => ?_)
    clear hK K
    (try simp only [Act.put, List.setIfInBounds_toArray, List.set_cons_zero, List.set_cons_succ])
    refine wpAnyH_ready (rs := [18]) (by kernel_rfl) (by simp) ?_
    refine AllReadyH.cons rfl (fun K hK => ?_) AllReadyH.nil
    go_simp
    refine (A8.out _ _ _ hHeld hg13 hg14).mono ?_
    rintro e w15 ⟨rfl, hq15⟩
    dsimp only
    refine hK.out _ _ hq15 (fun hHeld => ?_)
    clear hK K
    (try simp only [Act.put, List.setIfInBounds_toArray, List.set_cons_zero, List.set_cons_succ])
    refine wpAnyH_take (i := 19) (oi := { dst := some 26, op := _, type := _, pos := _, after := _, guard := _ }) (v := ?_) rfl (by kernel_rfl) (by kernel_rfl) (by kernel_rfl) (fun _ _ _ h => h) (Or.inl ⟨by rfl, ?_⟩) (by assumption) ?_
    rotate_left
    · intro w hSw; (try dsimp only at hSw); go_simp; (try with_reducible rfl)
    (try simp only [Act.put, List.setIfInBounds_toArray, List.set_cons_zero, List.set_cons_succ])
    refine wpAnyH_take (i := 20) (oi := { dst := some 0, op := _, type := _, pos := _, after := _, guard := _ }) (v := ?_) rfl (by kernel_rfl) (by kernel_rfl) (by kernel_rfl) (fun _ _ _ h => h) (Or.inl ⟨by rfl, ?_⟩) (by assumption) ?_
    rotate_left
    · intro w hSw; (try dsimp only at hSw); go_simp; (try with_reducible rfl)
    (try simp only [Act.put, List.setIfInBounds_toArray, List.set_cons_zero, List.set_cons_succ])
    refine wpAnyH_done (by kernel_rfl) ?_ _
    go_wp2_with fail
    go_ret
    exact ⟨rfl, below_step hb8 hb8.size hHeld.2.2.2.2.1⟩
  · have hrB := new_xN ‹World›
    try replace hr9 := hr9.step ((Below.refl _ _).alloc (Nat.le_refl _) (.cells #[.string xN] 9))
    go_simp
    refine hK.out _ _ (hHeld.alloc _) (fun hHeld => ?_)
    clear hK K
    (try simp only [Act.put, List.setIfInBounds_toArray, List.set_cons_zero, List.set_cons_succ])
    refine wpAnyH_ready (rs := [8]) (by kernel_rfl) (by simp) ?_
    refine AllReadyH.cons rfl (fun K hK => ?_) AllReadyH.nil
    go_simp
    refine (A2.out _ hHeld).mono ?_
    rintro e w9 ⟨A9, c9, rfl, hr9, hb9, hq9⟩
    try replace hrB := hrB.step hb9
    dsimp only
    refine hK.out _ _ hq9 (fun hHeld => ?_)
    clear hK K
    (try simp only [Act.put, List.setIfInBounds_toArray, List.set_cons_zero, List.set_cons_succ])
    refine wpAnyH_ready (rs := [10]) (by kernel_rfl) (by simp) ?_
    refine AllReadyH.cons rfl (fun K hK => ?_) AllReadyH.nil
    go_simp
    refine (A3.out _ _ _ _ hHeld hr9 hrB).mono ?_
    rintro e w10 ⟨rfl, hq10⟩
    dsimp only
    refine hK.out _ _ hq10 (fun hHeld => ?_)
    clear hK K
    (try simp only [Act.put, List.setIfInBounds_toArray, List.set_cons_zero, List.set_cons_succ])
    refine wpAnyH_take (i := 11) (oi := { dst := some 18, op := _, type := _, pos := _, after := _, guard := _ }) (v := ?_) rfl (by kernel_rfl) (by kernel_rfl) (by kernel_rfl) (fun _ _ _ h => h) (Or.inl ⟨by rfl, ?_⟩) (by assumption) ?_
    rotate_left
    · intro w hSw; (try dsimp only at hSw); go_simp; (try with_reducible rfl)
    (try simp only [Act.put, List.setIfInBounds_toArray, List.set_cons_zero, List.set_cons_succ])
    refine wpAnyH_take (i := 12) (oi := { dst := some 19, op := _, type := _, pos := _, after := _, guard := _ }) (v := ?_) rfl (by kernel_rfl) (by kernel_rfl) (by kernel_rfl) (fun _ _ _ h => h) (Or.inl ⟨by rfl, ?_⟩) (by assumption) ?_
    rotate_left
    · intro w hSw; (try dsimp only at hSw); go_simp; (try with_reducible rfl)
    (try simp only [Act.put, List.setIfInBounds_toArray, List.set_cons_zero, List.set_cons_succ])
    refine wpAnyH_take (i := 13) (oi := { dst := some 20, op := _, type := _, pos := _, after := _, guard := _ }) (v := ?_) rfl (by kernel_rfl) (by kernel_rfl) (by kernel_rfl) (fun _ _ _ h => h) (Or.inl ⟨by rfl, ?_⟩) (by assumption) ?_
    rotate_left
    · intro w hSw; (try dsimp only at hSw); go_simp; (try with_reducible rfl)
    (try simp only [Act.put, List.setIfInBounds_toArray, List.set_cons_zero, List.set_cons_succ])
    refine wpAnyH_ready (rs := [14]) (by kernel_rfl) (by simp) ?_
    refine AllReadyH.cons rfl (fun K hK => ?_) AllReadyH.nil
    go_simp
    refine (A4.out _ hHeld).mono ?_
    rintro e w11 ⟨g11, rfl, hg11, hq11⟩
    dsimp only
    refine hK.out _ _ hq11 (fun hHeld => ?_)
    clear hK K
    (try simp only [Act.put, List.setIfInBounds_toArray, List.set_cons_zero, List.set_cons_succ])
    refine wpAnyH_ready (rs := [15]) (by kernel_rfl) (by simp) ?_
    refine AllReadyH.cons rfl (fun K hK => ?_) AllReadyH.nil
    go_simp
    refine (A5.out _ _ hHeld hg11).mono ?_
    rintro e w12 ⟨g12, rfl, hg12, hq12⟩
    dsimp only
    refine hK.out _ _ hq12 (fun hHeld => ?_)
    clear hK K
    (try simp only [Act.put, List.setIfInBounds_toArray, List.set_cons_zero, List.set_cons_succ])
    refine wpAnyH_ready (rs := [16]) (by kernel_rfl) (by simp) ?_
    refine AllReadyH.cons rfl (fun K hK => ?_) AllReadyH.nil
    go_simp
    refine (A6.out _ _ hHeld hg12).mono ?_
    rintro e w13 ⟨g13, rfl, hg13, hq13⟩
    dsimp only
    refine hK.out _ _ hq13 (fun hHeld => ?_)
    clear hK K
    (try simp only [Act.put, List.setIfInBounds_toArray, List.set_cons_zero, List.set_cons_succ])
    refine wpAnyH_ready (rs := [17]) (by kernel_rfl) (by simp) ?_
    refine AllReadyH.cons rfl (fun K hK => ?_) AllReadyH.nil
    go_simp
    refine (A7.out _ hHeld).mono ?_
    rintro e w14 ⟨g14, rfl, hg14, hq14⟩
    dsimp only
    refine hK.out _ _ hq14 (fun hHeld => ?_)
    clear hK K
    (try simp only [Act.put, List.setIfInBounds_toArray, List.set_cons_zero, List.set_cons_succ])
    refine wpAnyH_ready (rs := [18]) (by kernel_rfl) (by simp) ?_
    refine AllReadyH.cons rfl (fun K hK => ?_) AllReadyH.nil
    go_simp
    refine (A8.out _ _ _ hHeld hg13 hg14).mono ?_
    rintro e w15 ⟨rfl, hq15⟩
    dsimp only
    refine hK.out _ _ hq15 (fun hHeld => ?_)
    clear hK K
    (try simp only [Act.put, List.setIfInBounds_toArray, List.set_cons_zero, List.set_cons_succ])
    refine wpAnyH_take (i := 19) (oi := { dst := some 26, op := _, type := _, pos := _, after := _, guard := _ }) (v := ?_) rfl (by kernel_rfl) (by kernel_rfl) (by kernel_rfl) (fun _ _ _ h => h) (Or.inl ⟨by rfl, ?_⟩) (by assumption) ?_
    rotate_left
    · intro w hSw; (try dsimp only at hSw); go_simp; (try with_reducible rfl)
    (try simp only [Act.put, List.setIfInBounds_toArray, List.set_cons_zero, List.set_cons_succ])
    refine wpAnyH_take (i := 20) (oi := { dst := some 0, op := _, type := _, pos := _, after := _, guard := _ }) (v := ?_) rfl (by kernel_rfl) (by kernel_rfl) (by kernel_rfl) (fun _ _ _ h => h) (Or.inl ⟨by rfl, ?_⟩) (by assumption) ?_
    rotate_left
    · intro w hSw; (try dsimp only at hSw); go_simp; (try with_reducible rfl)
    (try simp only [Act.put, List.setIfInBounds_toArray, List.set_cons_zero, List.set_cons_succ])
    refine wpAnyH_done (by kernel_rfl) ?_ _
    go_wp2_with fail
    go_ret
    exact ⟨rfl, below_step hb8 hb8.size hHeld.2.2.2.2.1⟩
end Go.Proofs.Ytinbcdadffljhaa
