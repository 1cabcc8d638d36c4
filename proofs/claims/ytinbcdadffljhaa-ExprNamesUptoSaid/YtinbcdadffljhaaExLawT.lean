/-
  The law ExprTurns.
-/
import Derived.Test.YtinbcdadffljhaaExAl
namespace Go.Proofs.Ytinbcdadffljhaa
open Go.RowKit Go.Shelf
set_option maxRecDepth 100000

/-- two boxes, and all that lay -/
abbrev HeldB2 (D : Nat) (w7 : World) (h g : Eh) (W : World) : Prop :=
  W.cell? ⟨D, 0, none⟩ = some (.int .i64 h.k) ∧ W.cell? ⟨D, 1, none⟩ = some (.int .i64 h.n) ∧ W.cell? ⟨D, 2, none⟩ = some (.string h.s) ∧ W.cell? ⟨D, 3, none⟩ = some (.slice h.A h.m h.cap) ∧
  W.cell? ⟨D + 1, 0, none⟩ = some (.int .i64 g.k) ∧ W.cell? ⟨D + 1, 1, none⟩ = some (.int .i64 g.n) ∧ W.cell? ⟨D + 1, 2, none⟩ = some (.string g.s) ∧ W.cell? ⟨D + 1, 3, none⟩ = some (.slice g.A g.m g.cap) ∧ Below w7.heap.size w7 W ∧ D + 1 < w7.heap.size
theorem HeldB2.drew {D : Nat} {w7 W : World} {h g : Eh} (hh : HeldB2 D w7 h g W) : HeldB2 D w7 h g W.drew := by
  obtain ⟨a1, a2, a3, a4, a5, a6, a7, a8, a9, a10⟩ := hh
  exact ⟨a1, a2, a3, a4, a5, a6, a7, a8, a9.drew, a10⟩
theorem HeldB2.bel {D : Nat} {w7 W : World} {h g : Eh} (hh : HeldB2 D w7 h g W) : Below w7.heap.size w7 W := hh.2.2.2.2.2.2.2.2.1
theorem HeldB2.step {D : Nat} {w7 W w2 : World} {h g : Eh} (hh : HeldB2 D w7 h g W) (hw : Below W.heap.size W w2) : HeldB2 D w7 h g w2 := by
  obtain ⟨a1, a2, a3, a4, a5, a6, a7, a8, a9, a10⟩ := hh
  have hs := a9.size
  have c : ∀ q x, q ≤ D + 1 → w2.cell? ⟨q, x, none⟩ = W.cell? ⟨q, x, none⟩ := fun q x hq => hw.cell (p := ⟨q, x, none⟩) (by show q < _; omega)
  exact ⟨(c _ _ (by omega)).trans a1, (c _ _ (by omega)).trans a2, (c _ _ (by omega)).trans a3, (c _ _ (by omega)).trans a4, (c _ _ (Nat.le_refl _)).trans a5, (c _ _ (Nat.le_refl _)).trans a6, (c _ _ (Nat.le_refl _)).trans a7, (c _ _ (Nat.le_refl _)).trans a8, a9.trans (hw.mono hs), a10⟩
theorem HeldB2.alloc {D : Nat} {w7 W : World} {h g : Eh} (hh : HeldB2 D w7 h g W) (o : Obj) : HeldB2 D w7 h g (W.alloc o) := hh.step ((Below.refl _ _).alloc (Nat.le_refl _) _)
set_option maxHeartbeats 4000000 in
theorem eturns_any (T Y : Xp) (h g : Eh) (name : ByteArray) (w : World) (hT : EIn w w.heap.size T h) (hY : EIn w w.heap.size Y g) (hl : T.nl ≤ 2097152) :
    Calls Try.prog 4 #[.agg h.cells, .string name, .agg g.cells] w fun e w' => e = .returned (.bool true) ∧ Below w.heap.size w w' := by
  obtain ⟨y0, y1, y2, y3, y4, y5⟩ := h
  obtain ⟨z0, z1, z2, z3, z4, z5⟩ := g
  have key : ∃ w1, w1 = (w.alloc (.cells (Eh.cells ⟨y0, y1, y2, y3, y4, y5⟩) 24)).alloc (.cells (Eh.cells ⟨z0, z1, z2, z3, z4, z5⟩) 24) ∧ Below w.heap.size w w1 ∧ EB 24 w1 w.heap.size ⟨y0, y1, y2, y3, y4, y5⟩ ∧ EB 24 w1 (w.heap.size + 1) ⟨z0, z1, z2, z3, z4, z5⟩ := by
    refine ⟨_, rfl, ((Below.refl _ _).alloc (Nat.le_refl _) _).alloc (by simp) _, (EB.new w _ _).alloc _, ?_⟩
    have := EB.new (w.alloc (.cells (Eh.cells ⟨y0, y1, y2, y3, y4, y5⟩) 24)) 24 ⟨z0, z1, z2, z3, z4, z5⟩
    simpa using this
  obtain ⟨w1, hw1, hb1, t1, u1⟩ := key
  have HB1 := Lib.hid hb1
  have HZ := HB1
  replace hT := hT.step hb1
  replace hY := hY.step hb1
  obtain ⟨NL, hNL⟩ : ∃ NL, NL = T.names := ⟨_, rfl⟩
  have A1 : Hid (∀ W, HeldB2 w.heap.size w1 ⟨y0, y1, y2, y3, y4, y5⟩ ⟨z0, z1, z2, z3, z4, z5⟩ W → Calls Try.prog 12 #[.agg #[.int .i64 y0, .int .i64 y1, .string y2, .slice y3 y4 y5]] W fun e w' => ∃ A c, e = .returned (.slice A NL.length c) ∧ RdN w' w'.heap.size A NL ∧ Below W.heap.size W w' ∧ HeldB2 w.heap.size w1 ⟨y0, y1, y2, y3, y4, y5⟩ ⟨z0, z1, z2, z3, z4, z5⟩ w') := Lib.hid fun W hW => by
    refine (dnames T ⟨y0, y1, y2, y3, y4, y5⟩ W (hT.step hW.bel) hl).mono ?_
    rintro e w' ⟨v, rfl, h1, h2⟩
    rw [← hNL] at h1
    obtain ⟨A, c, rfl, hr⟩ := own_rdN h1 (by have := T.names_nl; rw [← hNL] at this; omega)
    exact ⟨A, c, rfl, hr, h2, hW.step h2⟩
  have A2 : Hid (∀ W, HeldB2 w.heap.size w1 ⟨y0, y1, y2, y3, y4, y5⟩ ⟨z0, z1, z2, z3, z4, z5⟩ W → Calls Try.prog 13 #[.agg #[.int .i64 y0, .int .i64 y1, .string y2, .slice y3 y4 y5]] W fun e w' => ∃ A c, e = .returned (.slice A NL.length c) ∧ RdN w' w'.heap.size A NL ∧ Below W.heap.size W w' ∧ HeldB2 w.heap.size w1 ⟨y0, y1, y2, y3, y4, y5⟩ ⟨z0, z1, z2, z3, z4, z5⟩ w') := Lib.hid fun W hW => by
    refine (nms T ⟨y0, y1, y2, y3, y4, y5⟩ W (hT.step hW.bel) hl).mono ?_
    rintro e w' ⟨v, rfl, h1, h2⟩
    rw [← hNL] at h1
    obtain ⟨A, c, rfl, hr⟩ := own_rdN h1 (by have := T.names_nl; rw [← hNL] at this; omega)
    exact ⟨A, c, rfl, hr, h2, hW.step h2⟩
  have B1 : Hid (∀ W A c B d, HeldB2 w.heap.size w1 ⟨y0, y1, y2, y3, y4, y5⟩ ⟨z0, z1, z2, z3, z4, z5⟩ W → RdN W W.heap.size A NL → RdN W W.heap.size B NL → Calls Try.prog 11 #[.slice A NL.length c, .slice B NL.length d] W fun e w' => e = .returned (.bool true) ∧ HeldB2 w.heap.size w1 ⟨y0, y1, y2, y3, y4, y5⟩ ⟨z0, z1, z2, z3, z4, z5⟩ w') := Lib.hid fun W A c B d hW hA hB => by
    refine (equalN_same A B c d NL _ hA hB).mono ?_
    rintro e w' ⟨rfl, h1⟩
    exact ⟨rfl, hW.step h1⟩
  have A3 : Hid (∀ W, HeldB2 w.heap.size w1 ⟨y0, y1, y2, y3, y4, y5⟩ ⟨z0, z1, z2, z3, z4, z5⟩ W → Calls Try.prog 15 #[.agg #[.int .i64 y0, .int .i64 y1, .string y2, .slice y3 y4 y5], .string name, .agg #[.int .i64 z0, .int .i64 z1, .string z2, .slice z3 z4 z5]] W fun e w' => ∃ g, e = .returned (.agg g.cells) ∧ EOx w' W.heap.size w'.heap.size (Xp.put name Y T) g ∧ Below W.heap.size W w' ∧ HeldB2 w.heap.size w1 ⟨y0, y1, y2, y3, y4, y5⟩ ⟨z0, z1, z2, z3, z4, z5⟩ w') := Lib.hid fun W hW => by
    refine (dput T ⟨y0, y1, y2, y3, y4, y5⟩ name Y ⟨z0, z1, z2, z3, z4, z5⟩ W (hT.step hW.bel) (hY.step hW.bel)).mono ?_
    rintro e w' ⟨g, rfl, h1, h2⟩
    exact ⟨g, rfl, h1, h2, hW.step h2⟩
  have A4 : Hid (∀ W, HeldB2 w.heap.size w1 ⟨y0, y1, y2, y3, y4, y5⟩ ⟨z0, z1, z2, z3, z4, z5⟩ W → Calls Try.prog 16 #[.agg #[.int .i64 y0, .int .i64 y1, .string y2, .slice y3 y4 y5], .string name, .agg #[.int .i64 z0, .int .i64 z1, .string z2, .slice z3 z4 z5]] W fun e w' => ∃ g, e = .returned (.agg g.cells) ∧ EOx w' W.heap.size w'.heap.size (Xp.put name Y T) g ∧ Below W.heap.size W w' ∧ HeldB2 w.heap.size w1 ⟨y0, y1, y2, y3, y4, y5⟩ ⟨z0, z1, z2, z3, z4, z5⟩ w') := Lib.hid fun W hW => by
    refine (pus T ⟨y0, y1, y2, y3, y4, y5⟩ name Y ⟨z0, z1, z2, z3, z4, z5⟩ W (hT.step hW.bel) (hY.step hW.bel)).mono ?_
    rintro e w' ⟨g, rfl, h1, h2⟩
    exact ⟨g, rfl, h1, h2, hW.step h2⟩
  have A5 : Hid (∀ W, HeldB2 w.heap.size w1 ⟨y0, y1, y2, y3, y4, y5⟩ ⟨z0, z1, z2, z3, z4, z5⟩ W → Calls Try.prog 17 #[.agg #[.int .i64 y0, .int .i64 y1, .string y2, .slice y3 y4 y5]] W fun e w' => ∃ g, e = .returned (.agg g.cells) ∧ EOx w' W.heap.size w'.heap.size T.fold g ∧ Below W.heap.size W w' ∧ HeldB2 w.heap.size w1 ⟨y0, y1, y2, y3, y4, y5⟩ ⟨z0, z1, z2, z3, z4, z5⟩ w') := Lib.hid fun W hW => by
    refine (dfold T ⟨y0, y1, y2, y3, y4, y5⟩ W (hT.step hW.bel) hl).mono ?_
    rintro e w' ⟨g, rfl, h1, h2⟩
    exact ⟨g, rfl, h1, h2, hW.step h2⟩
  have A6 : Hid (∀ W, HeldB2 w.heap.size w1 ⟨y0, y1, y2, y3, y4, y5⟩ ⟨z0, z1, z2, z3, z4, z5⟩ W → Calls Try.prog 18 #[.agg #[.int .i64 y0, .int .i64 y1, .string y2, .slice y3 y4 y5]] W fun e w' => ∃ g, e = .returned (.agg g.cells) ∧ EOx w' W.heap.size w'.heap.size T.fold g ∧ Below W.heap.size W w' ∧ HeldB2 w.heap.size w1 ⟨y0, y1, y2, y3, y4, y5⟩ ⟨z0, z1, z2, z3, z4, z5⟩ w') := Lib.hid fun W hW => by
    refine (fos T ⟨y0, y1, y2, y3, y4, y5⟩ W (hT.step hW.bel) hl).mono ?_
    rintro e w' ⟨g, rfl, h1, h2⟩
    exact ⟨g, rfl, h1, h2, hW.step h2⟩
  have B2 : Hid (∀ (X : Xp) W g k lo lo', HeldB2 w.heap.size w1 ⟨y0, y1, y2, y3, y4, y5⟩ ⟨z0, z1, z2, z3, z4, z5⟩ W → EOx W lo W.heap.size X g → EOx W lo' W.heap.size X k → Calls Try.prog 14 #[.agg g.cells, .agg k.cells] W fun e w' => e = .returned (.bool true) ∧ HeldB2 w.heap.size w1 ⟨y0, y1, y2, y3, y4, y5⟩ ⟨z0, z1, z2, z3, z4, z5⟩ w') := Lib.hid fun X W g k lo lo' hW hg hk => by
    refine (same_any X g k lo lo' W hg hk).mono ?_
    rintro e w' ⟨rfl, h2⟩
    exact ⟨rfl, hW.step h2⟩
  have hH0 : HeldB2 w.heap.size w1 ⟨y0, y1, y2, y3, y4, y5⟩ ⟨z0, z1, z2, z3, z4, z5⟩ w1 := ⟨t1.c0, t1.c1, t1.c2, t1.c3, u1.c0, u1.c1, u1.c2, u1.c3, Below.refl _ _, u1.lt⟩
  have HW := Lib.hid hw1
  clear hNL hT hY hl t1 u1 hb1 hw1
  go_enter Try.func4, Try.ntmps4
  go_upto_region 1 with fail
  rw [show (w.alloc _).alloc _ = w1 from HW.out.symm]
  refine wp_region_held_drew (S := HeldB2 w.heap.size w1 ⟨y0, y1, y2, y3, y4, y5⟩ ⟨z0, z1, z2, z3, z4, z5⟩) (by kernel_rfl) (HeldB2.drew hH0) (fun hHeld => ?_)
  refine wpAnyH_take (i := 0) (oi := { dst := some 7, op := _, type := _, pos := _, after := _, guard := _ }) (v := ?_) rfl (by kernel_rfl) (by kernel_rfl) (by kernel_rfl) (fun _ _ _ h => h) (Or.inl ⟨by rfl, ?_⟩) (by assumption) ?_
  rotate_left
  · intro w hSw; (try dsimp only at hSw); go_simp; (try with_reducible rfl)
  (try simp only [Act.put, List.setIfInBounds_toArray, List.set_cons_zero, List.set_cons_succ])
  refine wpAnyH_take (i := 2) (oi := { dst := some 9, op := _, type := _, pos := _, after := _, guard := _ }) (v := ?_) rfl (by kernel_rfl) (by kernel_rfl) (by kernel_rfl) (fun _ _ _ h => h) (Or.inl ⟨by rfl, ?_⟩) (by assumption) ?_
  rotate_left
  · intro w hSw; (try dsimp only at hSw); go_simp; (try with_reducible rfl)
  (try simp only [Act.put, List.setIfInBounds_toArray, List.set_cons_zero, List.set_cons_succ])
  refine wpAnyH_ready (rs := [1]) (by kernel_rfl) (by simp) ?_
  refine AllReadyH.cons rfl (fun K hK => ?_) AllReadyH.nil
  go_simp
  refine (A1.out _ hHeld).mono ?_
  rintro e w8 ⟨A8, c8, rfl, hr8, hb8, hq8⟩
  dsimp only
  refine hK.out _ _ hq8 (fun hHeld => ?_)
  clear hK K
  (try simp only [Act.put, List.setIfInBounds_toArray, List.set_cons_zero, List.set_cons_succ])
  refine wpAnyH_ready (rs := [3]) (by kernel_rfl) (by simp) ?_
  refine AllReadyH.cons rfl (fun K hK => ?_) AllReadyH.nil
  go_simp
  refine (A2.out _ hHeld).mono ?_
  rintro e w9 ⟨A9, c9, rfl, hr9, hb9, hq9⟩
  replace hr8 := hr8.step hb9
  dsimp only
  refine hK.out _ _ hq9 (fun hHeld => ?_)
  clear hK K
  (try simp only [Act.put, List.setIfInBounds_toArray, List.set_cons_zero, List.set_cons_succ])
  refine wpAnyH_ready (rs := [4]) (by kernel_rfl) (by simp) ?_
  refine AllReadyH.cons rfl (fun K hK => ?_) AllReadyH.nil
  go_simp
  refine (B1.out _ _ _ _ _ hHeld hr8 hr9).mono ?_
  rintro e w10 ⟨rfl, hq10⟩
  dsimp only
  refine hK.out _ _ hq10 (fun hHeld => ?_)
  clear hK K
  (try simp only [Act.put, List.setIfInBounds_toArray, List.set_cons_zero, List.set_cons_succ])
  refine wpAnyH_take (i := 5) (oi := { dst := some 12, op := _, type := _, pos := _, after := _, guard := _ }) (v := ?_) rfl (by kernel_rfl) (by kernel_rfl) (by kernel_rfl) (fun _ _ _ h => h) (Or.inl ⟨by rfl, ?_⟩) (by assumption) ?_
  rotate_left
  · intro w hSw; (try dsimp only at hSw); go_simp; (try with_reducible rfl)
  (try simp only [Act.put, List.setIfInBounds_toArray, List.set_cons_zero, List.set_cons_succ])
  refine wpAnyH_take (i := 6) (oi := { dst := some 13, op := _, type := _, pos := _, after := _, guard := _ }) (v := ?_) rfl (by kernel_rfl) (by kernel_rfl) (by kernel_rfl) (fun _ _ _ h => h) (Or.inl ⟨by rfl, ?_⟩) (by assumption) ?_
  rotate_left
  · intro w hSw; (try dsimp only at hSw); go_simp; (try with_reducible rfl)
  (try simp only [Act.put, List.setIfInBounds_toArray, List.set_cons_zero, List.set_cons_succ])
  refine wpAnyH_take (i := 7) (oi := { dst := some 14, op := _, type := _, pos := _, after := _, guard := _ }) (v := ?_) rfl (by kernel_rfl) (by kernel_rfl) (by kernel_rfl) (fun _ _ _ h => h) (Or.inl ⟨by rfl, ?_⟩) (by assumption) ?_
  rotate_left
  · intro w hSw; (try dsimp only at hSw); go_simp; (try with_reducible rfl)
  (try simp only [Act.put, List.setIfInBounds_toArray, List.set_cons_zero, List.set_cons_succ])
  refine wpAnyH_take (i := 8) (oi := { dst := some 15, op := _, type := _, pos := _, after := _, guard := _ }) (v := ?_) rfl (by kernel_rfl) (by kernel_rfl) (by kernel_rfl) (fun _ _ _ h => h) (Or.inl ⟨by rfl, ?_⟩) (by assumption) ?_
  rotate_left
  · intro w hSw; (try dsimp only at hSw); go_simp; (try with_reducible rfl)
  (try simp only [Act.put, List.setIfInBounds_toArray, List.set_cons_zero, List.set_cons_succ])
  refine wpAnyH_take (i := 10) (oi := { dst := some 17, op := _, type := _, pos := _, after := _, guard := _ }) (v := ?_) rfl (by kernel_rfl) (by kernel_rfl) (by kernel_rfl) (fun _ _ _ h => h) (Or.inl ⟨by rfl, ?_⟩) (by assumption) ?_
  rotate_left
  · intro w hSw; (try dsimp only at hSw); go_simp; (try with_reducible rfl)
  (try simp only [Act.put, List.setIfInBounds_toArray, List.set_cons_zero, List.set_cons_succ])
  refine wpAnyH_take (i := 11) (oi := { dst := some 18, op := _, type := _, pos := _, after := _, guard := _ }) (v := ?_) rfl (by kernel_rfl) (by kernel_rfl) (by kernel_rfl) (fun _ _ _ h => h) (Or.inl ⟨by rfl, ?_⟩) (by assumption) ?_
  rotate_left
  · intro w hSw; (try dsimp only at hSw); go_simp; (try with_reducible rfl)
  (try simp only [Act.put, List.setIfInBounds_toArray, List.set_cons_zero, List.set_cons_succ])
  refine wpAnyH_take (i := 12) (oi := { dst := some 19, op := _, type := _, pos := _, after := _, guard := _ }) (v := ?_) rfl (by kernel_rfl) (by kernel_rfl) (by kernel_rfl) (fun _ _ _ h => h) (Or.inl ⟨by rfl, ?_⟩) (by assumption) ?_
  rotate_left
  · intro w hSw; (try dsimp only at hSw); go_simp; (try with_reducible rfl)
  (try simp only [Act.put, List.setIfInBounds_toArray, List.set_cons_zero, List.set_cons_succ])
  refine wpAnyH_ready (rs := [9]) (by kernel_rfl) (by simp) ?_
  refine AllReadyH.cons rfl (fun K hK => ?_) AllReadyH.nil
  go_simp
  refine (A3.out _ hHeld).mono ?_
  rintro e w11 ⟨g11, rfl, hx11, hb11, hq11⟩
  dsimp only
  refine hK.out _ _ hq11 (fun hHeld => ?_)
  clear hK K
  (try simp only [Act.put, List.setIfInBounds_toArray, List.set_cons_zero, List.set_cons_succ])
  refine wpAnyH_ready (rs := [13]) (by kernel_rfl) (by simp) ?_
  refine AllReadyH.cons rfl (fun K hK => ?_) AllReadyH.nil
  go_simp
  refine (A4.out _ hHeld).mono ?_
  rintro e w12 ⟨g12, rfl, hx12, hb12, hq12⟩
  replace hx11 := hx11.step hb12
  dsimp only
  refine hK.out _ _ hq12 (fun hHeld => ?_)
  clear hK K
  (try simp only [Act.put, List.setIfInBounds_toArray, List.set_cons_zero, List.set_cons_succ])
  refine wpAnyH_ready (rs := [14]) (by kernel_rfl) (by simp) ?_
  refine AllReadyH.cons rfl (fun K hK => ?_) AllReadyH.nil
  go_simp
  refine (B2.out _ _ _ _ _ _ hHeld hx11 hx12).mono ?_
  rintro e w13 ⟨rfl, hq13⟩
  dsimp only
  refine hK.out _ _ hq13 (fun hHeld => ?_)
  clear hK K
  (try simp only [Act.put, List.setIfInBounds_toArray, List.set_cons_zero, List.set_cons_succ])
  refine wpAnyH_take (i := 15) (oi := { dst := some 22, op := _, type := _, pos := _, after := _, guard := _ }) (v := ?_) rfl (by kernel_rfl) (by kernel_rfl) (by kernel_rfl) (fun _ _ _ h => h) (Or.inl ⟨by rfl, ?_⟩) (by assumption) ?_
  rotate_left
  · intro w hSw; (try dsimp only at hSw); go_simp; (try with_reducible rfl)
  (try simp only [Act.put, List.setIfInBounds_toArray, List.set_cons_zero, List.set_cons_succ])
  refine wpAnyH_take (i := 16) (oi := { dst := some 23, op := _, type := _, pos := _, after := _, guard := _ }) (v := ?_) rfl (by kernel_rfl) (by kernel_rfl) (by kernel_rfl) (fun _ _ _ h => h) (Or.inl ⟨by rfl, ?_⟩) (by assumption) ?_
  rotate_left
  · intro w hSw; (try dsimp only at hSw); go_simp; (try with_reducible rfl)
  (try simp only [Act.put, List.setIfInBounds_toArray, List.set_cons_zero, List.set_cons_succ])
  refine wpAnyH_take (i := 17) (oi := { dst := some 24, op := _, type := _, pos := _, after := _, guard := _ }) (v := ?_) rfl (by kernel_rfl) (by kernel_rfl) (by kernel_rfl) (fun _ _ _ h => h) (Or.inl ⟨by rfl, ?_⟩) (by assumption) ?_
  rotate_left
  · intro w hSw; (try dsimp only at hSw); go_simp; (try with_reducible rfl)
  (try simp only [Act.put, List.setIfInBounds_toArray, List.set_cons_zero, List.set_cons_succ])
  refine wpAnyH_take (i := 19) (oi := { dst := some 26, op := _, type := _, pos := _, after := _, guard := _ }) (v := ?_) rfl (by kernel_rfl) (by kernel_rfl) (by kernel_rfl) (fun _ _ _ h => h) (Or.inl ⟨by rfl, ?_⟩) (by assumption) ?_
  rotate_left
  · intro w hSw; (try dsimp only at hSw); go_simp; (try with_reducible rfl)
  (try simp only [Act.put, List.setIfInBounds_toArray, List.set_cons_zero, List.set_cons_succ])
  refine wpAnyH_ready (rs := [18]) (by kernel_rfl) (by simp) ?_
  refine AllReadyH.cons rfl (fun K hK => ?_) AllReadyH.nil
  go_simp
  refine (A5.out _ hHeld).mono ?_
  rintro e w14 ⟨g14, rfl, hx14, hb14, hq14⟩
  dsimp only
  refine hK.out _ _ hq14 (fun hHeld => ?_)
  clear hK K
  (try simp only [Act.put, List.setIfInBounds_toArray, List.set_cons_zero, List.set_cons_succ])
  refine wpAnyH_ready (rs := [20]) (by kernel_rfl) (by simp) ?_
  refine AllReadyH.cons rfl (fun K hK => ?_) AllReadyH.nil
  go_simp
  refine (A6.out _ hHeld).mono ?_
  rintro e w15 ⟨g15, rfl, hx15, hb15, hq15⟩
  replace hx14 := hx14.step hb15
  dsimp only
  refine hK.out _ _ hq15 (fun hHeld => ?_)
  clear hK K
  (try simp only [Act.put, List.setIfInBounds_toArray, List.set_cons_zero, List.set_cons_succ])
  refine wpAnyH_ready (rs := [21]) (by kernel_rfl) (by simp) ?_
  refine AllReadyH.cons rfl (fun K hK => ?_) AllReadyH.nil
  go_simp
  refine (B2.out _ _ _ _ _ _ hHeld hx14 hx15).mono ?_
  rintro e w16 ⟨rfl, hq16⟩
  dsimp only
  refine hK.out _ _ hq16 (fun hHeld => ?_)
  clear hK K
  (try simp only [Act.put, List.setIfInBounds_toArray, List.set_cons_zero, List.set_cons_succ])
  refine wpAnyH_take (i := 22) (oi := { dst := some 29, op := _, type := _, pos := _, after := _, guard := _ }) (v := ?_) rfl (by kernel_rfl) (by kernel_rfl) (by kernel_rfl) (fun _ _ _ h => h) (Or.inl ⟨by rfl, ?_⟩) (by assumption) ?_
  rotate_left
  · intro w hSw; (try dsimp only at hSw); go_simp; (try with_reducible rfl)
  (try simp only [Act.put, List.setIfInBounds_toArray, List.set_cons_zero, List.set_cons_succ])
  refine wpAnyH_take (i := 23) (oi := { dst := some 6, op := _, type := _, pos := _, after := _, guard := _ }) (v := ?_) rfl (by kernel_rfl) (by kernel_rfl) (by kernel_rfl) (fun _ _ _ h => h) (Or.inl ⟨by rfl, ?_⟩) (by assumption) ?_
  rotate_left
  · intro w hSw; (try dsimp only at hSw); go_simp; (try with_reducible rfl)
  (try simp only [Act.put, List.setIfInBounds_toArray, List.set_cons_zero, List.set_cons_succ])
  refine wpAnyH_done (by kernel_rfl) ?_ _
  go_wp2_with fail
  go_ret
  exact ⟨rfl, HZ.out.trans (hHeld.bel.mono HZ.out.size)⟩
end Go.Proofs.Ytinbcdadffljhaa
