/-
  The law ExprFold.
-/
import Derived.Test.YtinbcdadffljhaaExAl
namespace Go.Proofs.Ytinbcdadffljhaa
open Go.RowKit Go.Shelf
set_option maxRecDepth 100000

/-- two boxes, and all that lay -/
abbrev HeldC2 (D D' : Nat) (w7 : World) (h g : Eh) (W : World) : Prop :=
  W.cell? ⟨D, 0, none⟩ = some (.int .i64 h.k) ∧ W.cell? ⟨D, 1, none⟩ = some (.int .i64 h.n) ∧ W.cell? ⟨D, 2, none⟩ = some (.string h.s) ∧ W.cell? ⟨D, 3, none⟩ = some (.slice h.A h.m h.cap) ∧
  W.cell? ⟨D', 0, none⟩ = some (.int .i64 g.k) ∧ W.cell? ⟨D', 1, none⟩ = some (.int .i64 g.n) ∧ W.cell? ⟨D', 2, none⟩ = some (.string g.s) ∧ W.cell? ⟨D', 3, none⟩ = some (.slice g.A g.m g.cap) ∧ Below w7.heap.size w7 W ∧ D < w7.heap.size ∧ D' < w7.heap.size
theorem HeldC2.drew {D D' : Nat} {w7 W : World} {h g : Eh} (hh : HeldC2 D D' w7 h g W) : HeldC2 D D' w7 h g W.drew := by
  obtain ⟨a1, a2, a3, a4, a5, a6, a7, a8, a9, a10⟩ := hh
  exact ⟨a1, a2, a3, a4, a5, a6, a7, a8, a9.drew, a10⟩
theorem HeldC2.bel {D D' : Nat} {w7 W : World} {h g : Eh} (hh : HeldC2 D D' w7 h g W) : Below w7.heap.size w7 W := hh.2.2.2.2.2.2.2.2.1
theorem HeldC2.step {D D' : Nat} {w7 W w2 : World} {h g : Eh} (hh : HeldC2 D D' w7 h g W) (hw : Below W.heap.size W w2) : HeldC2 D D' w7 h g w2 := by
  obtain ⟨a1, a2, a3, a4, a5, a6, a7, a8, a9, a10, a11⟩ := hh
  have hs := a9.size
  have c : ∀ q x, q < w7.heap.size → w2.cell? ⟨q, x, none⟩ = W.cell? ⟨q, x, none⟩ := fun q x hq => hw.cell (p := ⟨q, x, none⟩) (by show q < _; omega)
  exact ⟨(c _ _ a10).trans a1, (c _ _ a10).trans a2, (c _ _ a10).trans a3, (c _ _ a10).trans a4, (c _ _ a11).trans a5, (c _ _ a11).trans a6, (c _ _ a11).trans a7, (c _ _ a11).trans a8, a9.trans (hw.mono hs), a10, a11⟩
theorem HeldC2.alloc {D D' : Nat} {w7 W : World} {h g : Eh} (hh : HeldC2 D D' w7 h g W) (o : Obj) : HeldC2 D D' w7 h g (W.alloc o) := hh.step ((Below.refl _ _).alloc (Nat.le_refl _) _)
theorem Xp.nl_fold : ∀ T : Xp, T.fold.nl ≤ T.nl
  | .num _ => Nat.le_refl _
  | .nam _ => Nat.le_refl _
  | .op k a b => by
    have h1 := a.nl_fold
    have h2 := b.nl_fold
    unfold Xp.fold
    split
    · exact Nat.zero_le _
    · show a.fold.nl + b.fold.nl ≤ a.nl + b.nl; omega
  | .nul => Nat.le_refl _
theorem EOx.kind {w : World} {lo B : Nat} : ∀ {T : Xp} {h : Eh}, EOx w lo B T h → (h.k == 1) = T.isNum
  | .num _, _, h => by rw [h.1]; rfl
  | .nam _, _, h => by rw [h.1]; rfl
  | .op k _ _, _, h => by
    have h1 := h.1
    have h2 := h.2.1
    show _ = false
    rw [h1]
    simp
    omega
set_option maxHeartbeats 4000000 in
theorem efold_any (T : Xp) (h : Eh) (A : Option Addr) (c : Nat) (env : List (ByteArray × Int)) (w : World) (hT : EIn w w.heap.size T h) (he : RdB w w.heap.size A env) (hl : env.length ≤ 1048576) (hc : env.length ≤ c) (hnl : T.nl ≤ 2097152) :
    Calls Try.prog 7 #[.agg h.cells, .slice A env.length c] w fun e w' => e = .returned (.bool true) ∧ Below w.heap.size w w' := by
  have HC := Lib.hid hc
  clear hc
  obtain ⟨y0, y1, y2, y3, y4, y5⟩ := h
  have key : ∃ w1, w1 = w.alloc (.cells (Eh.cells ⟨y0, y1, y2, y3, y4, y5⟩) 24) ∧ Below w.heap.size w w1 ∧ EB 24 w1 w.heap.size ⟨y0, y1, y2, y3, y4, y5⟩ := ⟨_, rfl, (Below.refl _ _).alloc (Nat.le_refl _) _, EB.new _ _ _⟩
  obtain ⟨w1, hw1, hb1, t1⟩ := key
  have HB1 := Lib.hid hb1
  replace hT := hT.step hb1
  replace he := he.step hb1
  have A0 := alive9_any w1
  have HW := Lib.hid hw1
  obtain ⟨V, hV⟩ : ∃ V, V = T.ev env := ⟨_, rfl⟩
  obtain ⟨N, hN⟩ : ∃ N, N = env.length := ⟨_, rfl⟩
  obtain ⟨NL, hNL⟩ : ∃ NL, NL = T.names := ⟨_, rfl⟩
  rw [← hN]
  have RB := Lib.hid he
  have HN := Lib.hid (And.intro hV (And.intro hN hNL))
  clear hw1 hb1 hV hN hNL
  go_enter Try.func7, Try.ntmps7
  go_upto_region 1 with fail
  rw [show w.alloc _ = w1 from HW.out.symm]
  go_wp2_with fail
  refine A0.mono ?_
  rintro e w2 ⟨rfl, hb2⟩
  have t2 := t1.step hb2
  have c0 := t2.c0
  have c1 := t2.c1
  have c2 := t2.c2
  have c3 := t2.c3
  dsimp only at c0 c1 c2 c3
  go_wp2_with fail
  refine (dfold T ⟨y0, y1, y2, y3, y4, y5⟩ w2 (hT.step hb2) hnl).mono ?_
  rintro e w3 ⟨⟨z0, z1, z2, z3, z4, z5⟩, rfl, hx3, hb3⟩
  rw [show (Eh.cells ⟨z0, z1, z2, z3, z4, z5⟩) = #[.int .i64 z0, .int .i64 z1, .string z2, .slice z3 z4 z5] from rfl]
  have hb23 := below_step hb2 hb2.size hb3
  have key : ∃ w4, w4 = w3.alloc (.cells (Eh.cells ⟨z0, z1, z2, z3, z4, z5⟩) 24) ∧ Below w3.heap.size w3 w4 ∧ EB 24 w4 w3.heap.size ⟨z0, z1, z2, z3, z4, z5⟩ := ⟨_, rfl, (Below.refl _ _).alloc (Nat.le_refl _) _, EB.new _ _ _⟩
  obtain ⟨w4, hw4, hb4, u4⟩ := key
  have HW4 : Hid (w4 = w3.alloc (.cells #[.int .i64 z0, .int .i64 z1, .string z2, .slice z3 z4 z5] 24)) := hw4
  have hb24 := below_step hb23 hb23.size hb4
  have HZ := Lib.hid (HB1.out.trans (hb24.mono HB1.out.size))
  have t4 := (t2.step hb3).step hb4
  have hH0 : HeldC2 w.heap.size w3.heap.size w4 ⟨y0, y1, y2, y3, y4, y5⟩ ⟨z0, z1, z2, z3, z4, z5⟩ w4 := ⟨t4.c0, t4.c1, t4.c2, t4.c3, u4.c0, u4.c1, u4.c2, u4.c3, Below.refl _ _, t4.lt, u4.lt⟩
  have hx4 := hx3.step hb4
  have hT4 := hT.step hb24
  have he4 := RB.out.step hb24
  obtain ⟨hV, hN, hNL⟩ := HN.out
  have A1 : Hid (∀ W, HeldC2 w.heap.size w3.heap.size w4 ⟨y0, y1, y2, y3, y4, y5⟩ ⟨z0, z1, z2, z3, z4, z5⟩ W → Calls Try.prog 9 #[.agg #[.int .i64 z0, .int .i64 z1, .string z2, .slice z3 z4 z5], .slice A N c] W fun e w' => e = .returned (.int .i64 V) ∧ HeldC2 w.heap.size w3.heap.size w4 ⟨y0, y1, y2, y3, y4, y5⟩ ⟨z0, z1, z2, z3, z4, z5⟩ w') := Lib.hid fun W hW => by
    rw [hN]
    refine (deval T.fold ⟨z0, z1, z2, z3, z4, z5⟩ A c env W (hx4.inn.step hW.bel) (he4.step hW.bel) (by omega) HC.out).mono ?_
    rintro e w' ⟨rfl, h1⟩
    exact ⟨by rw [hV, Xp.ev_fold], hW.step h1⟩
  have A2 : Hid (∀ W, HeldC2 w.heap.size w3.heap.size w4 ⟨y0, y1, y2, y3, y4, y5⟩ ⟨z0, z1, z2, z3, z4, z5⟩ W → Calls Try.prog 9 #[.agg #[.int .i64 y0, .int .i64 y1, .string y2, .slice y3 y4 y5], .slice A N c] W fun e w' => e = .returned (.int .i64 V) ∧ HeldC2 w.heap.size w3.heap.size w4 ⟨y0, y1, y2, y3, y4, y5⟩ ⟨z0, z1, z2, z3, z4, z5⟩ w') := Lib.hid fun W hW => by
    rw [hN]
    refine (deval T ⟨y0, y1, y2, y3, y4, y5⟩ A c env W (hT4.step hW.bel) (he4.step hW.bel) (by omega) HC.out).mono ?_
    rintro e w' ⟨rfl, h1⟩
    exact ⟨by rw [hV], hW.step h1⟩
  have A3 : Hid (∀ W, HeldC2 w.heap.size w3.heap.size w4 ⟨y0, y1, y2, y3, y4, y5⟩ ⟨z0, z1, z2, z3, z4, z5⟩ W → Calls Try.prog 17 #[.agg #[.int .i64 z0, .int .i64 z1, .string z2, .slice z3 z4 z5]] W fun e w' => ∃ g, e = .returned (.agg g.cells) ∧ EOx w' W.heap.size w'.heap.size T.fold g ∧ HeldC2 w.heap.size w3.heap.size w4 ⟨y0, y1, y2, y3, y4, y5⟩ ⟨z0, z1, z2, z3, z4, z5⟩ w') := Lib.hid fun W hW => by
    refine (dfold T.fold ⟨z0, z1, z2, z3, z4, z5⟩ W (hx4.inn.step hW.bel) (Nat.le_trans T.nl_fold hnl)).mono ?_
    rintro e w' ⟨g, rfl, h1, h2⟩
    rw [Xp.fold_fold] at h1
    exact ⟨g, rfl, h1, hW.step h2⟩
  have B2 : Hid (∀ W g lo, HeldC2 w.heap.size w3.heap.size w4 ⟨y0, y1, y2, y3, y4, y5⟩ ⟨z0, z1, z2, z3, z4, z5⟩ W → EOx W lo W.heap.size T.fold g → Calls Try.prog 14 #[.agg g.cells, .agg #[.int .i64 z0, .int .i64 z1, .string z2, .slice z3 z4 z5]] W fun e w' => e = .returned (.bool true) ∧ HeldC2 w.heap.size w3.heap.size w4 ⟨y0, y1, y2, y3, y4, y5⟩ ⟨z0, z1, z2, z3, z4, z5⟩ w') := Lib.hid fun W g lo hW hg => by
    refine (same_any T.fold g ⟨z0, z1, z2, z3, z4, z5⟩ lo _ W hg (hx4.step hW.bel)).mono ?_
    rintro e w' ⟨rfl, h2⟩
    exact ⟨rfl, hW.step h2⟩
  have A4 : Hid (∀ W, HeldC2 w.heap.size w3.heap.size w4 ⟨y0, y1, y2, y3, y4, y5⟩ ⟨z0, z1, z2, z3, z4, z5⟩ W → Calls Try.prog 12 #[.agg #[.int .i64 z0, .int .i64 z1, .string z2, .slice z3 z4 z5]] W fun e w' => ∃ A c, e = .returned (.slice A NL.length c) ∧ RdN w' w'.heap.size A NL ∧ Below W.heap.size W w' ∧ HeldC2 w.heap.size w3.heap.size w4 ⟨y0, y1, y2, y3, y4, y5⟩ ⟨z0, z1, z2, z3, z4, z5⟩ w') := Lib.hid fun W hW => by
    refine (dnames T.fold ⟨z0, z1, z2, z3, z4, z5⟩ W (hx4.inn.step hW.bel) (Nat.le_trans T.nl_fold hnl)).mono ?_
    rintro e w' ⟨v, rfl, h1, h2⟩
    rw [Xp.names_fold, ← hNL] at h1
    obtain ⟨A, c, rfl, hr⟩ := own_rdN h1 (by have := T.names_nl; rw [← hNL] at this; omega)
    exact ⟨A, c, rfl, hr, h2, hW.step h2⟩
  have A5 : Hid (∀ W, HeldC2 w.heap.size w3.heap.size w4 ⟨y0, y1, y2, y3, y4, y5⟩ ⟨z0, z1, z2, z3, z4, z5⟩ W → Calls Try.prog 12 #[.agg #[.int .i64 y0, .int .i64 y1, .string y2, .slice y3 y4 y5]] W fun e w' => ∃ A c, e = .returned (.slice A NL.length c) ∧ RdN w' w'.heap.size A NL ∧ Below W.heap.size W w' ∧ HeldC2 w.heap.size w3.heap.size w4 ⟨y0, y1, y2, y3, y4, y5⟩ ⟨z0, z1, z2, z3, z4, z5⟩ w') := Lib.hid fun W hW => by
    refine (dnames T ⟨y0, y1, y2, y3, y4, y5⟩ W (hT4.step hW.bel) hnl).mono ?_
    rintro e w' ⟨v, rfl, h1, h2⟩
    rw [← hNL] at h1
    obtain ⟨A, c, rfl, hr⟩ := own_rdN h1 (by have := T.names_nl; rw [← hNL] at this; omega)
    exact ⟨A, c, rfl, hr, h2, hW.step h2⟩
  have B1 : Hid (∀ W A c B d, HeldC2 w.heap.size w3.heap.size w4 ⟨y0, y1, y2, y3, y4, y5⟩ ⟨z0, z1, z2, z3, z4, z5⟩ W → RdN W W.heap.size A NL → RdN W W.heap.size B NL → Calls Try.prog 11 #[.slice A NL.length c, .slice B NL.length d] W fun e w' => e = .returned (.bool true) ∧ HeldC2 w.heap.size w3.heap.size w4 ⟨y0, y1, y2, y3, y4, y5⟩ ⟨z0, z1, z2, z3, z4, z5⟩ w') := Lib.hid fun W A c B d hW hA hB => by
    refine (equalN_same A B c d NL _ hA hB).mono ?_
    rintro e w' ⟨rfl, h1⟩
    exact ⟨rfl, hW.step h1⟩
  have q1 : (z0 == 1) = decide (NL = []) := by rw [hNL, ← Xp.fold_num]; exact hx4.kind
  have q2 : ((NL.length : Int) == 0) = decide (NL = []) := by rw [Bool.eq_iff_iff]; simp [← List.length_eq_zero_iff]
  obtain ⟨bq, hbq⟩ : ∃ b, b = decide (NL = []) := ⟨_, rfl⟩
  rw [← hbq] at q1 q2
  clear A0 t1 c0 c1 c2 c3 t2 u4 t4 hx3 hx4 hT hT4 he he4 hV hN hNL hb2 hb3 hb23 hb24 hb4 hbq hw4 hl hnl
  go_upto_region 4 with fail
  rw [← HW4.out]
  refine wp_region_held_drew (S := HeldC2 w.heap.size w3.heap.size w4 ⟨y0, y1, y2, y3, y4, y5⟩ ⟨z0, z1, z2, z3, z4, z5⟩) (by kernel_rfl) (HeldC2.drew hH0) (fun hHeld => ?_)
  refine wpAnyH_take (i := 0) (oi := { dst := some 10, op := _, type := _, pos := _, after := _, guard := _ }) (v := ?_) rfl (by kernel_rfl) (by kernel_rfl) (by kernel_rfl) (fun _ _ _ h => h) (Or.inl ⟨by rfl, ?_⟩) (by assumption) ?_
  rotate_left
  · intro w hSw; (try dsimp only at hSw); go_simp; (try with_reducible rfl)
  (try simp only [Act.put, List.setIfInBounds_toArray, List.set_cons_zero, List.set_cons_succ])
  refine wpAnyH_take (i := 1) (oi := { dst := some 11, op := _, type := _, pos := _, after := _, guard := _ }) (v := ?_) rfl (by kernel_rfl) (by kernel_rfl) (by kernel_rfl) (fun _ _ _ h => h) (Or.inl ⟨by rfl, ?_⟩) (by assumption) ?_
  rotate_left
  · intro w hSw; (try dsimp only at hSw); go_simp; (try with_reducible rfl)
  (try simp only [Act.put, List.setIfInBounds_toArray, List.set_cons_zero, List.set_cons_succ])
  refine wpAnyH_take (i := 3) (oi := { dst := some 13, op := _, type := _, pos := _, after := _, guard := _ }) (v := ?_) rfl (by kernel_rfl) (by kernel_rfl) (by kernel_rfl) (fun _ _ _ h => h) (Or.inl ⟨by rfl, ?_⟩) (by assumption) ?_
  rotate_left
  · intro w hSw; (try dsimp only at hSw); go_simp; (try with_reducible rfl)
  (try simp only [Act.put, List.setIfInBounds_toArray, List.set_cons_zero, List.set_cons_succ])
  refine wpAnyH_take (i := 4) (oi := { dst := some 14, op := _, type := _, pos := _, after := _, guard := _ }) (v := ?_) rfl (by kernel_rfl) (by kernel_rfl) (by kernel_rfl) (fun _ _ _ h => h) (Or.inl ⟨by rfl, ?_⟩) (by assumption) ?_
  rotate_left
  · intro w hSw; (try dsimp only at hSw); go_simp; (try with_reducible rfl)
  (try simp only [Act.put, List.setIfInBounds_toArray, List.set_cons_zero, List.set_cons_succ])
  refine wpAnyH_ready (rs := [2]) (by kernel_rfl) (by simp) ?_
  refine AllReadyH.cons rfl (fun K hK => ?_) AllReadyH.nil
  go_simp
  refine (A1.out _ hHeld).mono ?_
  rintro e w8 ⟨rfl, hq8⟩
  dsimp only
  refine hK.out _ _ hq8 (fun hHeld => ?_)
  clear hK K
  (try simp only [Act.put, List.setIfInBounds_toArray, List.set_cons_zero, List.set_cons_succ])
  refine wpAnyH_ready (rs := [5]) (by kernel_rfl) (by simp) ?_
  refine AllReadyH.cons rfl (fun K hK => ?_) AllReadyH.nil
  go_simp
  refine (A2.out _ hHeld).mono ?_
  rintro e w9 ⟨rfl, hq9⟩
  dsimp only
  refine hK.out _ _ hq9 (fun hHeld => ?_)
  clear hK K
  (try simp only [Act.put, List.setIfInBounds_toArray, List.set_cons_zero, List.set_cons_succ])
  refine wpAnyH_take (i := 6) (oi := { dst := some 16, op := _, type := _, pos := _, after := _, guard := _ }) (v := ?_) rfl (by kernel_rfl) (by kernel_rfl) (by kernel_rfl) (fun _ _ _ h => h) (Or.inl ⟨by rfl, ?_⟩) (by assumption) ?_
  rotate_left
  · intro w hSw; (try dsimp only at hSw); go_simp; (try with_reducible rfl)
  (try simp only [Act.put, List.setIfInBounds_toArray, List.set_cons_zero, List.set_cons_succ])
  refine wpAnyH_take (i := 7) (oi := { dst := some 17, op := _, type := _, pos := _, after := _, guard := _ }) (v := ?_) rfl (by kernel_rfl) (by kernel_rfl) (by kernel_rfl) (fun _ _ _ h => h) (Or.inl ⟨by rfl, ?_⟩) (by assumption) ?_
  rotate_left
  · intro w hSw; (try dsimp only at hSw); go_simp; (try with_reducible rfl)
  (try simp only [Act.put, List.setIfInBounds_toArray, List.set_cons_zero, List.set_cons_succ])
  refine wpAnyH_take (i := 8) (oi := { dst := some 18, op := _, type := _, pos := _, after := _, guard := _ }) (v := ?_) rfl (by kernel_rfl) (by kernel_rfl) (by kernel_rfl) (fun _ _ _ h => h) (Or.inl ⟨by rfl, ?_⟩) (by assumption) ?_
  rotate_left
  · intro w hSw; (try dsimp only at hSw); go_simp; (try with_reducible rfl)
  (try simp only [Act.put, List.setIfInBounds_toArray, List.set_cons_zero, List.set_cons_succ])
  refine wpAnyH_take (i := 10) (oi := { dst := some 20, op := _, type := _, pos := _, after := _, guard := _ }) (v := ?_) rfl (by kernel_rfl) (by kernel_rfl) (by kernel_rfl) (fun _ _ _ h => h) (Or.inl ⟨by rfl, ?_⟩) (by assumption) ?_
  rotate_left
  · intro w hSw; (try dsimp only at hSw); go_simp; (try with_reducible rfl)
  (try simp only [Act.put, List.setIfInBounds_toArray, List.set_cons_zero, List.set_cons_succ])
  refine wpAnyH_ready (rs := [9]) (by kernel_rfl) (by simp) ?_
  refine AllReadyH.cons rfl (fun K hK => ?_) AllReadyH.nil
  go_simp
  refine (A3.out _ hHeld).mono ?_
  rintro e w10 ⟨g10, rfl, hx10, hq10⟩
  dsimp only
  refine hK.out _ _ hq10 (fun hHeld => ?_)
  clear hK K
  (try simp only [Act.put, List.setIfInBounds_toArray, List.set_cons_zero, List.set_cons_succ])
  refine wpAnyH_ready (rs := [11]) (by kernel_rfl) (by simp) ?_
  refine AllReadyH.cons rfl (fun K hK => ?_) AllReadyH.nil
  go_simp
  refine (B2.out _ _ _ hHeld hx10).mono ?_
  rintro e w11 ⟨rfl, hq11⟩
  dsimp only
  refine hK.out _ _ hq11 (fun hHeld => ?_)
  clear hK K
  (try simp only [Act.put, List.setIfInBounds_toArray, List.set_cons_zero, List.set_cons_succ])
  refine wpAnyH_take (i := 12) (oi := { dst := some 22, op := _, type := _, pos := _, after := _, guard := _ }) (v := ?_) rfl (by kernel_rfl) (by kernel_rfl) (by kernel_rfl) (fun _ _ _ h => h) (Or.inl ⟨by rfl, ?_⟩) (by assumption) ?_
  rotate_left
  · intro w hSw; (try dsimp only at hSw); go_simp; (try with_reducible rfl)
  (try simp only [Act.put, List.setIfInBounds_toArray, List.set_cons_zero, List.set_cons_succ])
  refine wpAnyH_take (i := 13) (oi := { dst := some 23, op := _, type := _, pos := _, after := _, guard := _ }) (v := ?_) rfl (by kernel_rfl) (by kernel_rfl) (by kernel_rfl) (fun _ _ _ h => h) (Or.inl ⟨by rfl, ?_⟩) (by assumption) ?_
  rotate_left
  · intro w hSw; (try dsimp only at hSw); go_simp; (try with_reducible rfl)
  (try simp only [Act.put, List.setIfInBounds_toArray, List.set_cons_zero, List.set_cons_succ])
  refine wpAnyH_take (i := 14) (oi := { dst := some 24, op := _, type := _, pos := _, after := _, guard := _ }) (v := ?_) rfl (by kernel_rfl) (by kernel_rfl) (by kernel_rfl) (fun _ _ _ h => h) (Or.inl ⟨by rfl, ?_⟩) (by assumption) ?_
  rotate_left
  · intro w hSw; (try dsimp only at hSw); go_simp; (try with_reducible rfl)
  (try simp only [Act.put, List.setIfInBounds_toArray, List.set_cons_zero, List.set_cons_succ])
  refine wpAnyH_take (i := 16) (oi := { dst := some 26, op := _, type := _, pos := _, after := _, guard := _ }) (v := ?_) rfl (by kernel_rfl) (by kernel_rfl) (by kernel_rfl) (fun _ _ _ h => h) (Or.inl ⟨by rfl, ?_⟩) (by assumption) ?_
  rotate_left
  · intro w hSw; (try dsimp only at hSw); go_simp; (try with_reducible rfl)
  (try simp only [Act.put, List.setIfInBounds_toArray, List.set_cons_zero, List.set_cons_succ])
  refine wpAnyH_ready (rs := [15]) (by kernel_rfl) (by simp) ?_
  refine AllReadyH.cons rfl (fun K hK => ?_) AllReadyH.nil
  go_simp
  refine (A4.out _ hHeld).mono ?_
  rintro e w12 ⟨A12, c12, rfl, hr12, hb12, hq12⟩
  dsimp only
  refine hK.out _ _ hq12 (fun hHeld => ?_)
  clear hK K
  (try simp only [Act.put, List.setIfInBounds_toArray, List.set_cons_zero, List.set_cons_succ])
  refine wpAnyH_ready (rs := [17]) (by kernel_rfl) (by simp) ?_
  refine AllReadyH.cons rfl (fun K hK => ?_) AllReadyH.nil
  go_simp
  refine (A5.out _ hHeld).mono ?_
  rintro e w13 ⟨A13, c13, rfl, hr13, hb13, hq13⟩
  replace hr12 := hr12.step hb13
  dsimp only
  refine hK.out _ _ hq13 (fun hHeld => ?_)
  clear hK K
  (try simp only [Act.put, List.setIfInBounds_toArray, List.set_cons_zero, List.set_cons_succ])
  refine wpAnyH_ready (rs := [18]) (by kernel_rfl) (by simp) ?_
  refine AllReadyH.cons rfl (fun K hK => ?_) AllReadyH.nil
  go_simp
  refine (B1.out _ _ _ _ _ hHeld hr12 hr13).mono ?_
  rintro e w14 ⟨rfl, hq14⟩
  dsimp only
  refine hK.out _ _ hq14 (fun hHeld => ?_)
  clear hK K
  (try simp only [Act.put, List.setIfInBounds_toArray, List.set_cons_zero, List.set_cons_succ])
  refine wpAnyH_take (i := 19) (oi := { dst := some 29, op := _, type := _, pos := _, after := _, guard := _ }) (v := ?_) rfl (by kernel_rfl) (by kernel_rfl) (by kernel_rfl) (fun _ _ _ h => h) (Or.inl ⟨by rfl, ?_⟩) (by assumption) ?_
  rotate_left
  · intro w hSw; (try dsimp only at hSw); go_simp; (try with_reducible rfl)
  (try simp only [Act.put, List.setIfInBounds_toArray, List.set_cons_zero, List.set_cons_succ])
  refine wpAnyH_take (i := 20) (oi := { dst := some 30, op := _, type := _, pos := _, after := _, guard := _ }) (v := ?_) rfl (by kernel_rfl) (by kernel_rfl) (by kernel_rfl) (fun _ _ _ h => h) (Or.inl ⟨by rfl, ?_⟩) (by assumption) ?_
  rotate_left
  · intro w hSw; (try dsimp only at hSw); go_simp; (try with_reducible rfl)
  (try simp only [Act.put, List.setIfInBounds_toArray, List.set_cons_zero, List.set_cons_succ])
  refine wpAnyH_take (i := 21) (oi := { dst := some 31, op := _, type := _, pos := _, after := _, guard := _ }) (v := ?_) rfl (by kernel_rfl) (by kernel_rfl) (by kernel_rfl) (fun _ _ _ h => h) (Or.inl ⟨by rfl, ?_⟩) (by assumption) ?_
  rotate_left
  · intro w hSw; (try dsimp only at hSw); go_simp; (try with_reducible rfl)
  (try simp only [Act.put, List.setIfInBounds_toArray, List.set_cons_zero, List.set_cons_succ])
  refine wpAnyH_take (i := 25) (oi := { dst := some 35, op := _, type := _, pos := _, after := _, guard := _ }) (v := ?_) rfl (by kernel_rfl) (by kernel_rfl) (by kernel_rfl) (fun _ _ _ h => h) (Or.inl ⟨by rfl, ?_⟩) (by assumption) ?_
  rotate_left
  · intro w hSw; (try dsimp only at hSw); go_simp; (try with_reducible rfl)
  (try simp only [Act.put, List.setIfInBounds_toArray, List.set_cons_zero, List.set_cons_succ])
  refine wpAnyH_take (i := 26) (oi := { dst := some 36, op := _, type := _, pos := _, after := _, guard := _ }) (v := ?_) rfl (by kernel_rfl) (by kernel_rfl) (by kernel_rfl) (fun _ _ _ h => h) (Or.inl ⟨by rfl, ?_⟩) (by assumption) ?_
  rotate_left
  · intro w hSw; (try dsimp only at hSw); go_simp; (try with_reducible rfl)
  (try simp only [Act.put, List.setIfInBounds_toArray, List.set_cons_zero, List.set_cons_succ])
  refine wpAnyH_take (i := 27) (oi := { dst := some 37, op := _, type := _, pos := _, after := _, guard := _ }) (v := ?_) rfl (by kernel_rfl) (by kernel_rfl) (by kernel_rfl) (fun _ _ _ h => h) (Or.inl ⟨by rfl, ?_⟩) (by assumption) ?_
  rotate_left
  · intro w hSw; (try dsimp only at hSw); go_simp; (try with_reducible rfl)
  (try simp only [Act.put, List.setIfInBounds_toArray, List.set_cons_zero, List.set_cons_succ])
  refine wpAnyH_ready (rs := [22]) (by kernel_rfl) (by simp) ?_
  refine AllReadyH.cons rfl (fun K hK => ?_) AllReadyH.nil
  go_simp
  refine (A5.out _ hHeld).mono ?_
  rintro e w15 ⟨A15, c15, rfl, hr15, hb15, hq15⟩
  dsimp only
  refine hK.out _ _ hq15 (fun hHeld => ?_)
  clear hK K
  (try simp only [Act.put, List.setIfInBounds_toArray, List.set_cons_zero, List.set_cons_succ])
  refine wpAnyH_take (i := 23) (oi := { dst := some 33, op := _, type := _, pos := _, after := _, guard := _ }) (v := ?_) rfl (by kernel_rfl) (by kernel_rfl) (by kernel_rfl) (fun _ _ _ h => h) (Or.inl ⟨by rfl, ?_⟩) (by assumption) ?_
  rotate_left
  · intro w hSw; (try dsimp only at hSw); go_simp; (try with_reducible rfl)
  (try simp only [Act.put, List.setIfInBounds_toArray, List.set_cons_zero, List.set_cons_succ])
  refine wpAnyH_take (i := 24) (oi := { dst := some 34, op := _, type := _, pos := _, after := _, guard := _ }) (v := ?_) rfl (by kernel_rfl) (by kernel_rfl) (by kernel_rfl) (fun _ _ _ h => h) (Or.inl ⟨by rfl, ?_⟩) (by assumption) ?_
  rotate_left
  · intro w hSw; (try dsimp only at hSw); go_simp; (try with_reducible rfl)
  (try simp only [Act.put, List.setIfInBounds_toArray, List.set_cons_zero, List.set_cons_succ])
  refine wpAnyH_take (i := 28) (oi := { dst := some 38, op := _, type := _, pos := _, after := _, guard := _ }) (v := ?_) rfl (by kernel_rfl) (by kernel_rfl) (by kernel_rfl) (fun _ _ _ h => h) (Or.inl ⟨by rfl, ?_⟩) (by assumption) ?_
  rotate_left
  · intro w hSw; (try dsimp only at hSw); go_simp; (try with_reducible rfl)
  (try simp only [Act.put, List.setIfInBounds_toArray, List.set_cons_zero, List.set_cons_succ])
  refine wpAnyH_take (i := 29) (oi := { dst := some 39, op := _, type := _, pos := _, after := _, guard := _ }) (v := ?_) rfl (by kernel_rfl) (by kernel_rfl) (by kernel_rfl) (fun _ _ _ h => h) (Or.inl ⟨by rfl, ?_⟩) (by assumption) ?_
  rotate_left
  · intro w hSw; (try dsimp only at hSw); go_simp; (try with_reducible rfl)
  (try simp only [Act.put, List.setIfInBounds_toArray, List.set_cons_zero, List.set_cons_succ])
  refine wpAnyH_take (i := 30) (oi := { dst := some 4, op := _, type := _, pos := _, after := _, guard := _ }) (v := ?_) rfl (by kernel_rfl) (by kernel_rfl) (by kernel_rfl) (fun _ _ _ h => h) (Or.inl ⟨by rfl, ?_⟩) (by assumption) ?_
  rotate_left
  · intro w hSw; (try dsimp only at hSw); go_simp; (try with_reducible rfl)
  (try simp only [Act.put, List.setIfInBounds_toArray, List.set_cons_zero, List.set_cons_succ])
  refine wpAnyH_done (by kernel_rfl) ?_ _
  go_wp2_with fail
  go_ret
  exact ⟨rfl, HZ.out.trans (hHeld.bel.mono HZ.out.size)⟩
end Go.Proofs.Ytinbcdadffljhaa
