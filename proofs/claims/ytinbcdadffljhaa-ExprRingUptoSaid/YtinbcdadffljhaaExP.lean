/-
  Contract of the reference's EPut, for every two expressions and every name.
-/
import Derived.Test.YtinbcdadffljhaaExX
namespace Go.Proofs.Ytinbcdadffljhaa
open Go.RowKit Go.Shelf
set_option maxRecDepth 100000

/-- what is held besides: the box of what is put -/
abbrev HeldPx (w : World) (b o : Nat) (h hl hr g : Eh) (W : World) : Prop :=
  W.cell? ⟨w.heap.size + 1, 0, none⟩ = some (.int .i64 g.k) ∧ W.cell? ⟨w.heap.size + 1, 1, none⟩ = some (.int .i64 g.n) ∧ W.cell? ⟨w.heap.size + 1, 2, none⟩ = some (.string g.s) ∧ W.cell? ⟨w.heap.size + 1, 3, none⟩ = some (.slice g.A g.m g.cap) ∧ w.heap.size + 1 < W.heap.size ∧ HeldYx w b o h hl hr W
section
variable {w W w2 : World} {b o : Nat} {h hl hr g : Eh}
theorem HeldPx.drew (hh : HeldPx w b o h hl hr g W) : HeldPx w b o h hl hr g W.drew := ⟨hh.1, hh.2.1, hh.2.2.1, hh.2.2.2.1, hh.2.2.2.2.1, hh.2.2.2.2.2.drew⟩
theorem HeldPx.step (hh : HeldPx w b o h hl hr g W) (hb : b < w.heap.size) (hw : Below W.heap.size W w2) : HeldPx w b o h hl hr g w2 := by
  obtain ⟨a1, a2, a3, a4, a5, a6⟩ := hh
  have c : ∀ x, w2.cell? ⟨w.heap.size + 1, x, none⟩ = W.cell? ⟨w.heap.size + 1, x, none⟩ := fun x => hw.cell (p := ⟨w.heap.size + 1, x, none⟩) a5
  exact ⟨(c _).trans a1, (c _).trans a2, (c _).trans a3, (c _).trans a4, Nat.lt_of_lt_of_le a5 hw.size, a6.step hb hw⟩
theorem HeldPx.alloc (hb : b < w.heap.size) (hh : HeldPx w b o h hl hr g W) (ob : Obj) : HeldPx w b o h hl hr g (W.alloc ob) := hh.step hb ((Below.refl _ _).alloc (Nat.le_refl _) _)
theorem HeldPx.put (hb : b < w.heap.size) (B : Nat) (hB : w.heap.size + 1 < B) (u0 u1 u2 u3 : Value) (hh : HeldPx w b o h hl hr g W) : HeldPx w b o h hl hr g ((((W.setCell ⟨B, 0, none⟩ u0).setCell ⟨B, 1, none⟩ u1).setCell ⟨B, 2, none⟩ u2).setCell ⟨B, 3, none⟩ u3) := by
  obtain ⟨a1, a2, a3, a4, a5, a6⟩ := hh
  have c := fun x => put_cell (w := W) (B := B) (q := w.heap.size + 1) (x := x) (by omega) (u0 := u0) (u1 := u1) (u2 := u2) (u3 := u3)
  exact ⟨(c _).trans a1, (c _).trans a2, (c _).trans a3, (c _).trans a4, by simpa [World.setCell] using a5, a6.put hb B (by omega) u0 u1 u2 u3⟩
end
/-- EPut answers T with Y in the name's place -/
def PuS (T : Xp) : Prop := ∀ (h : Eh) (name : ByteArray) (Y : Xp) (g : Eh) (w : World), EIn w w.heap.size T h → EIn w w.heap.size Y g → Calls Try.prog 16 #[.agg h.cells, .string name, .agg g.cells] w (OutE (Xp.put name Y T) w)

set_option maxHeartbeats 4000000 in
theorem pus_leaf (T : Xp) (h : Eh) (name : ByteArray) (Y : Xp) (g : Eh) (w : World) (hT : EIn w w.heap.size T h) (hY : EIn w w.heap.size Y g) (htwo : h.two = false) : Calls Try.prog 16 #[.agg h.cells, .string name, .agg g.cells] w (OutE (Xp.put name Y T) w) := by
  have key : ∃ w1, w1 = ((w.alloc (.cells h.cells 24)).alloc (.cells g.cells 24)).alloc (.cells Eh.zero.cells 24) ∧ Below w.heap.size w w1 ∧ EB 24 w1 w.heap.size h ∧ EB 24 w1 (w.heap.size + 1) g ∧ EB 24 w1 (w.heap.size + 1 + 1) Eh.zero := by
    refine ⟨_, rfl, (((Below.refl _ _).alloc (Nat.le_refl _) _).alloc (by simp) _).alloc (by simp; omega) _, ((EB.new w _ h).alloc _).alloc _, ?_, ?_⟩
    · have := (EB.new (w.alloc (.cells h.cells 24)) 24 g).alloc (.cells Eh.zero.cells 24)
      simpa using this
    · have := EB.new ((w.alloc (.cells h.cells 24)).alloc (.cells g.cells 24)) 24 Eh.zero
      simpa using this
  obtain ⟨w1, hw1, hb1, t1, u1, z1⟩ := key
  have HW : Hid (w1 = ((w.alloc (.cells h.cells 24)).alloc (.cells g.cells 24)).alloc (.cells #[.int .i64 0, .int .i64 0, .string ⟨#[]⟩, .slice none 0 0] 24)) := hw1
  have h2 := etwo_any h w1
  rw [htwo] at h2
  have h4 := fun W hW => cls T h W (hT.step hW)
  have h5 := fun W hW => cls Y g W (hY.step hW)
  have hcs : (h.k = 2 ∧ h.s = name ∧ Xp.put name Y T = Y.cln) ∨ (h.k = 2 ∧ h.s ≠ name ∧ Xp.put name Y T = T.cln) ∨ (h.k ≠ 2 ∧ Xp.put name Y T = T.cln) := by
    cases T with
    | num n => exact .inr (.inr ⟨by rw [hT.1]; decide, rfl⟩)
    | nam s =>
      by_cases e : s = name
      · exact .inl ⟨hT.1, by rw [hT.2.1, e], if_pos e⟩
      · exact .inr (.inl ⟨hT.1, by rw [hT.2.1]; exact e, if_neg e⟩)
    | op k l r => have := hT.two; rw [htwo] at this; cases this
    | nul => exact .inr (.inr ⟨hT.2.1, rfl⟩)
  obtain ⟨k, n, s, A', m, cap⟩ := h
  obtain ⟨kb, nb, sb, Ab, mb, cb⟩ := g
  have c0 := t1.c0
  have c1 := t1.c1
  have c2 := t1.c2
  have c3 := t1.c3
  have d0 := u1.c0
  have d1 := u1.c1
  have d2 := u1.c2
  have d3 := u1.c3
  dsimp only at c0 c1 c2 c3 d0 d1 d2 d3 hcs
  have H4 := Lib.hid h4
  have H5 := Lib.hid h5
  clear hw1 htwo hT hY h4 h5
  go_enter Try.func16, Try.ntmps16
  go_upto_region 1 with fail
  rw [← HW.out]
  go_wp2_with fail
  refine h2.mono ?_
  rintro e w2 ⟨rfl, hb2⟩
  have t2 := t1.step hb2
  have u2 := u1.step hb2
  have z2 := z1.step hb2
  have hB := below_step hb1 hb1.size hb2
  clear c0 c1 c2 c3 d0 d1 d2 d3 t1 u1 z1 hb1 hb2 h2
  have c0 := t2.c0
  have c1 := t2.c1
  have c2 := t2.c2
  have c3 := t2.c3
  have d0 := u2.c0
  have d1 := u2.c1
  have d2 := u2.c2
  have d3 := u2.c3
  dsimp only at c0 c1 c2 c3 d0 d1 d2 d3
  have hlz : w.heap.size + 1 + 1 < w2.heap.size := z2.lt
  rcases hcs with ⟨k2, hs, hp⟩ | ⟨k2, hs, hp⟩ | ⟨k2, hp⟩
  · subst k2 hs
    have hq := str_yes s
    have HP := Lib.hid hp
    have h6 := H5.out w2 hB
    clear hp t2 u2
    go_wp2_with fail
    refine h6.mono ?_
    rintro e w4 ⟨⟨y0, y1, y2, y3, y4, y5⟩, rfl, hx4, hb4⟩
    have z4 := z2.step hb4
    have hB4 := below_step hB hB.size hb4
    have hlz4 := z4.lt
    have P := Lib.hid (And.intro (z4.put (h' := ⟨y0, y1, y2, y3, y4, y5⟩)) (below_putE hB4 (show w.heap.size ≤ w.heap.size + 1 + 1 by omega) ⟨y0, y1, y2, y3, y4, y5⟩))
    have hxf : EOx (putEh w4 (w.heap.size + 1 + 1) ⟨y0, y1, y2, y3, y4, y5⟩) w.heap.size (putEh w4 (w.heap.size + 1 + 1) ⟨y0, y1, y2, y3, y4, y5⟩).heap.size Y.cln ⟨y0, y1, y2, y3, y4, y5⟩ := hx4.keep (by omega) (by unfold putEh; simp [World.setCell]) fun q x hq _ => put_cell (by have : w2.heap.size ≤ q := hq; omega)
    have XF := Lib.hid hxf
    have p0 := z4.c0
    have p1 := z4.c1
    have p2 := z4.c2
    have p3 := z4.c3
    have f0 := z4.frozen 0
    have f1 := z4.frozen 1
    have f2 := z4.frozen 2
    have f3 := z4.frozen 3
    clear z2 z4 hB hB4 hb4 h6 c0 c1 c2 c3 d0 d1 d2 d3 hxf hx4
    unfold Eh.cells
    dsimp only
    go_wp2_with fail
    refine bodyPost_ret (results_cell_row rfl _ _ (w.heap.size + 1 + 1) 24 _ (0, 0) _ rfl P.out.1 rfl rfl Try.infoEx) rfl ?_
    rw [HP.out]
    exact ⟨_, rfl, XF.out, P.out.2⟩
  · subst k2
    have hq := str_no hs
    have HP := Lib.hid hp
    have h6 := H4.out w2 hB
    clear hp t2 u2
    go_wp2_with fail
    refine h6.mono ?_
    rintro e w4 ⟨⟨y0, y1, y2, y3, y4, y5⟩, rfl, hx4, hb4⟩
    have z4 := z2.step hb4
    have hB4 := below_step hB hB.size hb4
    have hlz4 := z4.lt
    have P := Lib.hid (And.intro (z4.put (h' := ⟨y0, y1, y2, y3, y4, y5⟩)) (below_putE hB4 (show w.heap.size ≤ w.heap.size + 1 + 1 by omega) ⟨y0, y1, y2, y3, y4, y5⟩))
    have hxf : EOx (putEh w4 (w.heap.size + 1 + 1) ⟨y0, y1, y2, y3, y4, y5⟩) w.heap.size (putEh w4 (w.heap.size + 1 + 1) ⟨y0, y1, y2, y3, y4, y5⟩).heap.size T.cln ⟨y0, y1, y2, y3, y4, y5⟩ := hx4.keep (by omega) (by unfold putEh; simp [World.setCell]) fun q x hq _ => put_cell (by have : w2.heap.size ≤ q := hq; omega)
    have XF := Lib.hid hxf
    have p0 := z4.c0
    have p1 := z4.c1
    have p2 := z4.c2
    have p3 := z4.c3
    have f0 := z4.frozen 0
    have f1 := z4.frozen 1
    have f2 := z4.frozen 2
    have f3 := z4.frozen 3
    clear z2 z4 hB hB4 hb4 h6 c0 c1 c2 c3 d0 d1 d2 d3 hxf hx4
    unfold Eh.cells
    dsimp only
    go_wp2_with fail
    refine bodyPost_ret (results_cell_row rfl _ _ (w.heap.size + 1 + 1) 24 _ (0, 0) _ rfl P.out.1 rfl rfl Try.infoEx) rfl ?_
    rw [HP.out]
    exact ⟨_, rfl, XF.out, P.out.2⟩
  · have k3 : (k == 2) = false := by simpa using k2
    have HP := Lib.hid hp
    have h6 := H4.out w2 hB
    clear hp t2 u2
    go_wp2_with fail
    refine h6.mono ?_
    rintro e w4 ⟨⟨y0, y1, y2, y3, y4, y5⟩, rfl, hx4, hb4⟩
    have z4 := z2.step hb4
    have hB4 := below_step hB hB.size hb4
    have hlz4 := z4.lt
    have P := Lib.hid (And.intro (z4.put (h' := ⟨y0, y1, y2, y3, y4, y5⟩)) (below_putE hB4 (show w.heap.size ≤ w.heap.size + 1 + 1 by omega) ⟨y0, y1, y2, y3, y4, y5⟩))
    have hxf : EOx (putEh w4 (w.heap.size + 1 + 1) ⟨y0, y1, y2, y3, y4, y5⟩) w.heap.size (putEh w4 (w.heap.size + 1 + 1) ⟨y0, y1, y2, y3, y4, y5⟩).heap.size T.cln ⟨y0, y1, y2, y3, y4, y5⟩ := hx4.keep (by omega) (by unfold putEh; simp [World.setCell]) fun q x hq _ => put_cell (by have : w2.heap.size ≤ q := hq; omega)
    have XF := Lib.hid hxf
    have p0 := z4.c0
    have p1 := z4.c1
    have p2 := z4.c2
    have p3 := z4.c3
    have f0 := z4.frozen 0
    have f1 := z4.frozen 1
    have f2 := z4.frozen 2
    have f3 := z4.frozen 3
    clear z2 z4 hB hB4 hb4 h6 c0 c1 c2 c3 d0 d1 d2 d3 hxf hx4
    unfold Eh.cells
    dsimp only
    go_wp2_with fail
    refine bodyPost_ret (results_cell_row rfl _ _ (w.heap.size + 1 + 1) 24 _ (0, 0) _ rfl P.out.1 rfl rfl Try.infoEx) rfl ?_
    rw [HP.out]
    exact ⟨_, rfl, XF.out, P.out.2⟩

set_option maxHeartbeats 4000000 in
theorem pus_op {k : Int} {L R : Xp} (hL : PuS L) (hR : PuS R) : PuS (.op k L R) := by
  intro h name Y g w hT hY
  have htwo := hT.two
  have key : ∃ w1, w1 = ((w.alloc (.cells h.cells 24)).alloc (.cells g.cells 24)).alloc (.cells Eh.zero.cells 24) ∧ Below w.heap.size w w1 ∧ EB 24 w1 w.heap.size h ∧ EB 24 w1 (w.heap.size + 1) g ∧ EB 24 w1 (w.heap.size + 1 + 1) Eh.zero := by
    refine ⟨_, rfl, (((Below.refl _ _).alloc (Nat.le_refl _) _).alloc (by simp) _).alloc (by simp; omega) _, ((EB.new w _ h).alloc _).alloc _, ?_, ?_⟩
    · have := (EB.new (w.alloc (.cells h.cells 24)) 24 g).alloc (.cells Eh.zero.cells 24)
      simpa using this
    · have := EB.new ((w.alloc (.cells h.cells 24)).alloc (.cells g.cells 24)) 24 Eh.zero
      simpa using this
  obtain ⟨w1, hw1, hb1, t1, u1, z1⟩ := key
  have HW : Hid (w1 = ((w.alloc (.cells h.cells 24)).alloc (.cells g.cells 24)).alloc (.cells #[.int .i64 0, .int .i64 0, .string ⟨#[]⟩, .slice none 0 0] 24)) := hw1
  have h2 := etwo_any h w1
  rw [htwo] at h2
  dsimp only at h2
  obtain ⟨e1, e2, e3, e4, b, o, gl, gr, e5, e6, e7, e8, e9, e10⟩ := hT
  obtain ⟨hk, n, s, A', m, cap⟩ := h
  obtain ⟨kb, nb, sb, Ab, mb, cb⟩ := g
  dsimp only at e1 e4 e5
  subst e1 e5
  clear hw1 htwo
  go_enter Try.func16, Try.ntmps16
  have c0 := t1.c0
  have c1 := t1.c1
  have c2 := t1.c2
  have c3 := t1.c3
  dsimp only at c0 c1 c2 c3
  go_upto_region 1 with fail
  rw [← HW.out]
  go_wp2_with fail
  refine h2.mono ?_
  rintro e w2 ⟨rfl, hb2⟩
  have hB := below_step hb1 hb1.size hb2
  have hs := hB.size
  have t2 := t1.step hb2
  have u2 := u1.step hb2
  have z2 := z1.step hb2
  obtain ⟨kl, nl, sl, Al, ml, cl⟩ := gl
  obtain ⟨kr, nr, sr, Ar, mr, cr⟩ := gr
  have hx : HeldPx w b o ⟨hk, n, s, some ⟨b, o, none⟩, m, cap⟩ ⟨kl, nl, sl, Al, ml, cl⟩ ⟨kr, nr, sr, Ar, mr, cr⟩ ⟨kb, nb, sb, Ab, mb, cb⟩ w2 := ⟨u2.c0, u2.c1, u2.c2, u2.c3, u2.lt, HeldYx.mk t2 (e7.below hB e6) (e8.below hB e6) hB⟩
  have G1 : Hid (∀ W : World, HeldPx w b o ⟨hk, n, s, some ⟨b, o, none⟩, m, cap⟩ ⟨kl, nl, sl, Al, ml, cl⟩ ⟨kr, nr, sr, Ar, mr, cr⟩ ⟨kb, nb, sb, Ab, mb, cb⟩ W → Calls Try.prog 16 #[.agg #[.int .i64 kl, .int .i64 nl, .string sl, .slice Al ml cl], .string name, .agg #[.int .i64 kb, .int .i64 nb, .string sb, .slice Ab mb cb]] W fun e w' => ∃ x0 x1 x2 x3 x4 x5, e = .returned (.agg #[.int .i64 x0, .int .i64 x1, .string x2, .slice x3 x4 x5]) ∧ EOx w' W.heap.size w'.heap.size (Xp.put name Y L) ⟨x0, x1, x2, x3, x4, x5⟩ ∧ Below W.heap.size W w' ∧ HeldPx w b o ⟨hk, n, s, some ⟨b, o, none⟩, m, cap⟩ ⟨kl, nl, sl, Al, ml, cl⟩ ⟨kr, nr, sr, Ar, mr, cr⟩ ⟨kb, nb, sb, Ab, mb, cb⟩ w') := Lib.hid fun W hW => by
    have hq := HeldYx.bel hW.2.2.2.2.2
    refine (hL ⟨kl, nl, sl, Al, ml, cl⟩ name Y ⟨kb, nb, sb, Ab, mb, cb⟩ W (e9.step hq) (hY.step hq)).mono ?_
    rintro e w' ⟨⟨x0, x1, x2, x3, x4, x5⟩, rfl, h1, h2⟩
    exact ⟨x0, x1, x2, x3, x4, x5, rfl, h1, h2, hW.step e6 h2⟩
  have G2 : Hid (∀ W : World, HeldPx w b o ⟨hk, n, s, some ⟨b, o, none⟩, m, cap⟩ ⟨kl, nl, sl, Al, ml, cl⟩ ⟨kr, nr, sr, Ar, mr, cr⟩ ⟨kb, nb, sb, Ab, mb, cb⟩ W → Calls Try.prog 16 #[.agg #[.int .i64 kr, .int .i64 nr, .string sr, .slice Ar mr cr], .string name, .agg #[.int .i64 kb, .int .i64 nb, .string sb, .slice Ab mb cb]] W fun e w' => ∃ x0 x1 x2 x3 x4 x5, e = .returned (.agg #[.int .i64 x0, .int .i64 x1, .string x2, .slice x3 x4 x5]) ∧ EOx w' W.heap.size w'.heap.size (Xp.put name Y R) ⟨x0, x1, x2, x3, x4, x5⟩ ∧ Below W.heap.size W w' ∧ HeldPx w b o ⟨hk, n, s, some ⟨b, o, none⟩, m, cap⟩ ⟨kl, nl, sl, Al, ml, cl⟩ ⟨kr, nr, sr, Ar, mr, cr⟩ ⟨kb, nb, sb, Ab, mb, cb⟩ w') := Lib.hid fun W hW => by
    have hq := HeldYx.bel hW.2.2.2.2.2
    refine (hR ⟨kr, nr, sr, Ar, mr, cr⟩ name Y ⟨kb, nb, sb, Ab, mb, cb⟩ W (e10.step hq) (hY.step hq)).mono ?_
    rintro e w' ⟨⟨x0, x1, x2, x3, x4, x5⟩, rfl, h1, h2⟩
    exact ⟨x0, x1, x2, x3, x4, x5, rfl, h1, h2, hW.step e6 h2⟩
  have hH0 := hx
  have hDZ : w.heap.size + 1 < w.heap.size + 1 + 1 := Nat.lt_succ_self _
  have hyx := hx.2.2.2.2.2
  obtain ⟨a1, a2, a3, a4, a5, a6, a7, a8, a9, a10, a11, a12⟩ := hyx
  obtain ⟨v1, v2, v3, v4, _, _⟩ := hx
  dsimp only at a1 a2 a3 a4 a5 a6 a7 a8 a9 a10 v1 v2 v3 v4
  have HLT := Lib.hid e6
  have Z := Lib.hid z2.drew
  have HE := Lib.hid (And.intro e2 e3)
  clear c0 c1 c2 c3 t1 u1 t2 u2 h2 hb1 hb2 e7 e8 e9 e10 hL hR e6 z1 z2 hY
  have m0 : 0 < m := by omega
  have m1 : 1 < m := by omega
  have m2 : (1 : Int) < (m : Int) := by omega
  have m3 : (0 : Int) < (m : Int) := by omega
  have m4 : ¬ m ≤ 1 := by omega
  go_wp2_with fail
  refine wp_region_held_drew (S := HeldPx w b o ⟨hk, n, s, some ⟨b, o, none⟩, m, cap⟩ ⟨kl, nl, sl, Al, ml, cl⟩ ⟨kr, nr, sr, Ar, mr, cr⟩ ⟨kb, nb, sb, Ab, mb, cb⟩) (by kernel_rfl) (HeldPx.drew hH0) (fun hHeld => ?_)
  refine wpAnyH_take (i := 0) (oi := { dst := some 9, op := _, type := _, pos := _, after := _, guard := _ }) (v := ?_) rfl (by kernel_rfl) (by kernel_rfl) (by kernel_rfl) (fun _ _ _ h => h) (Or.inl ⟨by rfl, ?_⟩) (by assumption) ?_
  rotate_left
  · intro w hSw; (try dsimp only at hSw); go_simp; (try with_reducible rfl)
  (try simp only [Act.put, List.setIfInBounds_toArray, List.set_cons_zero, List.set_cons_succ])
  refine wpAnyH_take (i := 1) (oi := { dst := some 10, op := _, type := _, pos := _, after := _, guard := _ }) (v := ?_) rfl (by kernel_rfl) (by kernel_rfl) (by kernel_rfl) (fun _ _ _ h => h) (Or.inl ⟨by rfl, ?_⟩) (by assumption) ?_
  rotate_left
  · intro w hSw; (try dsimp only at hSw); go_simp; (try with_reducible rfl)
  (try simp only [Act.put, List.setIfInBounds_toArray, List.set_cons_zero, List.set_cons_succ])
  refine wpAnyH_take (i := 2) (oi := { dst := some 11, op := _, type := _, pos := _, after := _, guard := _ }) (v := ?_) rfl (by kernel_rfl) (by kernel_rfl) (by kernel_rfl) (fun _ _ _ h => h) (Or.inl ⟨by rfl, ?_⟩) (by assumption) ?_
  rotate_left
  · intro w hSw; (try dsimp only at hSw); go_simp; (try with_reducible rfl)
  (try simp only [Act.put, List.setIfInBounds_toArray, List.set_cons_zero, List.set_cons_succ])
  refine wpAnyH_take (i := 3) (oi := { dst := some 12, op := _, type := _, pos := _, after := _, guard := _ }) (v := ?_) rfl (by kernel_rfl) (by kernel_rfl) (by kernel_rfl) (fun _ _ _ h => h) (Or.inl ⟨by rfl, ?_⟩) (by assumption) ?_
  rotate_left
  · intro w hSw; (try dsimp only at hSw); go_simp; (try with_reducible rfl)
  (try simp only [Act.put, List.setIfInBounds_toArray, List.set_cons_zero, List.set_cons_succ])
  refine wpAnyH_take (i := 4) (oi := { dst := some 13, op := _, type := _, pos := _, after := _, guard := _ }) (v := ?_) rfl (by kernel_rfl) (by kernel_rfl) (by kernel_rfl) (fun _ _ _ h => h) (Or.inl ⟨by rfl, ?_⟩) (by assumption) ?_
  rotate_left
  · intro w hSw; (try dsimp only at hSw); go_simp; (try with_reducible rfl)
  (try simp only [Act.put, List.setIfInBounds_toArray, List.set_cons_zero, List.set_cons_succ])
  refine wpAnyH_take (i := 5) (oi := { dst := some 14, op := _, type := _, pos := _, after := _, guard := _ }) (v := ?_) rfl (by kernel_rfl) (by kernel_rfl) (by kernel_rfl) (fun _ _ _ h => h) (Or.inl ⟨by rfl, ?_⟩) (by assumption) ?_
  rotate_left
  · intro w hSw; (try dsimp only at hSw); go_simp; (try with_reducible rfl)
  (try simp only [Act.put, List.setIfInBounds_toArray, List.set_cons_zero, List.set_cons_succ])
  refine wpAnyH_take (i := 6) (oi := { dst := some 15, op := _, type := _, pos := _, after := _, guard := _ }) (v := ?_) rfl (by kernel_rfl) (by kernel_rfl) (by kernel_rfl) (fun _ _ _ h => h) (Or.inl ⟨by rfl, ?_⟩) (by assumption) ?_
  rotate_left
  · intro w hSw; (try dsimp only at hSw); go_simp; (try with_reducible rfl)
  (try simp only [Act.put, List.setIfInBounds_toArray, List.set_cons_zero, List.set_cons_succ])
  refine wpAnyH_take (i := 7) (oi := { dst := some 16, op := _, type := _, pos := _, after := _, guard := _ }) (v := ?_) rfl (by kernel_rfl) (by kernel_rfl) (by kernel_rfl) (fun _ _ _ h => h) (Or.inl ⟨by rfl, ?_⟩) (by assumption) ?_
  rotate_left
  · intro w hSw; (try dsimp only at hSw); go_simp; (try with_reducible rfl)
  (try simp only [Act.put, List.setIfInBounds_toArray, List.set_cons_zero, List.set_cons_succ])
  refine wpAnyH_take (i := 9) (oi := { dst := some 18, op := _, type := _, pos := _, after := _, guard := _ }) (v := ?_) rfl (by kernel_rfl) (by kernel_rfl) (by kernel_rfl) (fun _ _ _ h => h) (Or.inl ⟨by rfl, ?_⟩) (by assumption) ?_
  rotate_left
  · intro w hSw; (try dsimp only at hSw); go_simp; (try with_reducible rfl)
  (try simp only [Act.put, List.setIfInBounds_toArray, List.set_cons_zero, List.set_cons_succ])
  refine wpAnyH_take (i := 10) (oi := { dst := some 19, op := _, type := _, pos := _, after := _, guard := _ }) (v := ?_) rfl (by kernel_rfl) (by kernel_rfl) (by kernel_rfl) (fun _ _ _ h => h) (Or.inl ⟨by rfl, ?_⟩) (by assumption) ?_
  rotate_left
  · intro w hSw; (try dsimp only at hSw); go_simp; (try with_reducible rfl)
  (try simp only [Act.put, List.setIfInBounds_toArray, List.set_cons_zero, List.set_cons_succ])
  refine wpAnyH_take (i := 11) (oi := { dst := some 20, op := _, type := _, pos := _, after := _, guard := _ }) (v := ?_) rfl (by kernel_rfl) (by kernel_rfl) (by kernel_rfl) (fun _ _ _ h => h) (Or.inl ⟨by rfl, ?_⟩) (by assumption) ?_
  rotate_left
  · intro w hSw; (try dsimp only at hSw); go_simp; (try with_reducible rfl)
  (try simp only [Act.put, List.setIfInBounds_toArray, List.set_cons_zero, List.set_cons_succ])
  refine wpAnyH_take (i := 12) (oi := { dst := some 21, op := _, type := _, pos := _, after := _, guard := _ }) (v := ?_) rfl (by kernel_rfl) (by kernel_rfl) (by kernel_rfl) (fun _ _ _ h => h) (Or.inl ⟨by rfl, ?_⟩) (by assumption) ?_
  rotate_left
  · intro w hSw; (try dsimp only at hSw); go_simp; (try with_reducible rfl)
  (try simp only [Act.put, List.setIfInBounds_toArray, List.set_cons_zero, List.set_cons_succ])
  refine wpAnyH_take (i := 13) (oi := { dst := some 22, op := _, type := _, pos := _, after := _, guard := _ }) (v := ?_) rfl (by kernel_rfl) (by kernel_rfl) (by kernel_rfl) (fun _ _ _ h => h) (Or.inl ⟨by rfl, ?_⟩) (by assumption) ?_
  rotate_left
  · intro w hSw; (try dsimp only at hSw); go_simp; (try with_reducible rfl)
  (try simp only [Act.put, List.setIfInBounds_toArray, List.set_cons_zero, List.set_cons_succ])
  refine wpAnyH_take (i := 14) (oi := { dst := some 23, op := _, type := _, pos := _, after := _, guard := _ }) (v := ?_) rfl (by kernel_rfl) (by kernel_rfl) (by kernel_rfl) (fun _ _ _ h => h) (Or.inl ⟨by rfl, ?_⟩) (by assumption) ?_
  rotate_left
  · intro w hSw; (try dsimp only at hSw); go_simp; (try with_reducible rfl)
  (try simp only [Act.put, List.setIfInBounds_toArray, List.set_cons_zero, List.set_cons_succ])
  refine wpAnyH_ready (rs := [8]) (by kernel_rfl) (by simp) ?_
  refine AllReadyH.cons rfl (fun K hK => ?_) AllReadyH.nil
  go_simp
  refine (G1.out _ hHeld).mono ?_
  rintro e w5 ⟨x0, x1, x2, x3, x4, x5, rfl, hx5, hb5, hq5⟩
  have Z5 := Z.out.step hb5
  dsimp only
  refine hK.out _ _ hq5 (fun hHeld => ?_)
  clear hK K
  (try simp only [Act.put, List.setIfInBounds_toArray, List.set_cons_zero, List.set_cons_succ])
  refine wpAnyH_ready (rs := [15]) (by kernel_rfl) (by simp) ?_
  refine AllReadyH.cons rfl (fun K hK => ?_) AllReadyH.nil
  go_simp
  refine (G2.out _ hHeld).mono ?_
  rintro e w6 ⟨y0, y1, y2, y3, y4, y5, rfl, hy6, hb6, hq6⟩
  have Z6 := Z5.step hb6
  have hx6 := hx5.step hb6
  dsimp only
  refine hK.out _ _ hq6 (fun hHeld => ?_)
  clear hK K
  (try simp only [Act.put, List.setIfInBounds_toArray, List.set_cons_zero, List.set_cons_succ])
  refine wpAnyH_ready (rs := [16]) (by kernel_rfl) (by simp) ?_
  refine AllReadyH.cons rfl (fun K hK => ?_) AllReadyH.nil
  go_simp
  refine hK.out _ _ (HeldPx.alloc HLT.out hHeld _) (fun hHeld => ?_)
  clear hK K
  (try simp only [Act.put, List.setIfInBounds_toArray, List.set_cons_zero, List.set_cons_succ])
  refine wpAnyH_take (i := 17) (oi := { dst := some 26, op := _, type := _, pos := _, after := _, guard := _ }) (v := ?_) rfl (by kernel_rfl) (by kernel_rfl) (by kernel_rfl) (fun _ _ _ h => h) (Or.inl ⟨by rfl, ?_⟩) (by assumption) ?_
  rotate_left
  · intro w hSw; (try dsimp only at hSw); go_simp; (try with_reducible rfl)
  (try simp only [Act.put, List.setIfInBounds_toArray, List.set_cons_zero, List.set_cons_succ])
  refine wpAnyH_ready (rs := [18]) (by kernel_rfl) (by simp) ?_
  refine AllReadyH.cons rfl (fun K hK => ?_) AllReadyH.nil
  have Z7 := Z6.alloc (.cells #[.int .i64 x0, .int .i64 x1, .string x2, .slice x3 x4 x5, .int .i64 y0, .int .i64 y1, .string y2, .slice y3 y4 y5] 24)
  have p0 := Z7.c0
  have p1 := Z7.c1
  have p2 := Z7.c2
  have p3 := Z7.c3
  have f0 := Z7.frozen 0
  have f1 := Z7.frozen 1
  have f2 := Z7.frozen 2
  have f3 := Z7.frozen 3
  go_simp
  refine hK.out _ _ (HeldPx.put HLT.out (w.heap.size + 1 + 1) hDZ _ _ _ _ hHeld) (fun hHeld => ?_)
  clear hK K
  (try simp only [Act.put, List.setIfInBounds_toArray, List.set_cons_zero, List.set_cons_succ])
  refine wpAnyH_done (by kernel_rfl) ?_ _
  have P1 := Z7.put (h' := ⟨hk, 0, ByteArray.empty, some ⟨w6.heap.size, 0, none⟩, 2, 2⟩)
  have tn := two_new w6 24 ⟨x0, x1, x2, x3, x4, x5⟩ ⟨y0, y1, y2, y3, y4, y5⟩
  have hal := (Below.refl w6.heap.size w6).alloc (Nat.le_refl _) (.cells #[.int .i64 x0, .int .i64 x1, .string x2, .slice x3 x4 x5, .int .i64 y0, .int .i64 y1, .string y2, .slice y3 y4 y5] 24)
  have hsz : ∀ (Q : World) (u0 u1 u2 u3 : Value), ((((Q.setCell ⟨w.heap.size + 1 + 1, 0, none⟩ u0).setCell ⟨w.heap.size + 1 + 1, 1, none⟩ u1).setCell ⟨w.heap.size + 1 + 1, 2, none⟩ u2).setCell ⟨w.heap.size + 1 + 1, 3, none⟩ u3).heap.size = Q.heap.size := fun Q u0 u1 u2 u3 => by simp [World.setCell]
  have lt6 := Z6.lt
  have lt5 := Z5.lt
  have ltz : w.heap.size + 1 + 1 < w2.heap.size := Z.out.lt
  have sz6 : (w6.alloc (.cells #[.int .i64 x0, .int .i64 x1, .string x2, .slice x3 x4 x5, .int .i64 y0, .int .i64 y1, .string y2, .slice y3 y4 y5] 24)).heap.size = w6.heap.size + 1 := by simp
  have pc : ∀ q x, q ≠ w.heap.size + 1 + 1 → (putEh (w6.alloc (.cells #[.int .i64 x0, .int .i64 x1, .string x2, .slice x3 x4 x5, .int .i64 y0, .int .i64 y1, .string y2, .slice y3 y4 y5] 24)) (w.heap.size + 1 + 1) ⟨hk, 0, ByteArray.empty, some ⟨w6.heap.size, 0, none⟩, 2, 2⟩).cell? ⟨q, x, none⟩ = (w6.alloc (.cells #[.int .i64 x0, .int .i64 x1, .string x2, .slice x3 x4 x5, .int .i64 y0, .int .i64 y1, .string y2, .slice y3 y4 y5] 24)).cell? ⟨q, x, none⟩ := fun q x hq => put_cell hq
  have pz : (putEh (w6.alloc (.cells #[.int .i64 x0, .int .i64 x1, .string x2, .slice x3 x4 x5, .int .i64 y0, .int .i64 y1, .string y2, .slice y3 y4 y5] 24)) (w.heap.size + 1 + 1) ⟨hk, 0, ByteArray.empty, some ⟨w6.heap.size, 0, none⟩, 2, 2⟩).heap.size = (w6.alloc (.cells #[.int .i64 x0, .int .i64 x1, .string x2, .slice x3 x4 x5, .int .i64 y0, .int .i64 y1, .string y2, .slice y3 y4 y5] 24)).heap.size := hsz _ _ _ _ _
  have hxf : EOx (putEh (w6.alloc (.cells #[.int .i64 x0, .int .i64 x1, .string x2, .slice x3 x4 x5, .int .i64 y0, .int .i64 y1, .string y2, .slice y3 y4 y5] 24)) (w.heap.size + 1 + 1) ⟨hk, 0, ByteArray.empty, some ⟨w6.heap.size, 0, none⟩, 2, 2⟩) w.heap.size (putEh (w6.alloc (.cells #[.int .i64 x0, .int .i64 x1, .string x2, .slice x3 x4 x5, .int .i64 y0, .int .i64 y1, .string y2, .slice y3 y4 y5] 24)) (w.heap.size + 1 + 1) ⟨hk, 0, ByteArray.empty, some ⟨w6.heap.size, 0, none⟩, 2, 2⟩).heap.size (Xp.put name Y L) ⟨x0, x1, x2, x3, x4, x5⟩ := (hx6.step hal).keep (by show w.heap.size ≤ w2.heap.size; omega) (Nat.le_of_eq pz.symm) fun q x hq _ => pc q x (by have : w2.heap.size ≤ q := hq; omega)
  have hyf : EOx (putEh (w6.alloc (.cells #[.int .i64 x0, .int .i64 x1, .string x2, .slice x3 x4 x5, .int .i64 y0, .int .i64 y1, .string y2, .slice y3 y4 y5] 24)) (w.heap.size + 1 + 1) ⟨hk, 0, ByteArray.empty, some ⟨w6.heap.size, 0, none⟩, 2, 2⟩) w.heap.size (putEh (w6.alloc (.cells #[.int .i64 x0, .int .i64 x1, .string x2, .slice x3 x4 x5, .int .i64 y0, .int .i64 y1, .string y2, .slice y3 y4 y5] 24)) (w.heap.size + 1 + 1) ⟨hk, 0, ByteArray.empty, some ⟨w6.heap.size, 0, none⟩, 2, 2⟩).heap.size (Xp.put name Y R) ⟨y0, y1, y2, y3, y4, y5⟩ := (hy6.step hal).keep (by omega) (Nat.le_of_eq pz.symm) fun q x hq _ => pc q x (by have : w5.heap.size ≤ q := hq; omega)
  have tn1 := tn.1.keep fun x => pc w6.heap.size x (by omega)
  have tn2 := tn.2.keep fun x => pc w6.heap.size x (by omega)
  have FIN := Lib.hid (EOx.two (c := 2) HE.out ⟨show w.heap.size ≤ w6.heap.size by omega, by rw [pz]; simp⟩ tn1 tn2 hxf hyf)
  have P1H := Lib.hid P1
  have HBH := Lib.hid (HeldYx.bel hHeld.2.2.2.2.2)
  clear pc pz P1 tn hal hsz hxf hyf tn1 tn2 hHeld Z7 p0 p1 p2 p3 f0 f1 f2 f3
  go_wp2_with fail
  refine bodyPost_ret (results_cell_row rfl _ _ (w.heap.size + 1 + 1) 24 _ (0, 0) _ rfl P1H.out rfl rfl Try.infoEx) rfl ?_
  exact ⟨_, rfl, FIN.out, HBH.out⟩
theorem pus : ∀ T : Xp, PuS T
  | .num n => fun h name Y g w hT hY => pus_leaf (.num n) h name Y g w hT hY hT.two
  | .nam s => fun h name Y g w hT hY => pus_leaf (.nam s) h name Y g w hT hY hT.two
  | .op _ L R => pus_op (pus L) (pus R)
  | .nul => fun h name Y g w hT hY => pus_leaf .nul h name Y g w hT hY hT.two
end Go.Proofs.Ytinbcdadffljhaa
