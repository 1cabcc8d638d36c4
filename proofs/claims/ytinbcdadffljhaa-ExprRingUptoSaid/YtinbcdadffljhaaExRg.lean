/-
  The law ExprRing: its closures, and what is held.
-/
import Derived.Test.YtinbcdadffljhaaExAl
import Derived.Test.YtinbcdadffljhaaItH
namespace Go.Proofs.Ytinbcdadffljhaa
open Go.RowKit Go.Shelf
set_option maxRecDepth 100000

/-- four cells turned -/
theorem eb_put {T : TypeId} {W : World} {D : Nat} {h : Eh} (hb : EB T W D h) (g : Eh) :
    EB T ((((W.setCell ⟨D, 0, none⟩ (.int .i64 g.k)).setCell ⟨D, 1, none⟩ (.int .i64 g.n)).setCell ⟨D, 2, none⟩ (.string g.s)).setCell ⟨D, 3, none⟩ (.slice g.A g.m g.cap)) D g := by
  unfold EB at hb ⊢
  simp only [World.setCell, Array.getElem?_modify, hb]
  simp [Eh.cells]
/-- a header's four cells -/
abbrev Held4 (D : Nat) (h : Eh) (W : World) : Prop := W.cell? ⟨D, 0, none⟩ = some (.int .i64 h.k) ∧ W.cell? ⟨D, 1, none⟩ = some (.int .i64 h.n) ∧ W.cell? ⟨D, 2, none⟩ = some (.string h.s) ∧ W.cell? ⟨D, 3, none⟩ = some (.slice h.A h.m h.cap)
/-- three boxes and that of the bindings, and all that lay -/
abbrev HeldR (D : Nat) (w7 : World) (a b c : Eh) (v : Value) (W : World) : Prop :=
  W.cell? ⟨D, 0, none⟩ = some (.int .i64 a.k) ∧ W.cell? ⟨D, 1, none⟩ = some (.int .i64 a.n) ∧ W.cell? ⟨D, 2, none⟩ = some (.string a.s) ∧ W.cell? ⟨D, 3, none⟩ = some (.slice a.A a.m a.cap) ∧
  W.cell? ⟨D + 1, 0, none⟩ = some (.int .i64 b.k) ∧ W.cell? ⟨D + 1, 1, none⟩ = some (.int .i64 b.n) ∧ W.cell? ⟨D + 1, 2, none⟩ = some (.string b.s) ∧ W.cell? ⟨D + 1, 3, none⟩ = some (.slice b.A b.m b.cap) ∧
  W.cell? ⟨D + 2, 0, none⟩ = some (.int .i64 c.k) ∧ W.cell? ⟨D + 2, 1, none⟩ = some (.int .i64 c.n) ∧ W.cell? ⟨D + 2, 2, none⟩ = some (.string c.s) ∧ W.cell? ⟨D + 2, 3, none⟩ = some (.slice c.A c.m c.cap) ∧
  W.cell? ⟨D + 3, 0, none⟩ = some v ∧ Below w7.heap.size w7 W ∧ D + 3 < w7.heap.size
section
variable {D : Nat} {w7 W W2 : World} {a b c : Eh} {v : Value}
theorem HeldR.bel (h : HeldR D w7 a b c v W) : Below w7.heap.size w7 W := h.2.2.2.2.2.2.2.2.2.2.2.2.2.1
theorem HeldR.below (h : HeldR D w7 a b c v W) (hw : Below w7.heap.size W W2) : HeldR D w7 a b c v W2 := by
  obtain ⟨a0, a1, a2, a3, b0, b1, b2, b3, c0, c1, c2, c3, e0, hb, hl⟩ := h
  have k : ∀ q x, q ≤ D + 3 → W2.cell? ⟨q, x, none⟩ = W.cell? ⟨q, x, none⟩ := fun q x hq => hw.cell (p := ⟨q, x, none⟩) (by show q < _; omega)
  exact ⟨(k _ _ (by omega)).trans a0, (k _ _ (by omega)).trans a1, (k _ _ (by omega)).trans a2, (k _ _ (by omega)).trans a3, (k _ _ (by omega)).trans b0, (k _ _ (by omega)).trans b1, (k _ _ (by omega)).trans b2, (k _ _ (by omega)).trans b3,
    (k _ _ (by omega)).trans c0, (k _ _ (by omega)).trans c1, (k _ _ (by omega)).trans c2, (k _ _ (by omega)).trans c3, (k _ _ (by omega)).trans e0, hb.trans hw, hl⟩
theorem HeldR.step (h : HeldR D w7 a b c v W) (hw : Below W.heap.size W W2) : HeldR D w7 a b c v W2 := h.below (hw.mono h.bel.size)
theorem HeldR.drew (h : HeldR D w7 a b c v W) : HeldR D w7 a b c v W.drew := h.step ⟨rfl, rfl, rfl, Nat.le_refl _, fun _ _ => rfl⟩
theorem HeldR.alloc (h : HeldR D w7 a b c v W) (o : Obj) : HeldR D w7 a b c v (W.alloc o) := h.step ((Below.refl _ _).alloc (Nat.le_refl _) _)
end

set_option maxHeartbeats 1000000 in
theorem ring1_any (T : Xp) (h : Eh) (A : Option Addr) (c B : Nat) (env : List (ByteArray × Int)) (w : World) (hT : EIn w w.heap.size T h) (he : RdB w w.heap.size A env) (hl : env.length ≤ 1048577) (hc : env.length ≤ c) (hB : w.cell? ⟨B, 0, none⟩ = some (.slice A env.length c)) (hBl : B < w.heap.size) :
    Calls Try.prog 24 #[.agg h.cells, .pointer (some ⟨B, 0, none⟩)] w fun e w' => e = .returned (.int .i64 (T.ev env)) ∧ Below w.heap.size w w' := by
  have HC := Lib.hid hc
  clear hc
  obtain ⟨y0, y1, y2, y3, y4, y5⟩ := h
  have key : ∃ w1, w1 = w.alloc (.cells (Eh.cells ⟨y0, y1, y2, y3, y4, y5⟩) 24) ∧ Below w.heap.size w w1 ∧ EB 24 w1 w.heap.size ⟨y0, y1, y2, y3, y4, y5⟩ := ⟨_, rfl, (Below.refl _ _).alloc (Nat.le_refl _) _, EB.new _ _ _⟩
  obtain ⟨w1, hw1, hb1, t1⟩ := key
  replace hT := hT.step hb1
  replace he := he.step hb1
  have hB1 := (hb1.cell (p := ⟨B, 0, none⟩) hBl).trans hB
  obtain ⟨V, hV⟩ : ∃ V, V = T.ev env := ⟨_, rfl⟩
  have HW := Lib.hid hw1
  have HV := Lib.hid hV
  have HB := Lib.hid hb1
  have c0 := t1.c0
  have c1 := t1.c1
  have c2 := t1.c2
  have c3 := t1.c3
  dsimp only at c0 c1 c2 c3
  obtain ⟨N, hN⟩ : ∃ N, N = env.length := ⟨_, rfl⟩
  rw [← hN] at hB1
  have HN := Lib.hid hN
  rw [← hV]
  clear hV hB hw1 hb1 t1 hN
  go_enter Try.func24, Try.ntmps24
  go_upto_region 1 with fail
  rw [show w.alloc _ = w1 from HW.out.symm]
  go_wp2_with fail
  rw [HN.out]
  refine (deval T ⟨y0, y1, y2, y3, y4, y5⟩ A c env w1 hT he hl HC.out).mono ?_
  rintro e w2 ⟨rfl, hb2⟩
  rw [← HV.out]
  have HF := Lib.hid (HB.out.trans (hb2.mono HB.out.size))
  clear c0 c1 c2 c3 hB1 hb2
  go_wp2_with fail
  go_ret
  exact ⟨rfl, HF.out⟩
/-- an operation's answer: a header, its two in one block -/
def OutB (W : World) (k : Int) (h g h' : Eh) : Prop := h'.k = k ∧ h'.m = 2 ∧ ∃ b, h'.A = some ⟨b, 0, none⟩ ∧ W.heap[b]? = some (.cells (h.cells ++ g.cells) 24 (0, 0))
theorem OutB.step {W W' : World} {k : Int} {h g h' : Eh} (o : OutB W k h g h') (hb : Below W.heap.size W W') : OutB W' k h g h' := by
  obtain ⟨h1, h2, b, h3, h4⟩ := o
  exact ⟨h1, h2, b, h3, (hb.block b (Array.getElem?_eq_some_iff.1 h4).1).trans h4⟩
theorem OutB.put {W : World} {k : Int} {h g h' : Eh} {D : Nat} {x : Eh} (hb : EB 24 W D x) (o : OutB W k h g h') (y : Eh) : OutB (putEh W D y) k h g h' := by
  obtain ⟨h1, h2, b, h3, h4⟩ := o
  have hne : b ≠ D := fun e => by
    subst e
    unfold EB at hb
    rw [hb] at h4
    injection h4 with h4
    injection h4 with h4
    have := congrArg Array.size h4
    simp [Eh.cells] at this
  refine ⟨h1, h2, b, h3, ?_⟩
  unfold putEh
  rw [Below.heap_setCell _ _ _ _ hne, Below.heap_setCell _ _ _ _ hne, Below.heap_setCell _ _ _ _ hne, Below.heap_setCell _ _ _ _ hne]
  exact h4
theorem OutB.inn {W : World} {k : Int} {h g h' : Eh} {L R : Xp} (o : OutB W k h g h') (hk : 3 ≤ k ∧ k ≤ 9) (hL : EIn W W.heap.size L h) (hR : EIn W W.heap.size R g) : EIn W W.heap.size (.op k L R) h' := by
  obtain ⟨h1, h2, b, h3, h4⟩ := o
  refine ⟨h1, hk.1, hk.2, by omega, b, 0, h, g, h3, (Array.getElem?_eq_some_iff.1 h4).1, ?_, ?_, hL, hR⟩
  · constructor <;> simp only [World.cell?, h4] <;> rfl
  · constructor <;> simp only [World.cell?, h4] <;> rfl
set_option maxHeartbeats 1000000 in
theorem bothO_any (k : Int) (h g : Eh) (w : World) : Calls Try.prog 26 #[.int .i64 k, .agg h.cells, .agg g.cells] w fun e w' => ∃ h', e = .returned (.agg h'.cells) ∧ OutB w' k h g h' ∧ Below w.heap.size w w' := by
  have key : ∃ w1, w1 = ((w.alloc (.cells h.cells 24)).alloc (.cells g.cells 24)).alloc (.cells Eh.zero.cells 24) ∧ Below w.heap.size w w1 ∧ EB 24 w1 w.heap.size h ∧ EB 24 w1 (w.heap.size + 1) g ∧ EB 24 w1 (w.heap.size + 1 + 1) Eh.zero := by
    refine ⟨_, rfl, (((Below.refl _ _).alloc (Nat.le_refl _) _).alloc (by simp) _).alloc (by simp; omega) _, ((EB.new w _ h).alloc _).alloc _, ?_, ?_⟩
    · have := (EB.new (w.alloc (.cells h.cells 24)) 24 g).alloc (.cells Eh.zero.cells 24)
      simpa using this
    · have := EB.new ((w.alloc (.cells h.cells 24)).alloc (.cells g.cells 24)) 24 Eh.zero
      simpa using this
  obtain ⟨w1, hw1, hb1, t1, u1, z1⟩ := key
  have HW : Hid (w1 = ((w.alloc (.cells h.cells 24)).alloc (.cells g.cells 24)).alloc (.cells #[.int .i64 0, .int .i64 0, .string ⟨#[]⟩, .slice none 0 0] 24)) := hw1
  have hlz := z1.lt
  have hb2 := hb1.alloc hb1.size (.cells (h.cells ++ g.cells) 24)
  have hz2 := z1.alloc (.cells (h.cells ++ g.cells) 24)
  obtain ⟨n1, n2⟩ := two_new w1 24 h g
  have hnf : (w1.alloc (.cells (h.cells ++ g.cells) 24)).heap.size = w1.heap.size + 1 := by simp
  obtain ⟨w2, hw2⟩ : ∃ w2, w2 = w1.alloc (.cells (h.cells ++ g.cells) 24) := ⟨_, rfl⟩
  rw [← hw2] at hb2 hz2 n1 n2 hnf
  have HW2 := Lib.hid hw2
  have X2 := Lib.hid (And.intro hb2 (And.intro n1 n2))
  have P := Lib.hid (And.intro (hz2.put (h' := ⟨k, 0, ByteArray.empty, some ⟨w1.heap.size, 0, none⟩, 2, 2⟩)) (below_putE hb2 (show w.heap.size ≤ w.heap.size + 1 + 1 by omega) ⟨k, 0, ByteArray.empty, some ⟨w1.heap.size, 0, none⟩, 2, 2⟩))
  have hb8 : w2.heap[w1.heap.size]? = some (.cells (h.cells ++ g.cells) 24 (0, 0)) := by rw [HW2.out]; exact World.alloc_heap_new w1 _
  have hfin : OutB (putEh w2 (w.heap.size + 1 + 1) ⟨k, 0, ByteArray.empty, some ⟨w1.heap.size, 0, none⟩, 2, 2⟩) k h g ⟨k, 0, ByteArray.empty, some ⟨w1.heap.size, 0, none⟩, 2, 2⟩ := OutB.put hz2 ⟨rfl, rfl, w1.heap.size, rfl, hb8⟩ _
  clear hb8
  have XF := Lib.hid hfin
  clear hfin hw1 hw2 n1 n2 hb2 hb1 hnf
  obtain ⟨kl, nl, sl, Al, ml, cl⟩ := h
  obtain ⟨kr, nr, sr, Ar, mr, cr⟩ := g
  go_enter Try.func26, Try.ntmps26
  go_upto_region 1 with fail
  rw [← HW.out]
  have c0 := t1.c0
  have c1 := t1.c1
  have c2 := t1.c2
  have c3 := t1.c3
  have d0 := u1.c0
  have d1 := u1.c1
  have d2 := u1.c2
  have d3 := u1.c3
  dsimp only at c0 c1 c2 c3 d0 d1 d2 d3
  have z0 := hz2.c0
  have z1' := hz2.c1
  have z2 := hz2.c2
  have z3 := hz2.c3
  have f0 := hz2.frozen 0
  have f1 := hz2.frozen 1
  have f2 := hz2.frozen 2
  have f3 := hz2.frozen 3
  have hw3 : w1.alloc (.cells #[.int .i64 kl, .int .i64 nl, .string sl, .slice Al ml cl, .int .i64 kr, .int .i64 nr, .string sr, .slice Ar mr cr] 24) = w2 := HW2.out.symm
  clear t1 u1 z1 hz2 HW2
  go_wp2_with fail
  refine bodyPost_ret (results_cell_row rfl _ _ (w.heap.size + 1 + 1) 24 _ (0, 0) _ rfl P.out.1 rfl rfl Try.infoEx) rfl ?_
  exact ⟨_, rfl, XF.out, P.out.2⟩
set_option maxHeartbeats 1000000 in
theorem ring2_any (h : Eh) (g : Eh) (w : World) : Calls Try.prog 25 #[.agg h.cells, .agg g.cells] w fun e w' => ∃ h', e = .returned (.agg h'.cells) ∧ OutB w' 3 h g h' ∧ Below w.heap.size w w' := by
  have key : ∃ w1, w1 = ((w.alloc (.cells h.cells 24)).alloc (.cells g.cells 24)).alloc (.cells Eh.zero.cells 24) ∧ Below w.heap.size w w1 ∧ EB 24 w1 w.heap.size h ∧ EB 24 w1 (w.heap.size + 1) g ∧ EB 24 w1 (w.heap.size + 1 + 1) Eh.zero := by
    refine ⟨_, rfl, (((Below.refl _ _).alloc (Nat.le_refl _) _).alloc (by simp) _).alloc (by simp; omega) _, ((EB.new w _ h).alloc _).alloc _, ?_, ?_⟩
    · have := (EB.new (w.alloc (.cells h.cells 24)) 24 g).alloc (.cells Eh.zero.cells 24)
      simpa using this
    · have := EB.new ((w.alloc (.cells h.cells 24)).alloc (.cells g.cells 24)) 24 Eh.zero
      simpa using this
  obtain ⟨w1, hw1, hb1, t1, u1, z1⟩ := key
  have h2 := bothO_any 3 h g w1
  have HW : Hid (w1 = ((w.alloc (.cells h.cells 24)).alloc (.cells g.cells 24)).alloc (.cells #[.int .i64 0, .int .i64 0, .string ⟨#[]⟩, .slice none 0 0] 24)) := hw1
  obtain ⟨kl, nl, sl, Al, ml, cl⟩ := h
  obtain ⟨kr, nr, sr, Ar, mr, cr⟩ := g
  have c0 := t1.c0
  have c1 := t1.c1
  have c2 := t1.c2
  have c3 := t1.c3
  have d0 := u1.c0
  have d1 := u1.c1
  have d2 := u1.c2
  have d3 := u1.c3
  dsimp only at c0 c1 c2 c3 d0 d1 d2 d3
  clear hw1 t1 u1
  go_enter Try.func25, Try.ntmps25
  go_upto_region 1 with fail
  rw [← HW.out]
  go_wp2_with fail
  refine h2.mono ?_
  rintro e w2 ⟨⟨y0, y1, y2, y3, y4, y5⟩, rfl, hx, hb2⟩
  have z4 := z1.step hb2
  have hB4 := below_step hb1 hb1.size hb2
  have hlz4 := z4.lt
  have hls1 := hb1.size
  have hls0 : w.heap.size + 1 + 1 < w1.heap.size := z1.lt
  have P := Lib.hid (And.intro (z4.put (h' := ⟨y0, y1, y2, y3, y4, y5⟩)) (below_putE hB4 (show w.heap.size ≤ w.heap.size + 1 + 1 by omega) ⟨y0, y1, y2, y3, y4, y5⟩))
  have hxf := OutB.put z4 hx ⟨y0, y1, y2, y3, y4, y5⟩
  have XF := Lib.hid hxf
  have p0 := z4.c0
  have p1 := z4.c1
  have p2 := z4.c2
  have p3 := z4.c3
  have f0 := z4.frozen 0
  have f1 := z4.frozen 1
  have f2 := z4.frozen 2
  have f3 := z4.frozen 3
  clear hxf hx z4 hB4 hb2 hb1
  clear h2 c0 c1 c2 c3 d0 d1 d2 d3 z1
  unfold Eh.cells
  dsimp only
  go_wp2_with fail
  refine bodyPost_ret (results_cell_row rfl _ _ (w.heap.size + 1 + 1) 24 _ (0, 0) _ rfl P.out.1 rfl rfl Try.infoEx) rfl ?_
  exact ⟨_, rfl, XF.out, P.out.2⟩
set_option maxHeartbeats 1000000 in
theorem ring3_any (h : Eh) (g : Eh) (w : World) : Calls Try.prog 27 #[.agg h.cells, .agg g.cells] w fun e w' => ∃ h', e = .returned (.agg h'.cells) ∧ OutB w' 5 h g h' ∧ Below w.heap.size w w' := by
  have key : ∃ w1, w1 = ((w.alloc (.cells h.cells 24)).alloc (.cells g.cells 24)).alloc (.cells Eh.zero.cells 24) ∧ Below w.heap.size w w1 ∧ EB 24 w1 w.heap.size h ∧ EB 24 w1 (w.heap.size + 1) g ∧ EB 24 w1 (w.heap.size + 1 + 1) Eh.zero := by
    refine ⟨_, rfl, (((Below.refl _ _).alloc (Nat.le_refl _) _).alloc (by simp) _).alloc (by simp; omega) _, ((EB.new w _ h).alloc _).alloc _, ?_, ?_⟩
    · have := (EB.new (w.alloc (.cells h.cells 24)) 24 g).alloc (.cells Eh.zero.cells 24)
      simpa using this
    · have := EB.new ((w.alloc (.cells h.cells 24)).alloc (.cells g.cells 24)) 24 Eh.zero
      simpa using this
  obtain ⟨w1, hw1, hb1, t1, u1, z1⟩ := key
  have h2 := bothO_any 5 h g w1
  have HW : Hid (w1 = ((w.alloc (.cells h.cells 24)).alloc (.cells g.cells 24)).alloc (.cells #[.int .i64 0, .int .i64 0, .string ⟨#[]⟩, .slice none 0 0] 24)) := hw1
  obtain ⟨kl, nl, sl, Al, ml, cl⟩ := h
  obtain ⟨kr, nr, sr, Ar, mr, cr⟩ := g
  have c0 := t1.c0
  have c1 := t1.c1
  have c2 := t1.c2
  have c3 := t1.c3
  have d0 := u1.c0
  have d1 := u1.c1
  have d2 := u1.c2
  have d3 := u1.c3
  dsimp only at c0 c1 c2 c3 d0 d1 d2 d3
  clear hw1 t1 u1
  go_enter Try.func27, Try.ntmps27
  go_upto_region 1 with fail
  rw [← HW.out]
  go_wp2_with fail
  refine h2.mono ?_
  rintro e w2 ⟨⟨y0, y1, y2, y3, y4, y5⟩, rfl, hx, hb2⟩
  have z4 := z1.step hb2
  have hB4 := below_step hb1 hb1.size hb2
  have hlz4 := z4.lt
  have hls1 := hb1.size
  have hls0 : w.heap.size + 1 + 1 < w1.heap.size := z1.lt
  have P := Lib.hid (And.intro (z4.put (h' := ⟨y0, y1, y2, y3, y4, y5⟩)) (below_putE hB4 (show w.heap.size ≤ w.heap.size + 1 + 1 by omega) ⟨y0, y1, y2, y3, y4, y5⟩))
  have hxf := OutB.put z4 hx ⟨y0, y1, y2, y3, y4, y5⟩
  have XF := Lib.hid hxf
  have p0 := z4.c0
  have p1 := z4.c1
  have p2 := z4.c2
  have p3 := z4.c3
  have f0 := z4.frozen 0
  have f1 := z4.frozen 1
  have f2 := z4.frozen 2
  have f3 := z4.frozen 3
  clear hxf hx z4 hB4 hb2 hb1
  clear h2 c0 c1 c2 c3 d0 d1 d2 d3 z1
  unfold Eh.cells
  dsimp only
  go_wp2_with fail
  refine bodyPost_ret (results_cell_row rfl _ _ (w.heap.size + 1 + 1) 24 _ (0, 0) _ rfl P.out.1 rfl rfl Try.infoEx) rfl ?_
  exact ⟨_, rfl, XF.out, P.out.2⟩
end Go.Proofs.Ytinbcdadffljhaa
