/-
  Contract of the reference's EFold, for every expression.
-/
import Derived.Test.YtinbcdadffljhaaExX
namespace Go.Proofs.Ytinbcdadffljhaa
open Go.RowKit Go.Shelf
set_option maxRecDepth 100000

/-- EFold answers T, reckoned ahead -/
def FoS (T : Xp) : Prop := ∀ (h : Eh) (w : World), EIn w w.heap.size T h → T.nl ≤ 2097152 → Calls Try.prog 18 #[.agg h.cells] w (OutE T.fold w)
set_option maxHeartbeats 4000000 in
theorem fos_op {k : Int} {L R : Xp} (hL : FoS L) (hR : FoS R) : FoS (.op k L R) := by
  intro h w hT hl
  have hll : L.nl + R.nl ≤ 2097152 := hl
  have htwo := hT.two
  have key : ∃ w1, w1 = (w.alloc (.cells h.cells 24)).alloc (.cells Eh.zero.cells 24) ∧ Below w.heap.size w w1 ∧ EB 24 w1 w.heap.size h ∧ EB 24 w1 (w.heap.size + 1) Eh.zero := by
    refine ⟨_, rfl, ((Below.refl _ _).alloc (Nat.le_refl _) _).alloc (by simp) _, (EB.new w _ h).alloc _, ?_⟩
    have := EB.new (w.alloc (.cells h.cells 24)) 24 Eh.zero
    simpa using this
  obtain ⟨w1, hw1, hb1, t1, z1⟩ := key
  have h3 := nms _ h w1 (hT.step hb1) hl
  have h2 := fun W => etwo_any h W
  simp only [htwo] at h2
  have hev := fun W hW => evs _ h none 0 [] W (hT.step hW) (RdB.nil W) (by simp)
  have hfit := hT.fit
  obtain ⟨e1, e2, e3, e4, b, o, gl, gr, e5, e6, e7, e8, e9, e10⟩ := hT
  have HW : Hid (w1 = (w.alloc (.cells h.cells 24)).alloc (.cells #[.int .i64 0, .int .i64 0, .string ⟨#[]⟩, .slice none 0 0] 24)) := hw1
  obtain ⟨hk, n, s, A', m, cap⟩ := h
  dsimp only at e1 e4 e5
  subst e1 e5
  clear hw1 htwo
  go_enter Try.func18, Try.ntmps18
  have c0 := t1.c0
  have c1 := t1.c1
  have c2 := t1.c2
  have c3 := t1.c3
  dsimp only at c0 c1 c2 c3
  go_upto_region 1 with fail
  rw [← HW.out]
  by_cases hne : (Xp.op hk L R).names = []
  · have hfo : (Xp.op hk L R).fold = .num ((Xp.op hk L R).ev []) := if_pos hne
    rw [hne] at h3
    have HFO := Lib.hid hfo
    have HII := Lib.hid ((Xp.op hk L R).ev_in (env := []) (by simp) hfit)
    have HEV := Lib.hid hev
    obtain ⟨V, hV⟩ : ∃ V, V = (Xp.op hk L R).ev [] := ⟨_, rfl⟩
    rw [← hV] at HFO HII HEV
    clear hne hfo hev hV e7 e8 e9 e10 hL hR h2 hfit
    go_wp2_with fail
    refine h3.mono ?_
    rintro e w2 ⟨v3, rfl, ho3, hb2⟩
    have hv3 : v3 = .slice none 0 0 ∨ ∃ A3 c3, v3 = .slice A3 0 c3 := .inr (own_any ho3)
    obtain ⟨A3, c3, rfl⟩ := own_any ho3
    have t2 := t1.step hb2
    have hB := below_step hb1 hb1.size hb2
    have z2 := z1.step hb2
    have c0 := t2.c0
    have c1 := t2.c1
    have c2 := t2.c2
    have c3' := t2.c3
    dsimp only at c0 c1 c2 c3'
    clear ho3 t1 z1 h3 hv3 hb1
    have hEV := HEV.out w2 hB
    go_wp2_with fail
    refine hEV.mono ?_
    rintro e w3 ⟨rfl, hb3⟩
    have z3 := z2.step hb3
    have hB3 := below_step hB hB.size hb3
    have P := Lib.hid (And.intro (z3.put (h' := ⟨1, V, ByteArray.empty, none, 0, 0⟩)) (below_putE hB3 (show w.heap.size ≤ w.heap.size + 1 by omega) ⟨1, V, ByteArray.empty, none, 0, 0⟩))
    have p0 := z3.c0
    have p1 := z3.c1
    have p2 := z3.c2
    have p3 := z3.c3
    have f0 := z3.frozen 0
    have f1 := z3.frozen 1
    have f2 := z3.frozen 2
    have f3 := z3.frozen 3
    clear z2 z3 t2 hB hB3 hb3 hEV c0 c1 c2 c3' hb2
    go_wp2_with fail
    refine bodyPost_ret (results_cell_row rfl _ _ (w.heap.size + 1) 24 _ (0, 0) _ rfl P.out.1 rfl rfl Try.infoEx) rfl ?_
    rw [HFO.out]
    exact ⟨_, rfl, ⟨rfl, rfl, HII.out, rfl, rfl⟩, P.out.2⟩
  have hfo : (Xp.op hk L R).fold = .op hk L.fold R.fold := if_neg hne
  have HFO := Lib.hid hfo
  have hlen : (Xp.op hk L R).names.length ≠ 0 := fun h => hne (List.eq_nil_of_length_eq_zero h)
  obtain ⟨NN, hNN⟩ : ∃ NN, NN = (Xp.op hk L R).names := ⟨_, rfl⟩
  rw [← hNN] at h3 hlen
  obtain ⟨nn, hnn⟩ : ∃ nn, nn = NN.length := ⟨_, rfl⟩
  clear hev hne hfo hNN hfit
  go_wp2_with fail
  refine h3.mono ?_
  rintro e w1' ⟨v3, rfl, ho3, hb1'⟩
  obtain ⟨A3, c3', rfl⟩ := own_any ho3
  replace t1 := t1.step hb1'
  replace z1 := z1.step hb1'
  replace hb1 := below_step hb1 hb1.size hb1'
  have g0 := t1.c0
  have g1 := t1.c1
  have g2 := t1.c2
  have g3 := t1.c3
  dsimp only at g0 g1 g2 g3
  have hlen2 : ((NN.length : Int) == 0) = false := by rw [beq_eq_false_iff_ne]; omega
  clear ho3 h3 hb1' c0 c1 c2 c3
  go_wp2_with fail
  refine (h2 w1').mono ?_
  rintro e w2 ⟨rfl, hb2⟩
  have hB := below_step hb1 hb1.size hb2
  have hs := hB.size
  have t2 := t1.step hb2
  have z2 := z1.step hb2
  have hx := HeldYx.mk t2 (e7.below hB e6) (e8.below hB e6) hB
  have hbl : b < w2.heap.size := by omega
  obtain ⟨kl, nl, sl, Al, ml, cl⟩ := gl
  obtain ⟨kr, nr, sr, Ar, mr, cr⟩ := gr
  have G1 : Hid (∀ W : World, HeldYx w b o ⟨hk, n, s, some ⟨b, o, none⟩, m, cap⟩ ⟨kl, nl, sl, Al, ml, cl⟩ ⟨kr, nr, sr, Ar, mr, cr⟩ W → Calls Try.prog 18 #[.agg #[.int .i64 kl, .int .i64 nl, .string sl, .slice Al ml cl]] W fun e w' => ∃ x0 x1 x2 x3 x4 x5, e = .returned (.agg #[.int .i64 x0, .int .i64 x1, .string x2, .slice x3 x4 x5]) ∧ EOx w' W.heap.size w'.heap.size L.fold ⟨x0, x1, x2, x3, x4, x5⟩ ∧ Below W.heap.size W w' ∧ HeldYx w b o ⟨hk, n, s, some ⟨b, o, none⟩, m, cap⟩ ⟨kl, nl, sl, Al, ml, cl⟩ ⟨kr, nr, sr, Ar, mr, cr⟩ w') := Lib.hid fun W hW => by
    have hq := hW.bel
    refine (hL ⟨kl, nl, sl, Al, ml, cl⟩ W (e9.step hq) (by omega)).mono ?_
    rintro e w' ⟨⟨x0, x1, x2, x3, x4, x5⟩, rfl, h1, h2⟩
    exact ⟨x0, x1, x2, x3, x4, x5, rfl, h1, h2, hW.step e6 h2⟩
  have G2 : Hid (∀ W : World, HeldYx w b o ⟨hk, n, s, some ⟨b, o, none⟩, m, cap⟩ ⟨kl, nl, sl, Al, ml, cl⟩ ⟨kr, nr, sr, Ar, mr, cr⟩ W → Calls Try.prog 18 #[.agg #[.int .i64 kr, .int .i64 nr, .string sr, .slice Ar mr cr]] W fun e w' => ∃ x0 x1 x2 x3 x4 x5, e = .returned (.agg #[.int .i64 x0, .int .i64 x1, .string x2, .slice x3 x4 x5]) ∧ EOx w' W.heap.size w'.heap.size R.fold ⟨x0, x1, x2, x3, x4, x5⟩ ∧ Below W.heap.size W w' ∧ HeldYx w b o ⟨hk, n, s, some ⟨b, o, none⟩, m, cap⟩ ⟨kl, nl, sl, Al, ml, cl⟩ ⟨kr, nr, sr, Ar, mr, cr⟩ w') := Lib.hid fun W hW => by
    have hq := hW.bel
    refine (hR ⟨kr, nr, sr, Ar, mr, cr⟩ W (e10.step hq) (by omega)).mono ?_
    rintro e w' ⟨⟨x0, x1, x2, x3, x4, x5⟩, rfl, h1, h2⟩
    exact ⟨x0, x1, x2, x3, x4, x5, rfl, h1, h2, hW.step e6 h2⟩
  have hH0 := hx
  have hDZ : w.heap.size < w.heap.size + 1 := Nat.lt_succ_self _
  obtain ⟨a1, a2, a3, a4, a5, a6, a7, a8, a9, a10, a11, a12⟩ := hx
  dsimp only at a1 a2 a3 a4 a5 a6 a7 a8 a9 a10
  have HLT := Lib.hid e6
  have Z := Lib.hid z2.drew
  have HE := Lib.hid (And.intro e2 e3)
  clear g0 g1 g2 g3 t1 t2 h2 hb1 hb2 hl hll hlen hnn hlen2 e7 e8 e9 e10 hL hR e6 hbl z1 z2
  have m0 : 0 < m := by omega
  have m1 : 1 < m := by omega
  have m2 : (1 : Int) < (m : Int) := by omega
  have m3 : (0 : Int) < (m : Int) := by omega
  have m4 : ¬ m ≤ 1 := by omega
  go_wp2_with fail
  refine wp_region_held_drew (S := HeldYx w b o ⟨hk, n, s, some ⟨b, o, none⟩, m, cap⟩ ⟨kl, nl, sl, Al, ml, cl⟩ ⟨kr, nr, sr, Ar, mr, cr⟩) (by kernel_rfl) (HeldYx.drew hH0) (fun hHeld => ?_)
  refine wpAnyH_take (i := 0) (oi := { dst := some 12, op := _, type := _, pos := _, after := _, guard := _ }) (v := ?_) rfl (by kernel_rfl) (by kernel_rfl) (by kernel_rfl) (fun _ _ _ h => h) (Or.inl ⟨by rfl, ?_⟩) (by assumption) ?_
  rotate_left
  · intro w hSw; (try dsimp only at hSw); go_simp; (try with_reducible rfl)
  (try simp only [Act.put, List.setIfInBounds_toArray, List.set_cons_zero, List.set_cons_succ])
  refine wpAnyH_take (i := 1) (oi := { dst := some 13, op := _, type := _, pos := _, after := _, guard := _ }) (v := ?_) rfl (by kernel_rfl) (by kernel_rfl) (by kernel_rfl) (fun _ _ _ h => h) (Or.inl ⟨by rfl, ?_⟩) (by assumption) ?_
  rotate_left
  · intro w hSw; (try dsimp only at hSw); go_simp; (try with_reducible rfl)
  (try simp only [Act.put, List.setIfInBounds_toArray, List.set_cons_zero, List.set_cons_succ])
  refine wpAnyH_take (i := 2) (oi := { dst := some 14, op := _, type := _, pos := _, after := _, guard := _ }) (v := ?_) rfl (by kernel_rfl) (by kernel_rfl) (by kernel_rfl) (fun _ _ _ h => h) (Or.inl ⟨by rfl, ?_⟩) (by assumption) ?_
  rotate_left
  · intro w hSw; (try dsimp only at hSw); go_simp; (try with_reducible rfl)
  (try simp only [Act.put, List.setIfInBounds_toArray, List.set_cons_zero, List.set_cons_succ])
  refine wpAnyH_take (i := 3) (oi := { dst := some 15, op := _, type := _, pos := _, after := _, guard := _ }) (v := ?_) rfl (by kernel_rfl) (by kernel_rfl) (by kernel_rfl) (fun _ _ _ h => h) (Or.inl ⟨by rfl, ?_⟩) (by assumption) ?_
  rotate_left
  · intro w hSw; (try dsimp only at hSw); go_simp; (try with_reducible rfl)
  (try simp only [Act.put, List.setIfInBounds_toArray, List.set_cons_zero, List.set_cons_succ])
  refine wpAnyH_take (i := 4) (oi := { dst := some 16, op := _, type := _, pos := _, after := _, guard := _ }) (v := ?_) rfl (by kernel_rfl) (by kernel_rfl) (by kernel_rfl) (fun _ _ _ h => h) (Or.inl ⟨by rfl, ?_⟩) (by assumption) ?_
  rotate_left
  · intro w hSw; (try dsimp only at hSw); go_simp; (try with_reducible rfl)
  (try simp only [Act.put, List.setIfInBounds_toArray, List.set_cons_zero, List.set_cons_succ])
  refine wpAnyH_take (i := 5) (oi := { dst := some 17, op := _, type := _, pos := _, after := _, guard := _ }) (v := ?_) rfl (by kernel_rfl) (by kernel_rfl) (by kernel_rfl) (fun _ _ _ h => h) (Or.inl ⟨by rfl, ?_⟩) (by assumption) ?_
  rotate_left
  · intro w hSw; (try dsimp only at hSw); go_simp; (try with_reducible rfl)
  (try simp only [Act.put, List.setIfInBounds_toArray, List.set_cons_zero, List.set_cons_succ])
  refine wpAnyH_take (i := 7) (oi := { dst := some 19, op := _, type := _, pos := _, after := _, guard := _ }) (v := ?_) rfl (by kernel_rfl) (by kernel_rfl) (by kernel_rfl) (fun _ _ _ h => h) (Or.inl ⟨by rfl, ?_⟩) (by assumption) ?_
  rotate_left
  · intro w hSw; (try dsimp only at hSw); go_simp; (try with_reducible rfl)
  (try simp only [Act.put, List.setIfInBounds_toArray, List.set_cons_zero, List.set_cons_succ])
  refine wpAnyH_take (i := 8) (oi := { dst := some 20, op := _, type := _, pos := _, after := _, guard := _ }) (v := ?_) rfl (by kernel_rfl) (by kernel_rfl) (by kernel_rfl) (fun _ _ _ h => h) (Or.inl ⟨by rfl, ?_⟩) (by assumption) ?_
  rotate_left
  · intro w hSw; (try dsimp only at hSw); go_simp; (try with_reducible rfl)
  (try simp only [Act.put, List.setIfInBounds_toArray, List.set_cons_zero, List.set_cons_succ])
  refine wpAnyH_take (i := 9) (oi := { dst := some 21, op := _, type := _, pos := _, after := _, guard := _ }) (v := ?_) rfl (by kernel_rfl) (by kernel_rfl) (by kernel_rfl) (fun _ _ _ h => h) (Or.inl ⟨by rfl, ?_⟩) (by assumption) ?_
  rotate_left
  · intro w hSw; (try dsimp only at hSw); go_simp; (try with_reducible rfl)
  (try simp only [Act.put, List.setIfInBounds_toArray, List.set_cons_zero, List.set_cons_succ])
  refine wpAnyH_take (i := 10) (oi := { dst := some 22, op := _, type := _, pos := _, after := _, guard := _ }) (v := ?_) rfl (by kernel_rfl) (by kernel_rfl) (by kernel_rfl) (fun _ _ _ h => h) (Or.inl ⟨by rfl, ?_⟩) (by assumption) ?_
  rotate_left
  · intro w hSw; (try dsimp only at hSw); go_simp; (try with_reducible rfl)
  (try simp only [Act.put, List.setIfInBounds_toArray, List.set_cons_zero, List.set_cons_succ])
  refine wpAnyH_ready (rs := [6]) (by kernel_rfl) (by simp) ?_
  refine AllReadyH.cons rfl (fun K hK => ?_) AllReadyH.nil
  go_simp
  refine (G1.out _ hHeld).mono ?_
  rintro e w5 ⟨x0, x1, x2, x3, x4, x5, rfl, hx5, hb5, hq5⟩
  have Z5 := Z.out.step hb5
  dsimp only
  refine hK.out _ _ hq5 (fun hHeld => ?_)
  clear hK K
  (try simp only [Act.put, List.setIfInBounds_toArray, List.set_cons_zero, List.set_cons_succ])
  refine wpAnyH_ready (rs := [11]) (by kernel_rfl) (by simp) ?_
  refine AllReadyH.cons rfl (fun K hK => ?_) AllReadyH.nil
  go_simp
  refine (G2.out _ hHeld).mono ?_
  rintro e w6 ⟨y0, y1, y2, y3, y4, y5, rfl, hy6, hb6, hq6⟩
  have Z6 := Z5.step hb6
  have hx6 := hx5.step hb6
  dsimp only
  refine hK.out _ _ hq6 (fun hHeld => ?_)
  clear hK K
  (try simp only [Act.put, List.setIfInBounds_toArray, List.set_cons_zero, List.set_cons_succ])
  refine wpAnyH_ready (rs := [12]) (by kernel_rfl) (by simp) ?_
  refine AllReadyH.cons rfl (fun K hK => ?_) AllReadyH.nil
  go_simp
  refine hK.out _ _ (HeldYx.alloc HLT.out hHeld _) (fun hHeld => ?_)
  clear hK K
  (try simp only [Act.put, List.setIfInBounds_toArray, List.set_cons_zero, List.set_cons_succ])
  refine wpAnyH_take (i := 13) (oi := { dst := some 25, op := _, type := _, pos := _, after := _, guard := _ }) (v := ?_) rfl (by kernel_rfl) (by kernel_rfl) (by kernel_rfl) (fun _ _ _ h => h) (Or.inl ⟨by rfl, ?_⟩) (by assumption) ?_
  rotate_left
  · intro w hSw; (try dsimp only at hSw); go_simp; (try with_reducible rfl)
  (try simp only [Act.put, List.setIfInBounds_toArray, List.set_cons_zero, List.set_cons_succ])
  refine wpAnyH_ready (rs := [14]) (by kernel_rfl) (by simp) ?_
  refine AllReadyH.cons rfl (fun K hK => ?_) AllReadyH.nil
  have Z7 := Z6.alloc (.cells #[.int .i64 x0, .int .i64 x1, .string x2, .slice x3 x4 x5, .int .i64 y0, .int .i64 y1, .string y2, .slice y3 y4 y5] 24)
  have p0 := Z7.c0
  have p1 := Z7.c1
  have p2 := Z7.c2
  have p3 := Z7.c3
  have f0 := Z7.frozen 0
  have f1 := Z7.frozen 1
  have f2 := Z7.frozen 2
  have f3 := Z7.frozen 3
  go_simp
  refine hK.out _ _ (HeldYx.put HLT.out (w.heap.size + 1) hDZ _ _ _ _ hHeld) (fun hHeld => ?_)
  clear hK K
  (try simp only [Act.put, List.setIfInBounds_toArray, List.set_cons_zero, List.set_cons_succ])
  refine wpAnyH_done (by kernel_rfl) ?_ _
  have P1 := Z7.put (h' := ⟨hk, 0, ByteArray.empty, some ⟨w6.heap.size, 0, none⟩, 2, 2⟩)
  have tn := two_new w6 24 ⟨x0, x1, x2, x3, x4, x5⟩ ⟨y0, y1, y2, y3, y4, y5⟩
  have hal := (Below.refl w6.heap.size w6).alloc (Nat.le_refl _) (.cells #[.int .i64 x0, .int .i64 x1, .string x2, .slice x3 x4 x5, .int .i64 y0, .int .i64 y1, .string y2, .slice y3 y4 y5] 24)
  have hsz : ∀ (Q : World) (u0 u1 u2 u3 : Value), ((((Q.setCell ⟨w.heap.size + 1, 0, none⟩ u0).setCell ⟨w.heap.size + 1, 1, none⟩ u1).setCell ⟨w.heap.size + 1, 2, none⟩ u2).setCell ⟨w.heap.size + 1, 3, none⟩ u3).heap.size = Q.heap.size := fun Q u0 u1 u2 u3 => by simp [World.setCell]
  have lt6 := Z6.lt
  have lt5 := Z5.lt
  have ltz : w.heap.size + 1 < w2.heap.size := Z.out.lt
  have sz6 : (w6.alloc (.cells #[.int .i64 x0, .int .i64 x1, .string x2, .slice x3 x4 x5, .int .i64 y0, .int .i64 y1, .string y2, .slice y3 y4 y5] 24)).heap.size = w6.heap.size + 1 := by simp
  have pc : ∀ q x, q ≠ w.heap.size + 1 → (putEh (w6.alloc (.cells #[.int .i64 x0, .int .i64 x1, .string x2, .slice x3 x4 x5, .int .i64 y0, .int .i64 y1, .string y2, .slice y3 y4 y5] 24)) (w.heap.size + 1) ⟨hk, 0, ByteArray.empty, some ⟨w6.heap.size, 0, none⟩, 2, 2⟩).cell? ⟨q, x, none⟩ = (w6.alloc (.cells #[.int .i64 x0, .int .i64 x1, .string x2, .slice x3 x4 x5, .int .i64 y0, .int .i64 y1, .string y2, .slice y3 y4 y5] 24)).cell? ⟨q, x, none⟩ := fun q x hq => put_cell hq
  have pz : (putEh (w6.alloc (.cells #[.int .i64 x0, .int .i64 x1, .string x2, .slice x3 x4 x5, .int .i64 y0, .int .i64 y1, .string y2, .slice y3 y4 y5] 24)) (w.heap.size + 1) ⟨hk, 0, ByteArray.empty, some ⟨w6.heap.size, 0, none⟩, 2, 2⟩).heap.size = (w6.alloc (.cells #[.int .i64 x0, .int .i64 x1, .string x2, .slice x3 x4 x5, .int .i64 y0, .int .i64 y1, .string y2, .slice y3 y4 y5] 24)).heap.size := hsz _ _ _ _ _
  have hxf : EOx (putEh (w6.alloc (.cells #[.int .i64 x0, .int .i64 x1, .string x2, .slice x3 x4 x5, .int .i64 y0, .int .i64 y1, .string y2, .slice y3 y4 y5] 24)) (w.heap.size + 1) ⟨hk, 0, ByteArray.empty, some ⟨w6.heap.size, 0, none⟩, 2, 2⟩) w.heap.size (putEh (w6.alloc (.cells #[.int .i64 x0, .int .i64 x1, .string x2, .slice x3 x4 x5, .int .i64 y0, .int .i64 y1, .string y2, .slice y3 y4 y5] 24)) (w.heap.size + 1) ⟨hk, 0, ByteArray.empty, some ⟨w6.heap.size, 0, none⟩, 2, 2⟩).heap.size L.fold ⟨x0, x1, x2, x3, x4, x5⟩ := (hx6.step hal).keep (by show w.heap.size ≤ w2.heap.size; omega) (Nat.le_of_eq pz.symm) fun q x hq _ => pc q x (by have : w2.heap.size ≤ q := hq; omega)
  have hyf : EOx (putEh (w6.alloc (.cells #[.int .i64 x0, .int .i64 x1, .string x2, .slice x3 x4 x5, .int .i64 y0, .int .i64 y1, .string y2, .slice y3 y4 y5] 24)) (w.heap.size + 1) ⟨hk, 0, ByteArray.empty, some ⟨w6.heap.size, 0, none⟩, 2, 2⟩) w.heap.size (putEh (w6.alloc (.cells #[.int .i64 x0, .int .i64 x1, .string x2, .slice x3 x4 x5, .int .i64 y0, .int .i64 y1, .string y2, .slice y3 y4 y5] 24)) (w.heap.size + 1) ⟨hk, 0, ByteArray.empty, some ⟨w6.heap.size, 0, none⟩, 2, 2⟩).heap.size R.fold ⟨y0, y1, y2, y3, y4, y5⟩ := (hy6.step hal).keep (by omega) (Nat.le_of_eq pz.symm) fun q x hq _ => pc q x (by have : w5.heap.size ≤ q := hq; omega)
  have tn1 := tn.1.keep fun x => pc w6.heap.size x (by omega)
  have tn2 := tn.2.keep fun x => pc w6.heap.size x (by omega)
  have FIN := Lib.hid (EOx.two (c := 2) HE.out ⟨show w.heap.size ≤ w6.heap.size by omega, by rw [pz]; simp⟩ tn1 tn2 hxf hyf)
  have P1H := Lib.hid P1
  have HBH := Lib.hid hHeld.bel
  clear pc pz P1 tn hal hsz hxf hyf tn1 tn2 hHeld Z7 p0 p1 p2 p3 f0 f1 f2 f3
  go_wp2_with fail
  refine bodyPost_ret (results_cell_row rfl _ _ (w.heap.size + 1) 24 _ (0, 0) _ rfl P1H.out rfl rfl Try.infoEx) rfl ?_
  rw [HFO.out]
  exact ⟨_, rfl, FIN.out, HBH.out⟩

set_option maxHeartbeats 4000000 in
theorem fos_leaf (T : Xp) (h : Eh) (w : World) (hT : EIn w w.heap.size T h) (htwo : h.two = false) (hl : T.nl ≤ 2097152) : Calls Try.prog 18 #[.agg h.cells] w (OutE T.fold w) := by
  have key : ∃ w1, w1 = (w.alloc (.cells h.cells 24)).alloc (.cells Eh.zero.cells 24) ∧ Below w.heap.size w w1 ∧ EB 24 w1 w.heap.size h ∧ EB 24 w1 (w.heap.size + 1) Eh.zero := by
    refine ⟨_, rfl, ((Below.refl _ _).alloc (Nat.le_refl _) _).alloc (by simp) _, (EB.new w _ h).alloc _, ?_⟩
    have := EB.new (w.alloc (.cells h.cells 24)) 24 Eh.zero
    simpa using this
  obtain ⟨w1, hw1, hb1, t1, z1⟩ := key
  have HW : Hid (w1 = (w.alloc (.cells h.cells 24)).alloc (.cells #[.int .i64 0, .int .i64 0, .string ⟨#[]⟩, .slice none 0 0] 24)) := hw1
  have h3 := nms T h w1 (hT.step hb1) hl
  have h2 := fun W => etwo_any h W
  simp only [htwo] at h2
  have h4 := fun W hW => cls T h W (hT.step hW)
  have hev := fun W hW => evs T h none 0 [] W (hT.step hW) (RdB.nil W) (by simp)
  have hfi := T.ev_in (env := []) (by simp) hT.fit
  have hcs : (T.names = [] ∧ T.fold = .num (T.ev [])) ∨ (∃ s, T.names = [s] ∧ T.fold = T.cln) := by
    cases T with
    | num n => exact .inl ⟨rfl, rfl⟩
    | nam s => exact .inr ⟨s, rfl, rfl⟩
    | op k l r => have := hT.two; rw [htwo] at this; cases this
    | nul => exact .inl ⟨rfl, rfl⟩
  obtain ⟨k, n, s, A', m, cap⟩ := h
  have c0 := t1.c0
  have c1 := t1.c1
  have c2 := t1.c2
  have c3 := t1.c3
  dsimp only at c0 c1 c2 c3
  obtain ⟨Q, hQ⟩ : ∃ Q, Q = T.fold := ⟨_, rfl⟩
  rw [← hQ] at hcs ⊢
  clear hw1 htwo hT hQ
  rcases hcs with ⟨hne, hfo⟩ | ⟨s0, hne, hfo⟩
  · rw [hne] at h3
    obtain ⟨V, hV⟩ : ∃ V, V = T.ev [] := ⟨_, rfl⟩
    rw [← hV] at hfo hfi
    have HFO := Lib.hid hfo
    have HII := Lib.hid hfi
    have HEV := Lib.hid hev
    rw [← hV] at HEV
    clear hne hfo hev hfi hV h2 h4
    go_enter Try.func18, Try.ntmps18
    go_upto_region 1 with fail
    rw [← HW.out]
    go_wp2_with fail
    refine h3.mono ?_
    rintro e w2 ⟨v3, rfl, ho3, hb2⟩
    obtain ⟨A3, c3x, rfl⟩ := own_any ho3
    have t2 := t1.step hb2
    have hB := below_step hb1 hb1.size hb2
    have z2 := z1.step hb2
    have d0 := t2.c0
    have d1 := t2.c1
    have d2 := t2.c2
    have d3 := t2.c3
    dsimp only at d0 d1 d2 d3
    clear ho3 t1 z1 h3 hb1 c0 c1 c2 c3
    have hEV := HEV.out w2 hB
    go_wp2_with fail
    refine hEV.mono ?_
    rintro e w3 ⟨rfl, hb3⟩
    have z3 := z2.step hb3
    have hB3 := below_step hB hB.size hb3
    have P := Lib.hid (And.intro (z3.put (h' := ⟨1, V, ByteArray.empty, none, 0, 0⟩)) (below_putE hB3 (show w.heap.size ≤ w.heap.size + 1 by omega) ⟨1, V, ByteArray.empty, none, 0, 0⟩))
    have p0 := z3.c0
    have p1 := z3.c1
    have p2 := z3.c2
    have p3 := z3.c3
    have f0 := z3.frozen 0
    have f1 := z3.frozen 1
    have f2 := z3.frozen 2
    have f3 := z3.frozen 3
    clear z2 z3 t2 hB hB3 hb3 hEV d0 d1 d2 d3 hb2
    go_wp2_with fail
    refine bodyPost_ret (results_cell_row rfl _ _ (w.heap.size + 1) 24 _ (0, 0) _ rfl P.out.1 rfl rfl Try.infoEx) rfl ?_
    rw [HFO.out]
    exact ⟨_, rfl, ⟨rfl, rfl, HII.out, rfl, rfl⟩, P.out.2⟩
  · rw [hne] at h3
    have HFO := Lib.hid hfo
    have H4 := Lib.hid h4
    clear hne hfo hev hfi h4
    go_enter Try.func18, Try.ntmps18
    go_upto_region 1 with fail
    rw [← HW.out]
    go_wp2_with fail
    refine h3.mono ?_
    rintro e w2 ⟨v3, rfl, ho3, hb2⟩
    obtain ⟨A3, c3x, rfl⟩ := own_any ho3
    have t2 := t1.step hb2
    have hB := below_step hb1 hb1.size hb2
    have z2 := z1.step hb2
    have d0 := t2.c0
    have d1 := t2.c1
    have d2 := t2.c2
    have d3 := t2.c3
    dsimp only at d0 d1 d2 d3
    clear ho3 t1 z1 h3 hb1 c0 c1 c2 c3 hb2
    go_wp2_with fail
    refine (h2 w2).mono ?_
    rintro e w3 ⟨rfl, hb3⟩
    have t3 := t2.step hb3
    have z3 := z2.step hb3
    have hB3 := below_step hB hB.size hb3
    have g0 := t3.c0
    have g1 := t3.c1
    have g2 := t3.c2
    have g3 := t3.c3
    dsimp only at g0 g1 g2 g3
    have h5 := H4.out w3 hB3
    clear d0 d1 d2 d3 t2 z2 hb3 h2 t3
    go_wp2_with fail
    refine h5.mono ?_
    rintro e w4 ⟨⟨y0, y1, y2, y3, y4, y5⟩, rfl, hx4, hb4⟩
    have z4 := z3.step hb4
    have hB4 := below_step hB3 hB3.size hb4
    have hlz : w.heap.size + 1 < w3.heap.size := z3.lt
    have hlz4 := z4.lt
    have P := Lib.hid (And.intro (z4.put (h' := ⟨y0, y1, y2, y3, y4, y5⟩)) (below_putE hB4 (show w.heap.size ≤ w.heap.size + 1 by omega) ⟨y0, y1, y2, y3, y4, y5⟩))
    have hxf : EOx (putEh w4 (w.heap.size + 1) ⟨y0, y1, y2, y3, y4, y5⟩) w.heap.size (putEh w4 (w.heap.size + 1) ⟨y0, y1, y2, y3, y4, y5⟩).heap.size T.cln ⟨y0, y1, y2, y3, y4, y5⟩ := hx4.keep (by have := hB3.size; omega) (by unfold putEh; simp [World.setCell]) fun q x hq _ => put_cell (by have : w3.heap.size ≤ q := hq; omega)
    have XF := Lib.hid hxf
    have p0 := z4.c0
    have p1 := z4.c1
    have p2 := z4.c2
    have p3 := z4.c3
    have f0 := z4.frozen 0
    have f1 := z4.frozen 1
    have f2 := z4.frozen 2
    have f3 := z4.frozen 3
    clear z3 z4 hB hB3 hB4 hb4 h5 g0 g1 g2 g3 hxf hx4
    unfold Eh.cells
    dsimp only
    go_wp2_with fail
    refine bodyPost_ret (results_cell_row rfl _ _ (w.heap.size + 1) 24 _ (0, 0) _ rfl P.out.1 rfl rfl Try.infoEx) rfl ?_
    rw [HFO.out]
    exact ⟨_, rfl, XF.out, P.out.2⟩
theorem fos : ∀ T : Xp, FoS T
  | .num n => fun h w hT hl => fos_leaf (.num n) h w hT hT.two hl
  | .nam s => fun h w hT hl => fos_leaf (.nam s) h w hT hT.two hl
  | .op _ L R => fos_op (fos L) (fos R)
  | .nul => fun h w hT hl => fos_leaf .nul h w hT hT.two hl
end Go.Proofs.Ytinbcdadffljhaa
