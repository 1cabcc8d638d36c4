/-
  The law ExprPut.
-/
import Derived.Test.YtinbcdadffljhaaExLawT
namespace Go.Proofs.Ytinbcdadffljhaa
open Go.RowKit Go.Shelf
set_option maxRecDepth 100000

theorem own_anyBi {w : World} {base n : Nat} {e : TypeId} {v : Value} {xs : List Value} (h : w.ownsRow base e 2 v n xs) : ∃ A cap, v = .slice A n cap := by
  rcases h.2 with ⟨rfl, rfl⟩ | ⟨g, cap, cur, hv, _⟩
  · exact ⟨_, _, rfl⟩
  · exact ⟨_, _, hv⟩
/-- a binding is appended to a row of bindings that the call owns -/
theorem app_bind (w : World) (base : Nat) (v : Value) (env : List (ByteArray × Int)) (s : ByteArray) (x : Int) (hx : inI x) (hi : ∀ b ∈ env, inI b.2) (hsz : ∀ b ∈ env, b.1.size ≤ maxLen) (hsn : s.size ≤ maxLen) (hown : w.ownsRow base 38 2 v env.length (bVals env)) (hbase : base ≤ w.heap.size) (hl : env.length ≤ 1048576) :
    ∃ A' c' w', (Builtin.append_ #[25, 25] 25 #[v, .slice (some ⟨w.heap.size, 0, none⟩) 1 1]).run Try.prog (w.alloc (.cells #[.string s, .int .i64 x] 38)) = .ok (.slice A' (env.length + 1) c') w' ∧ (RdB w' w'.heap.size A' (env ++ [(s, x)]) ∧ env.length + 1 ≤ c') ∧ Below base w w' := by
  obtain ⟨i0, hi0, hz0, hz1, hz2⟩ := info_parts Try.infoBi
  have e := World.alloc_heap_new w (.cells #[.string s, .int .i64 x] 38)
  have hal := (Below.refl w.heap.size w).alloc (Nat.le_refl _) (.cells #[.string s, .int .i64 x] 38)
  have hL : LiesR (w.alloc (.cells #[.string s, .int .i64 x] 38)) (.slice (some ⟨w.heap.size, 0, none⟩) 1 1) 1 [.string s, .int .i64 x] := by
    refine .inr ⟨_, 1, rfl, fun j u hj => ?_⟩
    rw [Addr.add_lit]
    simp only [World.cell?, e]
    rcases j with _ | _ | j
    · simpa using hj
    · simpa using hj
    · simp at hj
  obtain ⟨v', w', hr, h1, h2, h3⟩ := run_append_rowsR (P := Try.prog) _ 25 25 base 38 i0 _ 2 24 Try.underlying25 hi0 hz0 hz1 hz2 rfl (by decide) v env.length (bVals env) (own_stepR hown hal (Nat.le_refl _)) _ 1 [.string s, .int .i64 x] hL rfl (by intro u hu; simp at hu; rcases hu with rfl | rfl <;> rfl) (by unfold maxLen; omega) (by omega) (by simp; omega)
  rw [bVals_snoc env (s, x)] at h1
  obtain ⟨A', c', rfl⟩ := own_anyBi h1
  refine ⟨A', c', w', hr, ⟨own_rdB h1 (by simp) ?_ ?_ (by omega), own_capE h1⟩, (hal.mono hbase).grown h2 (by simp; omega) (fun k hk => own_base hown k hk)⟩
  · intro t ht
    rcases List.mem_append.1 ht with h | h
    · exact hi t h
    · simp at h; subst h; exact hx
  · intro t ht
    rcases List.mem_append.1 ht with h | h
    · exact hsz t h
    · simp at h; subst h; exact hsn
theorem HeldB2.stepL {D : Nat} {w7 W w2 : World} {h g : Eh} (hh : HeldB2 D w7 h g W) (hw : Below w7.heap.size W w2) : HeldB2 D w7 h g w2 := by
  obtain ⟨a1, a2, a3, a4, a5, a6, a7, a8, a9, a10⟩ := hh
  have hs := a9.size
  have c : ∀ q x, q ≤ D + 1 → w2.cell? ⟨q, x, none⟩ = W.cell? ⟨q, x, none⟩ := fun q x hq => hw.cell (p := ⟨q, x, none⟩) (by show q < _; omega)
  exact ⟨(c _ _ (by omega)).trans a1, (c _ _ (by omega)).trans a2, (c _ _ (by omega)).trans a3, (c _ _ (by omega)).trans a4, (c _ _ (Nat.le_refl _)).trans a5, (c _ _ (Nat.le_refl _)).trans a6, (c _ _ (Nat.le_refl _)).trans a7, (c _ _ (Nat.le_refl _)).trans a8, a9.trans hw, a10⟩
set_option maxHeartbeats 4000000 in
theorem eput_any (T Y : Xp) (h g : Eh) (name : ByteArray) (A : Option Addr) (c : Nat) (env : List (ByteArray × Int)) (w : World) (hT : EIn w w.heap.size T h) (hY : EIn w w.heap.size Y g) (he : RdB w w.heap.size A env) (hl : env.length ≤ 1048576) (hc : env.length ≤ c) (hfy : inI (Y.ev env)) (hnm : name.size ≤ maxLen) :
    Calls Try.prog 5 #[.agg h.cells, .string name, .agg g.cells, .slice A env.length c] w fun e w' => e = .returned (.bool true) ∧ Below w.heap.size w w' := by
  have HC := Lib.hid hc
  clear hc
  have HNM := Lib.hid hnm
  clear hnm
  obtain ⟨y0, y1, y2, y3, y4, y5⟩ := h
  obtain ⟨z0, z1, z2, z3, z4, z5⟩ := g
  have key : ∃ w1, w1 = (w.alloc (.cells (Eh.cells ⟨y0, y1, y2, y3, y4, y5⟩) 24)).alloc (.cells (Eh.cells ⟨z0, z1, z2, z3, z4, z5⟩) 24) ∧ Below w.heap.size w w1 ∧ EB 24 w1 w.heap.size ⟨y0, y1, y2, y3, y4, y5⟩ ∧ EB 24 w1 (w.heap.size + 1) ⟨z0, z1, z2, z3, z4, z5⟩ := by
    refine ⟨_, rfl, ((Below.refl _ _).alloc (Nat.le_refl _) _).alloc (by simp) _, (EB.new w _ _).alloc _, ?_⟩
    have := EB.new (w.alloc (.cells (Eh.cells ⟨y0, y1, y2, y3, y4, y5⟩) 24)) 24 ⟨z0, z1, z2, z3, z4, z5⟩
    simpa using this
  obtain ⟨w1, hw1, hb1, t1, u1⟩ := key
  have HB1 := Lib.hid hb1
  replace hT := hT.step hb1
  replace hY := hY.step hb1
  replace he := he.step hb1
  have A0 := alive9_any w1
  have HW := Lib.hid hw1
  obtain ⟨V, hV⟩ : ∃ V, V = (Xp.put name Y T).ev env := ⟨_, rfl⟩
  obtain ⟨VY, hVY⟩ : ∃ VY, VY = Y.ev env := ⟨_, rfl⟩
  obtain ⟨N, hN⟩ : ∃ N, N = env.length := ⟨_, rfl⟩
  rw [← hN]
  have HN := Lib.hid (And.intro hV (And.intro hVY hN))
  have HL := Lib.hid hl
  clear hw1 hb1 hV hVY hN hl
  go_enter Try.func5, Try.ntmps5
  go_upto_region 1 with fail
  rw [show (w.alloc _).alloc _ = w1 from HW.out.symm]
  go_wp2_with fail
  refine A0.mono ?_
  rintro e w2 ⟨rfl, hb2⟩
  have HZ := Lib.hid (HB1.out.trans (hb2.mono HB1.out.size))
  obtain ⟨hV, hVY, hN⟩ := HN.out
  have hl := HL.out
  have t2 := t1.step hb2
  have u2 := u1.step hb2
  replace hT := hT.step hb2
  replace hY := hY.step hb2
  replace he := he.step hb2
  have hH0 : HeldB2 w.heap.size w2 ⟨y0, y1, y2, y3, y4, y5⟩ ⟨z0, z1, z2, z3, z4, z5⟩ w2 := ⟨t2.c0, t2.c1, t2.c2, t2.c3, u2.c0, u2.c1, u2.c2, u2.c3, Below.refl _ _, u2.lt⟩
  have A1 : Hid (∀ W, HeldB2 w.heap.size w2 ⟨y0, y1, y2, y3, y4, y5⟩ ⟨z0, z1, z2, z3, z4, z5⟩ W → Calls Try.prog 15 #[.agg #[.int .i64 y0, .int .i64 y1, .string y2, .slice y3 y4 y5], .string name, .agg #[.int .i64 z0, .int .i64 z1, .string z2, .slice z3 z4 z5]] W fun e w' => ∃ g, e = .returned (.agg g.cells) ∧ EIn w' w'.heap.size (Xp.put name Y T) g ∧ HeldB2 w.heap.size w2 ⟨y0, y1, y2, y3, y4, y5⟩ ⟨z0, z1, z2, z3, z4, z5⟩ w') := Lib.hid fun W hW => by
    refine (dput T ⟨y0, y1, y2, y3, y4, y5⟩ name Y ⟨z0, z1, z2, z3, z4, z5⟩ W (hT.step hW.bel) (hY.step hW.bel)).mono ?_
    rintro e w' ⟨g, rfl, h1, h2⟩
    exact ⟨g, rfl, h1.inn, hW.step h2⟩
  have A2 : Hid (∀ W g, HeldB2 w.heap.size w2 ⟨y0, y1, y2, y3, y4, y5⟩ ⟨z0, z1, z2, z3, z4, z5⟩ W → EIn W W.heap.size (Xp.put name Y T) g → Calls Try.prog 9 #[.agg g.cells, .slice A N c] W fun e w' => e = .returned (.int .i64 V) ∧ HeldB2 w.heap.size w2 ⟨y0, y1, y2, y3, y4, y5⟩ ⟨z0, z1, z2, z3, z4, z5⟩ w') := Lib.hid fun W g hW hg => by
    rw [hN]
    refine (deval _ g A c env W hg (he.step hW.bel) (by omega) HC.out).mono ?_
    rintro e w' ⟨rfl, h1⟩
    exact ⟨by rw [hV], hW.step h1⟩
  have A3 : Hid (∀ W, HeldB2 w.heap.size w2 ⟨y0, y1, y2, y3, y4, y5⟩ ⟨z0, z1, z2, z3, z4, z5⟩ W → Calls Try.prog 20 #[.slice A N c] W fun e w' => ∃ A' c', e = .returned (.slice A' N c') ∧ w'.ownsRow w2.heap.size 38 2 (.slice A' N c') env.length (bVals env) ∧ HeldB2 w.heap.size w2 ⟨y0, y1, y2, y3, y4, y5⟩ ⟨z0, z1, z2, z3, z4, z5⟩ w') := Lib.hid fun W hW => by
    rw [hN]
    refine (cloneB_any A c env W (he.step hW.bel) (by omega)).mono ?_
    rintro e w' ⟨v, rfl, h1, h2⟩
    obtain ⟨A', c', rfl⟩ := own_anyBi h1
    exact ⟨A', c', rfl, own_moreR h1 hW.bel.size, hW.step h2⟩
  have A4 : Hid (∀ W, HeldB2 w.heap.size w2 ⟨y0, y1, y2, y3, y4, y5⟩ ⟨z0, z1, z2, z3, z4, z5⟩ W → Calls Try.prog 9 #[.agg #[.int .i64 z0, .int .i64 z1, .string z2, .slice z3 z4 z5], .slice A N c] W fun e w' => e = .returned (.int .i64 VY) ∧ Below W.heap.size W w' ∧ HeldB2 w.heap.size w2 ⟨y0, y1, y2, y3, y4, y5⟩ ⟨z0, z1, z2, z3, z4, z5⟩ w') := Lib.hid fun W hW => by
    rw [hN]
    refine (deval Y ⟨z0, z1, z2, z3, z4, z5⟩ A c env W (hY.step hW.bel) (he.step hW.bel) (by omega) HC.out).mono ?_
    rintro e w' ⟨rfl, h1⟩
    exact ⟨by rw [hVY], h1, hW.step h1⟩
  have A5 : Hid (∀ W A' c', HeldB2 w.heap.size w2 ⟨y0, y1, y2, y3, y4, y5⟩ ⟨z0, z1, z2, z3, z4, z5⟩ W → W.ownsRow w2.heap.size 38 2 (.slice A' N c') env.length (bVals env) → ∃ A5 c5 w5, (Builtin.append_ #[25, 25] 25 #[.slice A' N c', .slice (some ⟨W.heap.size, 0, none⟩) 1 1]).run Try.prog (W.alloc (.cells #[.string name, .int .i64 VY] 38)) = .ok (.slice A5 (N + 1) c5) w5 ∧ (RdB w5 w5.heap.size A5 (env ++ [(name, VY)]) ∧ env.length + 1 ≤ c5) ∧ HeldB2 w.heap.size w2 ⟨y0, y1, y2, y3, y4, y5⟩ ⟨z0, z1, z2, z3, z4, z5⟩ w5) := Lib.hid fun W A' c' hW ho => by
    rw [hN] at ho ⊢
    obtain ⟨A5, c5, w5, h1, h2, h3⟩ := app_bind W w2.heap.size _ env name VY (by rw [hVY]; exact hfy) he.int he.str HNM.out ho hW.bel.size hl
    exact ⟨A5, c5, w5, h1, h2, hW.stepL h3⟩
  have A6 : Hid (∀ W A5 c5, HeldB2 w.heap.size w2 ⟨y0, y1, y2, y3, y4, y5⟩ ⟨z0, z1, z2, z3, z4, z5⟩ W → (RdB W W.heap.size A5 (env ++ [(name, VY)]) ∧ env.length + 1 ≤ c5) → Calls Try.prog 9 #[.agg #[.int .i64 y0, .int .i64 y1, .string y2, .slice y3 y4 y5], .slice A5 (N + 1) c5] W fun e w' => e = .returned (.int .i64 V) ∧ HeldB2 w.heap.size w2 ⟨y0, y1, y2, y3, y4, y5⟩ ⟨z0, z1, z2, z3, z4, z5⟩ w') := Lib.hid fun W A5 c5 hW hr => by
    have := deval T ⟨y0, y1, y2, y3, y4, y5⟩ A5 c5 (env ++ [(name, VY)]) W (hT.step hW.bel) hr.1 (by simp; omega) (by simpa using hr.2)
    rw [List.length_append, List.length_singleton, ← hN] at this
    refine Calls.mono this ?_
    rintro e w' ⟨rfl, h1⟩
    exact ⟨by rw [hV, Xp.ev_put, hVY], hW.step h1⟩
  clear A0 t1 u1 t2 u2 hT hY hV hVY hN hb2 hl HW
  have HE := Lib.hid he
  clear he
  go_upto_region 3 with fail
  refine wp_region_held_drew (S := HeldB2 w.heap.size w2 ⟨y0, y1, y2, y3, y4, y5⟩ ⟨z0, z1, z2, z3, z4, z5⟩) (by kernel_rfl) (HeldB2.drew hH0) (fun hHeld => ?_)
  refine wpAnyH_take (i := 0) (oi := { dst := some 11, op := _, type := _, pos := _, after := _, guard := _ }) (v := ?_) rfl (by kernel_rfl) (by kernel_rfl) (by kernel_rfl) (fun _ _ _ h => h) (Or.inl ⟨by rfl, ?_⟩) (by assumption) ?_
  rotate_left
  · intro w hSw; (try dsimp only at hSw); go_simp; (try with_reducible rfl)
  (try simp only [Act.put, List.setIfInBounds_toArray, List.set_cons_zero, List.set_cons_succ])
  refine wpAnyH_take (i := 1) (oi := { dst := some 12, op := _, type := _, pos := _, after := _, guard := _ }) (v := ?_) rfl (by kernel_rfl) (by kernel_rfl) (by kernel_rfl) (fun _ _ _ h => h) (Or.inl ⟨by rfl, ?_⟩) (by assumption) ?_
  rotate_left
  · intro w hSw; (try dsimp only at hSw); go_simp; (try with_reducible rfl)
  (try simp only [Act.put, List.setIfInBounds_toArray, List.set_cons_zero, List.set_cons_succ])
  refine wpAnyH_take (i := 2) (oi := { dst := some 13, op := _, type := _, pos := _, after := _, guard := _ }) (v := ?_) rfl (by kernel_rfl) (by kernel_rfl) (by kernel_rfl) (fun _ _ _ h => h) (Or.inl ⟨by rfl, ?_⟩) (by assumption) ?_
  rotate_left
  · intro w hSw; (try dsimp only at hSw); go_simp; (try with_reducible rfl)
  (try simp only [Act.put, List.setIfInBounds_toArray, List.set_cons_zero, List.set_cons_succ])
  refine wpAnyH_take (i := 4) (oi := { dst := some 15, op := _, type := _, pos := _, after := _, guard := _ }) (v := ?_) rfl (by kernel_rfl) (by kernel_rfl) (by kernel_rfl) (fun _ _ _ h => h) (Or.inl ⟨by rfl, ?_⟩) (by assumption) ?_
  rotate_left
  · intro w hSw; (try dsimp only at hSw); go_simp; (try with_reducible rfl)
  (try simp only [Act.put, List.setIfInBounds_toArray, List.set_cons_zero, List.set_cons_succ])
  refine wpAnyH_take (i := 6) (oi := { dst := some 17, op := _, type := _, pos := _, after := _, guard := _ }) (v := ?_) rfl (by kernel_rfl) (by kernel_rfl) (by kernel_rfl) (fun _ _ _ h => h) (Or.inl ⟨by rfl, ?_⟩) (by assumption) ?_
  rotate_left
  · intro w hSw; (try dsimp only at hSw); go_simp; (try with_reducible rfl)
  (try simp only [Act.put, List.setIfInBounds_toArray, List.set_cons_zero, List.set_cons_succ])
  refine wpAnyH_take (i := 7) (oi := { dst := some 18, op := _, type := _, pos := _, after := _, guard := _ }) (v := ?_) rfl (by kernel_rfl) (by kernel_rfl) (by kernel_rfl) (fun _ _ _ h => h) (Or.inl ⟨by rfl, ?_⟩) (by assumption) ?_
  rotate_left
  · intro w hSw; (try dsimp only at hSw); go_simp; (try with_reducible rfl)
  (try simp only [Act.put, List.setIfInBounds_toArray, List.set_cons_zero, List.set_cons_succ])
  refine wpAnyH_take (i := 9) (oi := { dst := some 20, op := _, type := _, pos := _, after := _, guard := _ }) (v := ?_) rfl (by kernel_rfl) (by kernel_rfl) (by kernel_rfl) (fun _ _ _ h => h) (Or.inl ⟨by rfl, ?_⟩) (by assumption) ?_
  rotate_left
  · intro w hSw; (try dsimp only at hSw); go_simp; (try with_reducible rfl)
  (try simp only [Act.put, List.setIfInBounds_toArray, List.set_cons_zero, List.set_cons_succ])
  refine wpAnyH_take (i := 10) (oi := { dst := some 21, op := _, type := _, pos := _, after := _, guard := _ }) (v := ?_) rfl (by kernel_rfl) (by kernel_rfl) (by kernel_rfl) (fun _ _ _ h => h) (Or.inl ⟨by rfl, ?_⟩) (by assumption) ?_
  rotate_left
  · intro w hSw; (try dsimp only at hSw); go_simp; (try with_reducible rfl)
  (try simp only [Act.put, List.setIfInBounds_toArray, List.set_cons_zero, List.set_cons_succ])
  refine wpAnyH_take (i := 11) (oi := { dst := some 22, op := _, type := _, pos := _, after := _, guard := _ }) (v := ?_) rfl (by kernel_rfl) (by kernel_rfl) (by kernel_rfl) (fun _ _ _ h => h) (Or.inl ⟨by rfl, ?_⟩) (by assumption) ?_
  rotate_left
  · intro w hSw; (try dsimp only at hSw); go_simp; (try with_reducible rfl)
  (try simp only [Act.put, List.setIfInBounds_toArray, List.set_cons_zero, List.set_cons_succ])
  refine wpAnyH_ready (rs := [3]) (by kernel_rfl) (by simp) ?_
  refine AllReadyH.cons rfl (fun K hK => ?_) AllReadyH.nil
  go_simp
  refine (A1.out _ hHeld).mono ?_
  rintro e w8 ⟨g8, rfl, hx8, hq8⟩
  dsimp only
  refine hK.out _ _ hq8 (fun hHeld => ?_)
  clear hK K
  (try simp only [Act.put, List.setIfInBounds_toArray, List.set_cons_zero, List.set_cons_succ])
  refine wpAnyH_ready (rs := [5]) (by kernel_rfl) (by simp) ?_
  refine AllReadyH.cons rfl (fun K hK => ?_) AllReadyH.nil
  go_simp
  refine (A2.out _ _ hHeld hx8).mono ?_
  rintro e w9 ⟨rfl, hq9⟩
  dsimp only
  refine hK.out _ _ hq9 (fun hHeld => ?_)
  clear hK K
  (try simp only [Act.put, List.setIfInBounds_toArray, List.set_cons_zero, List.set_cons_succ])
  refine wpAnyH_ready (rs := [8]) (by kernel_rfl) (by simp) ?_
  refine AllReadyH.cons rfl (fun K hK => ?_) AllReadyH.nil
  go_simp
  refine (A3.out _ hHeld).mono ?_
  rintro e w10 ⟨A10, c10, rfl, ho10, hq10⟩
  dsimp only
  refine hK.out _ _ hq10 (fun hHeld => ?_)
  clear hK K
  (try simp only [Act.put, List.setIfInBounds_toArray, List.set_cons_zero, List.set_cons_succ])
  refine wpAnyH_ready (rs := [12]) (by kernel_rfl) (by simp) ?_
  refine AllReadyH.cons rfl (fun K hK => ?_) AllReadyH.nil
  go_simp
  refine (A4.out _ hHeld).mono ?_
  rintro e w11 ⟨rfl, hb11, hq11⟩
  replace ho10 := own_stepR ho10 hb11 (Nat.le_refl _)
  dsimp only
  refine hK.out _ _ hq11 (fun hHeld => ?_)
  clear hK K
  (try simp only [Act.put, List.setIfInBounds_toArray, List.set_cons_zero, List.set_cons_succ])
  refine wpAnyH_take (i := 13) (oi := { dst := some 24, op := _, type := _, pos := _, after := _, guard := _ }) (v := ?_) rfl (by kernel_rfl) (by kernel_rfl) (by kernel_rfl) (fun _ _ _ h => h) (Or.inl ⟨by rfl, ?_⟩) (by assumption) ?_
  rotate_left
  · intro w hSw; (try dsimp only at hSw); go_simp; (try with_reducible rfl)
  (try simp only [Act.put, List.setIfInBounds_toArray, List.set_cons_zero, List.set_cons_succ])
  refine wpAnyH_ready (rs := [14]) (by kernel_rfl) (by simp) ?_
  refine AllReadyH.cons rfl (fun K hK => ?_) AllReadyH.nil
  have hH14 := hHeld
  go_simp
  refine hK.out _ _ (hHeld.alloc _) (fun hHeld => ?_)
  clear hK K
  (try simp only [Act.put, List.setIfInBounds_toArray, List.set_cons_zero, List.set_cons_succ])
  refine wpAnyH_ready (rs := [15]) (by kernel_rfl) (by simp) ?_
  refine AllReadyH.cons rfl (fun K hK => ?_) AllReadyH.nil
  obtain ⟨A15, c15, w15, hr15, hx15, hq15⟩ := A5.out _ _ _ hH14 ho10
  rw [if_pos (by rfl)]
  refine Lib.wp_append_run _ _ _ _ _ rfl _ _ rfl rfl _ _ hr15 ?_
  refine hK.out _ _ (hq15) (fun hHeld => ?_)
  clear hK K
  (try simp only [Act.put, List.setIfInBounds_toArray, List.set_cons_zero, List.set_cons_succ])
  refine wpAnyH_ready (rs := [16]) (by kernel_rfl) (by simp) ?_
  refine AllReadyH.cons rfl (fun K hK => ?_) AllReadyH.nil
  go_simp
  refine (A6.out _ _ _ hHeld hx15).mono ?_
  rintro e w16 ⟨rfl, hq16⟩
  dsimp only
  refine hK.out _ _ hq16 (fun hHeld => ?_)
  clear hK K
  (try simp only [Act.put, List.setIfInBounds_toArray, List.set_cons_zero, List.set_cons_succ])
  refine wpAnyH_take (i := 17) (oi := { dst := some 28, op := _, type := _, pos := _, after := _, guard := _ }) (v := ?_) rfl (by kernel_rfl) (by kernel_rfl) (by kernel_rfl) (fun _ _ _ h => h) (Or.inl ⟨by rfl, ?_⟩) (by assumption) ?_
  rotate_left
  · intro w hSw; (try dsimp only at hSw); go_simp; (try with_reducible rfl)
  (try simp only [Act.put, List.setIfInBounds_toArray, List.set_cons_zero, List.set_cons_succ])
  refine wpAnyH_take (i := 18) (oi := { dst := some 8, op := _, type := _, pos := _, after := _, guard := _ }) (v := ?_) rfl (by kernel_rfl) (by kernel_rfl) (by kernel_rfl) (fun _ _ _ h => h) (Or.inl ⟨by rfl, ?_⟩) (by assumption) ?_
  rotate_left
  · intro w hSw; (try dsimp only at hSw); go_simp; (try with_reducible rfl)
  (try simp only [Act.put, List.setIfInBounds_toArray, List.set_cons_zero, List.set_cons_succ])
  refine wpAnyH_done (by kernel_rfl) ?_ _
  go_wp2_with fail
  go_ret
  exact ⟨rfl, HZ.out.trans (hHeld.bel.mono HZ.out.size)⟩
end Go.Proofs.Ytinbcdadffljhaa
