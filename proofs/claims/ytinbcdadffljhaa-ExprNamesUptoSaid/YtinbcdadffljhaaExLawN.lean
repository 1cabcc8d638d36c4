/-
  The law ExprNames.
-/
import Derived.Test.YtinbcdadffljhaaExLawP
namespace Go.Proofs.Ytinbcdadffljhaa
open Go.RowKit Go.Shelf
set_option maxRecDepth 100000

/-- an expression's box and a binding's, and all that lay -/
abbrev HeldN2 (D : Nat) (w7 : World) (h : Eh) (s : ByteArray) (x : Int) (W : World) : Prop :=
  W.cell? ⟨D, 0, none⟩ = some (.int .i64 h.k) ∧ W.cell? ⟨D, 1, none⟩ = some (.int .i64 h.n) ∧ W.cell? ⟨D, 2, none⟩ = some (.string h.s) ∧ W.cell? ⟨D, 3, none⟩ = some (.slice h.A h.m h.cap) ∧
  W.cell? ⟨D + 1, 0, none⟩ = some (.string s) ∧ W.cell? ⟨D + 1, 1, none⟩ = some (.int .i64 x) ∧ Below w7.heap.size w7 W ∧ D + 1 < w7.heap.size
theorem HeldN2.drew {D : Nat} {w7 W : World} {h : Eh} {s : ByteArray} {x : Int} (hh : HeldN2 D w7 h s x W) : HeldN2 D w7 h s x W.drew := by
  obtain ⟨a1, a2, a3, a4, a5, a6, a9, a10⟩ := hh
  exact ⟨a1, a2, a3, a4, a5, a6, a9.drew, a10⟩
theorem HeldN2.bel {D : Nat} {w7 W : World} {h : Eh} {s : ByteArray} {x : Int} (hh : HeldN2 D w7 h s x W) : Below w7.heap.size w7 W := hh.2.2.2.2.2.2.1
theorem HeldN2.stepL {D : Nat} {w7 W w2 : World} {h : Eh} {s : ByteArray} {x : Int} (hh : HeldN2 D w7 h s x W) (hw : Below w7.heap.size W w2) : HeldN2 D w7 h s x w2 := by
  obtain ⟨a1, a2, a3, a4, a5, a6, a9, a10⟩ := hh
  have c : ∀ q x, q ≤ D + 1 → w2.cell? ⟨q, x, none⟩ = W.cell? ⟨q, x, none⟩ := fun q x hq => hw.cell (p := ⟨q, x, none⟩) (by show q < _; omega)
  exact ⟨(c _ _ (by omega)).trans a1, (c _ _ (by omega)).trans a2, (c _ _ (by omega)).trans a3, (c _ _ (by omega)).trans a4, (c _ _ (Nat.le_refl _)).trans a5, (c _ _ (Nat.le_refl _)).trans a6, a9.trans hw, a10⟩
theorem HeldN2.step {D : Nat} {w7 W w2 : World} {h : Eh} {s : ByteArray} {x : Int} (hh : HeldN2 D w7 h s x W) (hw : Below W.heap.size W w2) : HeldN2 D w7 h s x w2 := hh.stepL (hw.mono hh.bel.size)
theorem HeldN2.alloc {D : Nat} {w7 W : World} {h : Eh} {s : ByteArray} {x : Int} (hh : HeldN2 D w7 h s x W) (o : Obj) : HeldN2 D w7 h s x (W.alloc o) := hh.step ((Below.refl _ _).alloc (Nat.le_refl _) _)
theorem Xp.nl_put (n : ByteArray) (v : Int) : ∀ T : Xp, (Xp.put n (.num v) T).nl ≤ T.nl
  | .num _ => Nat.le_refl _
  | .nam s => by
    unfold Xp.put
    split
    · exact Nat.zero_le _
    · exact Nat.le_refl _
  | .op k a b => by
    have h1 := a.nl_put n v
    have h2 := b.nl_put n v
    show (Xp.put n (.num v) a).nl + (Xp.put n (.num v) b).nl ≤ a.nl + b.nl; omega
  | .nul => Nat.le_refl _
/-- a new slice of one binding -/
theorem new_bind (W : World) (s : ByteArray) (hs : s.size ≤ maxLen) {x : Int} (hx : inI x) : RdB (W.alloc (.cells #[.string s, .int .i64 x] 38)) (W.alloc (.cells #[.string s, .int .i64 x] 38)).heap.size (some ⟨W.heap.size, 0, none⟩) [(s, x)] := by
  have e := World.alloc_heap_new W (.cells #[.string s, .int .i64 x] 38)
  refine ⟨fun b hb => ?_, by simp, fun _ => ⟨_, 0, rfl, by simp, fun k hk => ?_⟩, fun b hb => ?_⟩
  · simp at hb
    subst hb
    exact hx
  · have hk2 : k = 0 := by simp at hk; omega
    subst hk2
    constructor <;> simp only [World.cell?, e] <;> rfl
  · simp at hb
    subst hb
    exact hs
theorem new_bindH {D : Nat} {w7 W : World} {h : Eh} {s : ByteArray} {x : Int} (_ : HeldN2 D w7 h s x W) (hs : s.size ≤ maxLen) (hx : inI x) : RdB (W.alloc (.cells #[.string s, .int .i64 x] 38)) (W.alloc (.cells #[.string s, .int .i64 x] 38)).heap.size (some ⟨W.heap.size, 0, none⟩) [(s, x)] := new_bind W s hs hx
/-- a slice of one binding is appended to a row of bindings that the call owns -/
theorem app_bind2 (w : World) (base : Nat) (v : Value) (env : List (ByteArray × Int)) (s : ByteArray) (x : Int) (A2 : Option Addr) (c2 : Nat) (h2 : RdB w w.heap.size A2 [(s, x)]) (hi : ∀ b ∈ env, inI b.2) (hsz : ∀ b ∈ env, b.1.size ≤ maxLen) (hown : w.ownsRow base 38 2 v env.length (bVals env)) (hbase : base ≤ w.heap.size) (hl : env.length ≤ 1048576) :
    ∃ A' c' w', (Builtin.append_ #[25, 25] 25 #[v, .slice A2 1 c2]).run Try.prog w = .ok (.slice A' (env.length + 1) c') w' ∧ (RdB w' w'.heap.size A' (env ++ [(s, x)]) ∧ env.length + 1 ≤ c') ∧ Below base w w' := by
  obtain ⟨i0, hi0, hz0, hz1, hz2⟩ := info_parts Try.infoBi
  obtain ⟨b, off, rfl, _, hc⟩ := h2.rd (by simp)
  have hL : LiesR w (.slice (some ⟨b, off, none⟩) 1 c2) 1 (bVals [(s, x)]) := by
    refine .inr ⟨_, c2, rfl, fun j u hj => ?_⟩
    rw [Addr.add_lit]
    exact rdB_cells hc hj
  obtain ⟨v', w', hr, h1, h3, h4⟩ := run_append_rowsR (P := Try.prog) _ 25 25 base 38 i0 _ 2 24 Try.underlying25 hi0 hz0 hz1 hz2 rfl (by decide) v env.length (bVals env) hown _ 1 (bVals [(s, x)]) hL rfl (fun u hu => bVals_cell _ hu) (by unfold maxLen; omega) (by omega) hbase
  rw [show bVals env ++ bVals [(s, x)] = bVals (env ++ [(s, x)]) from bVals_snoc env (s, x)] at h1
  obtain ⟨A', c', rfl⟩ := own_anyBi h1
  refine ⟨A', c', w', hr, ⟨own_rdB h1 (by simp) ?_ ?_ (by omega), own_capE h1⟩, (Below.refl base w).grown h3 hbase (fun k hk => own_base hown k hk)⟩
  · intro t ht
    rcases List.mem_append.1 ht with h | h
    · exact hi t h
    · simp at h; subst h; exact h2.int (s, x) (by simp)
  · intro t ht
    rcases List.mem_append.1 ht with h | h
    · exact hsz t h
    · simp at h; subst h; exact h2.str (s, x) (by simp)
set_option maxHeartbeats 8000000 in
theorem enames_any (T : Xp) (h : Eh) (A : Option Addr) (c : Nat) (env : List (ByteArray × Int)) (name : ByteArray) (x : Int) (hxi : inI x) (w : World) (hT : EIn w w.heap.size T h) (he : RdB w w.heap.size A env) (hl : env.length ≤ 1048576) (hc : env.length ≤ c) (hnl : T.nl ≤ 2097152) (hnm : name.size ≤ maxLen) :
    Calls Try.prog 6 #[.agg h.cells, .slice A env.length c, .agg #[.string name, .int .i64 x]] w fun e w' => e = .returned (.bool true) ∧ Below w.heap.size w w' := by
  have HC := Lib.hid hc
  clear hc
  have HNM := Lib.hid hnm
  clear hnm
  obtain ⟨y0, y1, y2, y3, y4, y5⟩ := h
  have key : ∃ w1, w1 = (w.alloc (.cells (Eh.cells ⟨y0, y1, y2, y3, y4, y5⟩) 24)).alloc (.cells #[.string name, .int .i64 x] 38) ∧ Below w.heap.size w w1 ∧ EB 24 w1 w.heap.size ⟨y0, y1, y2, y3, y4, y5⟩ ∧ w1.cell? ⟨w.heap.size + 1, 0, none⟩ = some (.string name) ∧ w1.cell? ⟨w.heap.size + 1, 1, none⟩ = some (.int .i64 x) ∧ w.heap.size + 1 < w1.heap.size := by
    have e := World.alloc_heap_new (w.alloc (.cells (Eh.cells ⟨y0, y1, y2, y3, y4, y5⟩) 24)) (.cells #[.string name, .int .i64 x] 38)
    have e2 : (w.alloc (.cells (Eh.cells ⟨y0, y1, y2, y3, y4, y5⟩) 24)).heap.size = w.heap.size + 1 := by simp
    rw [e2] at e
    refine ⟨_, rfl, ((Below.refl _ _).alloc (Nat.le_refl _) _).alloc (by simp) _, (EB.new w _ _).alloc _, ?_, ?_, by simp⟩
    · simp only [World.cell?, e]; rfl
    · simp only [World.cell?, e]; rfl
  obtain ⟨w1, hw1, hb1, t1, u0, u1, ult⟩ := key
  have HB1 := Lib.hid hb1
  replace hT := hT.step hb1
  replace he := he.step hb1
  have A0 := alive9_any w1
  have HW := Lib.hid hw1
  obtain ⟨V, hV⟩ : ∃ V, V = T.ev env := ⟨_, rfl⟩
  obtain ⟨N, hN⟩ : ∃ N, N = env.length := ⟨_, rfl⟩
  obtain ⟨NL, hNL⟩ : ∃ NL, NL = T.names := ⟨_, rfl⟩
  rw [← hN]
  have HN := Lib.hid (And.intro hV (And.intro hN hNL))
  have HL := Lib.hid (And.intro hl hnl)
  clear hw1 hb1 hV hN hNL hl hnl
  go_enter Try.func6, Try.ntmps6
  go_upto_region 1 with fail
  rw [show (w.alloc _).alloc _ = w1 from HW.out.symm]
  go_wp2_with fail
  refine A0.mono ?_
  rintro e w2 ⟨rfl, hb2⟩
  have HZ := Lib.hid (HB1.out.trans (hb2.mono HB1.out.size))
  obtain ⟨hV, hN, hNL⟩ := HN.out
  obtain ⟨hl, hnl⟩ := HL.out
  have t2 := t1.step hb2
  replace hT := hT.step hb2
  replace he := he.step hb2
  have hH0 : HeldN2 w.heap.size w2 ⟨y0, y1, y2, y3, y4, y5⟩ name x w2 := ⟨t2.c0, t2.c1, t2.c2, t2.c3, (hb2.cell (p := ⟨w.heap.size + 1, 0, none⟩) ult).trans u0, (hb2.cell (p := ⟨w.heap.size + 1, 1, none⟩) ult).trans u1, Below.refl _ _, Nat.lt_of_lt_of_le ult hb2.size⟩
  have A1 : Hid (∀ W, HeldN2 w.heap.size w2 ⟨y0, y1, y2, y3, y4, y5⟩ name x W → Calls Try.prog 12 #[.agg #[.int .i64 y0, .int .i64 y1, .string y2, .slice y3 y4 y5]] W fun e w' => ∃ A c, e = .returned (.slice A NL.length c) ∧ RdN w' w'.heap.size A NL ∧ Below W.heap.size W w' ∧ HeldN2 w.heap.size w2 ⟨y0, y1, y2, y3, y4, y5⟩ name x w') := Lib.hid fun W hW => by
    refine (dnames T ⟨y0, y1, y2, y3, y4, y5⟩ W (hT.step hW.bel) hnl).mono ?_
    rintro e w' ⟨v, rfl, h1, h2⟩
    rw [← hNL] at h1
    obtain ⟨A, c, rfl, hr⟩ := own_rdN h1 (by have := T.names_nl; rw [← hNL] at this; omega)
    exact ⟨A, c, rfl, hr, h2, hW.step h2⟩
  have C1 : Hid (∀ (L : List ByteArray) (b : Bool) W A c, decide (name ∈ L) = b → HeldN2 w.heap.size w2 ⟨y0, y1, y2, y3, y4, y5⟩ name x W → RdN W W.heap.size A L → Calls Try.prog 21 #[.slice A L.length c, .string name] W fun e w' => e = .returned (.bool b) ∧ HeldN2 w.heap.size w2 ⟨y0, y1, y2, y3, y4, y5⟩ name x w') := Lib.hid fun L b W A c hb hW hA => by
    refine (contains_bN A c L name W hA).mono ?_
    rintro e w' ⟨rfl, rfl⟩
    exact ⟨by rw [hb], hW⟩
  have A3 : Hid (∀ W, HeldN2 w.heap.size w2 ⟨y0, y1, y2, y3, y4, y5⟩ name x W → Calls Try.prog 22 #[.int .i64 1] W fun e w' => ∃ g, e = .returned (.agg g.cells) ∧ NumH 1 g ∧ HeldN2 w.heap.size w2 ⟨y0, y1, y2, y3, y4, y5⟩ name x w') := Lib.hid fun W hW => by
    refine (num_any 1 W (by unfold inI; omega)).mono ?_
    rintro e w' ⟨g, rfl, h1, h2⟩
    exact ⟨g, rfl, h1, hW.step h2⟩
  have A4 : Hid (∀ W g, HeldN2 w.heap.size w2 ⟨y0, y1, y2, y3, y4, y5⟩ name x W → NumH 1 g → Calls Try.prog 15 #[.agg #[.int .i64 y0, .int .i64 y1, .string y2, .slice y3 y4 y5], .string name, .agg g.cells] W fun e w' => ∃ k, e = .returned (.agg k.cells) ∧ EOx w' W.heap.size w'.heap.size (Xp.put name (.num 1) T) k ∧ Below W.heap.size W w' ∧ HeldN2 w.heap.size w2 ⟨y0, y1, y2, y3, y4, y5⟩ name x w') := Lib.hid fun W g hW hg => by
    refine (dput T ⟨y0, y1, y2, y3, y4, y5⟩ name (.num 1) g W (hT.step hW.bel) ⟨hg.1, hg.2.1, hg.2.2.1⟩).mono ?_
    rintro e w' ⟨k, rfl, h1, h2⟩
    exact ⟨k, rfl, h1, h2, hW.step h2⟩
  by_cases hin : name ∈ T.names
  · have D1 := Lib.hid (show decide (name ∈ NL) = true by rw [hNL]; exact decide_eq_true hin)
    obtain ⟨NM, hNM⟩ : ∃ NM, NM = (Xp.put name (.num 1) T).names := ⟨_, rfl⟩
    have D2 := Lib.hid (show decide (name ∈ NM) = false by rw [hNM]; exact decide_eq_false (Xp.put_names T))
    have A5 : Hid (∀ W g lo, HeldN2 w.heap.size w2 ⟨y0, y1, y2, y3, y4, y5⟩ name x W → EOx W lo W.heap.size (Xp.put name (.num 1) T) g → Calls Try.prog 12 #[.agg g.cells] W fun e w' => ∃ A c, e = .returned (.slice A NM.length c) ∧ RdN w' w'.heap.size A NM ∧ HeldN2 w.heap.size w2 ⟨y0, y1, y2, y3, y4, y5⟩ name x w') := Lib.hid fun W g lo hW hg => by
      have hnl2 := Xp.nl_put name 1 T
      refine (dnames _ g W hg.inn (by omega)).mono ?_
      rintro e w' ⟨v, rfl, h1, h2⟩
      rw [← hNM] at h1
      obtain ⟨A, c, rfl, hr⟩ := own_rdN h1 (by have := (Xp.put name (.num 1) T).names_nl; rw [← hNM] at this; omega)
      exact ⟨A, c, rfl, hr, hW.step h2⟩
    clear A0 t1 t2 hT he hV hN hNL hNM hb2 hl hnl u0 u1 ult hin HW
    go_upto_region 3 with fail
    refine wp_region_held_drew (S := HeldN2 w.heap.size w2 ⟨y0, y1, y2, y3, y4, y5⟩ name x) (by kernel_rfl) (HeldN2.drew hH0) (fun hHeld => ?_)
    refine wpAnyH_take (i := 0) (oi := { dst := some 9, op := _, type := _, pos := _, after := _, guard := _ }) (v := ?_) rfl (by kernel_rfl) (by kernel_rfl) (by kernel_rfl) (fun _ _ _ h => h) (Or.inl ⟨by rfl, ?_⟩) (by assumption) ?_
    rotate_left
    · intro w hSw; (try dsimp only at hSw); go_simp; (try with_reducible rfl)
    (try simp only [Act.put, List.setIfInBounds_toArray, List.set_cons_zero, List.set_cons_succ])
    refine wpAnyH_take (i := 2) (oi := { dst := some 11, op := _, type := _, pos := _, after := _, guard := _ }) (v := ?_) rfl (by kernel_rfl) (by kernel_rfl) (by kernel_rfl) (fun _ _ _ h => h) (Or.inl ⟨by rfl, ?_⟩) (by assumption) ?_
    rotate_left
    · intro w hSw; (try dsimp only at hSw); go_simp; (try with_reducible rfl)
    (try simp only [Act.put, List.setIfInBounds_toArray, List.set_cons_zero, List.set_cons_succ])
    refine wpAnyH_take (i := 3) (oi := { dst := some 12, op := _, type := _, pos := _, after := _, guard := _ }) (v := ?_) rfl (by kernel_rfl) (by kernel_rfl) (by kernel_rfl) (fun _ _ _ h => h) (Or.inl ⟨by rfl, ?_⟩) (by assumption) ?_
    rotate_left
    · intro w hSw; (try dsimp only at hSw); go_simp; (try with_reducible rfl)
    (try simp only [Act.put, List.setIfInBounds_toArray, List.set_cons_zero, List.set_cons_succ])
    refine wpAnyH_ready (rs := [1]) (by kernel_rfl) (by simp) ?_
    refine AllReadyH.cons rfl (fun K hK => ?_) AllReadyH.nil
    go_simp
    refine (A1.out _ hHeld).mono ?_
    rintro e w8 ⟨A8, c8, rfl, hr8, hb8, hq8⟩
    dsimp only
    refine hK.out _ _ hq8 (fun hHeld => ?_)
    clear hK K
    (try simp only [Act.put, List.setIfInBounds_toArray, List.set_cons_zero, List.set_cons_succ])
    refine wpAnyH_ready (rs := [4]) (by kernel_rfl) (by simp) ?_
    refine AllReadyH.cons rfl (fun K hK => ?_) AllReadyH.nil
    go_simp
    refine (C1.out _ _ _ _ _ D1.out hHeld hr8).mono ?_
    rintro e w9 ⟨rfl, hq9⟩
    dsimp only
    refine hK.out _ _ hq9 (fun hHeld => ?_)
    clear hK K
    (try simp only [Act.put, List.setIfInBounds_toArray, List.set_cons_zero, List.set_cons_succ])
    refine wpAnyH_done (by kernel_rfl) ?_ _
    go_wp2_with fail
    skip
    have hH0 := hHeld
    (try go_upto_region 4 with fail)
    refine wp_region_held_drew (S := HeldN2 w.heap.size w2 ⟨y0, y1, y2, y3, y4, y5⟩ name x) (by kernel_rfl) (HeldN2.drew hH0) (fun hHeld => ?_)
    refine wpAnyH_take (i := 0) (oi := { dst := some 14, op := _, type := _, pos := _, after := _, guard := _ }) (v := ?_) rfl (by kernel_rfl) (by kernel_rfl) (by kernel_rfl) (fun _ _ _ h => h) (Or.inl ⟨by rfl, ?_⟩) (by assumption) ?_
    rotate_left
    · intro w hSw; (try dsimp only at hSw); go_simp; (try with_reducible rfl)
    (try simp only [Act.put, List.setIfInBounds_toArray, List.set_cons_zero, List.set_cons_succ])
    refine wpAnyH_take (i := 1) (oi := { dst := some 15, op := _, type := _, pos := _, after := _, guard := _ }) (v := ?_) rfl (by kernel_rfl) (by kernel_rfl) (by kernel_rfl) (fun _ _ _ h => h) (Or.inl ⟨by rfl, ?_⟩) (by assumption) ?_
    rotate_left
    · intro w hSw; (try dsimp only at hSw); go_simp; (try with_reducible rfl)
    (try simp only [Act.put, List.setIfInBounds_toArray, List.set_cons_zero, List.set_cons_succ])
    refine wpAnyH_take (i := 2) (oi := { dst := some 16, op := _, type := _, pos := _, after := _, guard := _ }) (v := ?_) rfl (by kernel_rfl) (by kernel_rfl) (by kernel_rfl) (fun _ _ _ h => h) (Or.inl ⟨by rfl, ?_⟩) (by assumption) ?_
    rotate_left
    · intro w hSw; (try dsimp only at hSw); go_simp; (try with_reducible rfl)
    (try simp only [Act.put, List.setIfInBounds_toArray, List.set_cons_zero, List.set_cons_succ])
    refine wpAnyH_take (i := 6) (oi := { dst := some 20, op := _, type := _, pos := _, after := _, guard := _ }) (v := ?_) rfl (by kernel_rfl) (by kernel_rfl) (by kernel_rfl) (fun _ _ _ h => h) (Or.inl ⟨by rfl, ?_⟩) (by assumption) ?_
    rotate_left
    · intro w hSw; (try dsimp only at hSw); go_simp; (try with_reducible rfl)
    (try simp only [Act.put, List.setIfInBounds_toArray, List.set_cons_zero, List.set_cons_succ])
    refine wpAnyH_take (i := 7) (oi := { dst := some 21, op := _, type := _, pos := _, after := _, guard := _ }) (v := ?_) rfl (by kernel_rfl) (by kernel_rfl) (by kernel_rfl) (fun _ _ _ h => h) (Or.inl ⟨by rfl, ?_⟩) (by assumption) ?_
    rotate_left
    · intro w hSw; (try dsimp only at hSw); go_simp; (try with_reducible rfl)
    (try simp only [Act.put, List.setIfInBounds_toArray, List.set_cons_zero, List.set_cons_succ])
    refine wpAnyH_ready (rs := [3]) (by kernel_rfl) (by simp) ?_
    refine AllReadyH.cons rfl (fun K hK => ?_) AllReadyH.nil
    go_simp
    refine (A3.out _ hHeld).mono ?_
    rintro e w10 ⟨g10, rfl, hg10, hq10⟩
    dsimp only
    refine hK.out _ _ hq10 (fun hHeld => ?_)
    clear hK K
    (try simp only [Act.put, List.setIfInBounds_toArray, List.set_cons_zero, List.set_cons_succ])
    refine wpAnyH_ready (rs := [4]) (by kernel_rfl) (by simp) ?_
    refine AllReadyH.cons rfl (fun K hK => ?_) AllReadyH.nil
    go_simp
    refine (A4.out _ _ hHeld hg10).mono ?_
    rintro e w11 ⟨g11, rfl, hx11, hb11, hq11⟩
    dsimp only
    refine hK.out _ _ hq11 (fun hHeld => ?_)
    clear hK K
    (try simp only [Act.put, List.setIfInBounds_toArray, List.set_cons_zero, List.set_cons_succ])
    refine wpAnyH_ready (rs := [5]) (by kernel_rfl) (by simp) ?_
    refine AllReadyH.cons rfl (fun K hK => ?_) AllReadyH.nil
    go_simp
    refine (A5.out _ _ _ hHeld hx11).mono ?_
    rintro e w12 ⟨A12, c12, rfl, hr12, hq12⟩
    dsimp only
    refine hK.out _ _ hq12 (fun hHeld => ?_)
    clear hK K
    (try simp only [Act.put, List.setIfInBounds_toArray, List.set_cons_zero, List.set_cons_succ])
    refine wpAnyH_ready (rs := [8]) (by kernel_rfl) (by simp) ?_
    refine AllReadyH.cons rfl (fun K hK => ?_) AllReadyH.nil
    go_simp
    refine (C1.out _ _ _ _ _ D2.out hHeld hr12).mono ?_
    rintro e w13 ⟨rfl, hq13⟩
    dsimp only
    refine hK.out _ _ hq13 (fun hHeld => ?_)
    clear hK K
    (try simp only [Act.put, List.setIfInBounds_toArray, List.set_cons_zero, List.set_cons_succ])
    refine wpAnyH_take (i := 9) (oi := { dst := some 23, op := _, type := _, pos := _, after := _, guard := _ }) (v := ?_) rfl (by kernel_rfl) (by kernel_rfl) (by kernel_rfl) (fun _ _ _ h => h) (Or.inl ⟨by rfl, ?_⟩) (by assumption) ?_
    rotate_left
    · intro w hSw; (try dsimp only at hSw); go_simp; (try with_reducible rfl)
    (try simp only [Act.put, List.setIfInBounds_toArray, List.set_cons_zero, List.set_cons_succ])
    refine wpAnyH_take (i := 10) (oi := { dst := some 6, op := _, type := _, pos := _, after := _, guard := _ }) (v := ?_) rfl (by kernel_rfl) (by kernel_rfl) (by kernel_rfl) (fun _ _ _ h => h) (Or.inl ⟨by rfl, ?_⟩) (by assumption) ?_
    rotate_left
    · intro w hSw; (try dsimp only at hSw); go_simp; (try with_reducible rfl)
    (try simp only [Act.put, List.setIfInBounds_toArray, List.set_cons_zero, List.set_cons_succ])
    refine wpAnyH_done (by kernel_rfl) ?_ _
    go_wp2_with fail
    go_ret
    exact ⟨rfl, HZ.out.trans (hHeld.bel.mono HZ.out.size)⟩
  · have D1 := Lib.hid (show decide (name ∈ NL) = false by rw [hNL]; exact decide_eq_false hin)
    have B1 : Hid (∀ W, HeldN2 w.heap.size w2 ⟨y0, y1, y2, y3, y4, y5⟩ name x W → Calls Try.prog 9 #[.agg #[.int .i64 y0, .int .i64 y1, .string y2, .slice y3 y4 y5], .slice A N c] W fun e w' => e = .returned (.int .i64 V) ∧ Below W.heap.size W w' ∧ HeldN2 w.heap.size w2 ⟨y0, y1, y2, y3, y4, y5⟩ name x w') := Lib.hid fun W hW => by
      rw [hN]
      refine (deval T ⟨y0, y1, y2, y3, y4, y5⟩ A c env W (hT.step hW.bel) (he.step hW.bel) (by omega) HC.out).mono ?_
      rintro e w' ⟨rfl, h1⟩
      exact ⟨by rw [hV], h1, hW.step h1⟩
    have B2 : Hid (∀ W, HeldN2 w.heap.size w2 ⟨y0, y1, y2, y3, y4, y5⟩ name x W → Calls Try.prog 20 #[.slice A N c] W fun e w' => ∃ A' c', e = .returned (.slice A' N c') ∧ w'.ownsRow w2.heap.size 38 2 (.slice A' N c') env.length (bVals env) ∧ Below W.heap.size W w' ∧ HeldN2 w.heap.size w2 ⟨y0, y1, y2, y3, y4, y5⟩ name x w') := Lib.hid fun W hW => by
      rw [hN]
      refine (cloneB_any A c env W (he.step hW.bel) (by omega)).mono ?_
      rintro e w' ⟨v, rfl, h1, h2⟩
      obtain ⟨A', c', rfl⟩ := own_anyBi h1
      exact ⟨A', c', rfl, own_moreR h1 hW.bel.size, h2, hW.step h2⟩
    have B3 : Hid (∀ W A' c' A2 c2, HeldN2 w.heap.size w2 ⟨y0, y1, y2, y3, y4, y5⟩ name x W → W.ownsRow w2.heap.size 38 2 (.slice A' N c') env.length (bVals env) → RdB W W.heap.size A2 [(name, x)] → ∃ A5 c5 w5, (Builtin.append_ #[25, 25] 25 #[.slice A' N c', .slice A2 1 c2]).run Try.prog W = .ok (.slice A5 (N + 1) c5) w5 ∧ (RdB w5 w5.heap.size A5 (env ++ [(name, x)]) ∧ env.length + 1 ≤ c5) ∧ HeldN2 w.heap.size w2 ⟨y0, y1, y2, y3, y4, y5⟩ name x w5) := Lib.hid fun W A' c' A2 c2 hW ho hr => by
      rw [hN] at ho ⊢
      obtain ⟨A5, c5, w5, h1, h2, h3⟩ := app_bind2 W w2.heap.size _ env name x A2 c2 hr he.int he.str ho hW.bel.size hl
      exact ⟨A5, c5, w5, h1, h2, hW.stepL h3⟩
    have B4 : Hid (∀ W A5 c5, HeldN2 w.heap.size w2 ⟨y0, y1, y2, y3, y4, y5⟩ name x W → (RdB W W.heap.size A5 (env ++ [(name, x)]) ∧ env.length + 1 ≤ c5) → Calls Try.prog 9 #[.agg #[.int .i64 y0, .int .i64 y1, .string y2, .slice y3 y4 y5], .slice A5 (N + 1) c5] W fun e w' => e = .returned (.int .i64 V) ∧ HeldN2 w.heap.size w2 ⟨y0, y1, y2, y3, y4, y5⟩ name x w') := Lib.hid fun W A5 c5 hW hr => by
      have := deval T ⟨y0, y1, y2, y3, y4, y5⟩ A5 c5 (env ++ [(name, x)]) W (hT.step hW.bel) hr.1 (by simp; omega) (by simpa using hr.2)
      rw [List.length_append, List.length_singleton, ← hN] at this
      refine Calls.mono this ?_
      rintro e w' ⟨rfl, h1⟩
      exact ⟨by rw [hV, Xp.ev_more (env := env) (v := x) hin], hW.step h1⟩
    have B5 : Hid (∀ W, HeldN2 w.heap.size w2 ⟨y0, y1, y2, y3, y4, y5⟩ name x W → Calls Try.prog 23 #[.string ⟨#[]⟩] W fun e w' => ∃ g : Eh, e = .returned (.agg g.cells) ∧ (g.k = 2 ∧ g.s = ByteArray.empty) ∧ Below W.heap.size W w' ∧ HeldN2 w.heap.size w2 ⟨y0, y1, y2, y3, y4, y5⟩ name x w') := Lib.hid fun W hW => by
      refine (nam_any ByteArray.empty (by decide) W).mono ?_
      rintro e w' ⟨g, rfl, h1, h2⟩
      exact ⟨g, rfl, ⟨h1.1, h1.2.1⟩, h2, hW.step h2⟩
    have B6 : Hid (∀ W (g : Eh), HeldN2 w.heap.size w2 ⟨y0, y1, y2, y3, y4, y5⟩ name x W → (g.k = 2 ∧ g.s = ByteArray.empty) → Calls Try.prog 15 #[.agg #[.int .i64 y0, .int .i64 y1, .string y2, .slice y3 y4 y5], .string ⟨#[]⟩, .agg g.cells] W fun e w' => ∃ k, e = .returned (.agg k.cells) ∧ EOx w' W.heap.size w'.heap.size T.cln k ∧ Below W.heap.size W w' ∧ HeldN2 w.heap.size w2 ⟨y0, y1, y2, y3, y4, y5⟩ name x w') := Lib.hid fun W g hW hg => by
      have := dput T ⟨y0, y1, y2, y3, y4, y5⟩ ByteArray.empty (.nam ByteArray.empty) g W (hT.step hW.bel) ⟨hg.1, hg.2, by decide⟩
      rw [Xp.put_self] at this
      refine Calls.mono this ?_
      rintro e w' ⟨k, rfl, h1, h2⟩
      exact ⟨k, rfl, h1, h2, hW.step h2⟩
    have B7 : Hid (∀ W g k lo lo', HeldN2 w.heap.size w2 ⟨y0, y1, y2, y3, y4, y5⟩ name x W → EOx W lo W.heap.size (Xp.put name (.num 1) T) g → EOx W lo' W.heap.size T.cln k → Calls Try.prog 14 #[.agg g.cells, .agg k.cells] W fun e w' => e = .returned (.bool true) ∧ HeldN2 w.heap.size w2 ⟨y0, y1, y2, y3, y4, y5⟩ name x w') := Lib.hid fun W g k lo lo' hW hg hk => by
      rw [Xp.put_out T hin] at hg
      refine (same_any T.cln g k lo lo' W hg hk).mono ?_
      rintro e w' ⟨rfl, h2⟩
      exact ⟨rfl, hW.step h2⟩
    have HX := Lib.hid hxi
    clear A0 t1 t2 hT he hV hN hNL hb2 hl hnl u0 u1 ult hin HW hxi
    go_upto_region 3 with fail
    refine wp_region_held_drew (S := HeldN2 w.heap.size w2 ⟨y0, y1, y2, y3, y4, y5⟩ name x) (by kernel_rfl) (HeldN2.drew hH0) (fun hHeld => ?_)
    refine wpAnyH_take (i := 0) (oi := { dst := some 9, op := _, type := _, pos := _, after := _, guard := _ }) (v := ?_) rfl (by kernel_rfl) (by kernel_rfl) (by kernel_rfl) (fun _ _ _ h => h) (Or.inl ⟨by rfl, ?_⟩) (by assumption) ?_
    rotate_left
    · intro w hSw; (try dsimp only at hSw); go_simp; (try with_reducible rfl)
    (try simp only [Act.put, List.setIfInBounds_toArray, List.set_cons_zero, List.set_cons_succ])
    refine wpAnyH_take (i := 2) (oi := { dst := some 11, op := _, type := _, pos := _, after := _, guard := _ }) (v := ?_) rfl (by kernel_rfl) (by kernel_rfl) (by kernel_rfl) (fun _ _ _ h => h) (Or.inl ⟨by rfl, ?_⟩) (by assumption) ?_
    rotate_left
    · intro w hSw; (try dsimp only at hSw); go_simp; (try with_reducible rfl)
    (try simp only [Act.put, List.setIfInBounds_toArray, List.set_cons_zero, List.set_cons_succ])
    refine wpAnyH_take (i := 3) (oi := { dst := some 12, op := _, type := _, pos := _, after := _, guard := _ }) (v := ?_) rfl (by kernel_rfl) (by kernel_rfl) (by kernel_rfl) (fun _ _ _ h => h) (Or.inl ⟨by rfl, ?_⟩) (by assumption) ?_
    rotate_left
    · intro w hSw; (try dsimp only at hSw); go_simp; (try with_reducible rfl)
    (try simp only [Act.put, List.setIfInBounds_toArray, List.set_cons_zero, List.set_cons_succ])
    refine wpAnyH_ready (rs := [1]) (by kernel_rfl) (by simp) ?_
    refine AllReadyH.cons rfl (fun K hK => ?_) AllReadyH.nil
    go_simp
    refine (A1.out _ hHeld).mono ?_
    rintro e w8 ⟨A8, c8, rfl, hr8, hb8, hq8⟩
    dsimp only
    refine hK.out _ _ hq8 (fun hHeld => ?_)
    clear hK K
    (try simp only [Act.put, List.setIfInBounds_toArray, List.set_cons_zero, List.set_cons_succ])
    refine wpAnyH_ready (rs := [4]) (by kernel_rfl) (by simp) ?_
    refine AllReadyH.cons rfl (fun K hK => ?_) AllReadyH.nil
    go_simp
    refine (C1.out _ _ _ _ _ D1.out hHeld hr8).mono ?_
    rintro e w9 ⟨rfl, hq9⟩
    dsimp only
    refine hK.out _ _ hq9 (fun hHeld => ?_)
    clear hK K
    (try simp only [Act.put, List.setIfInBounds_toArray, List.set_cons_zero, List.set_cons_succ])
    refine wpAnyH_done (by kernel_rfl) ?_ _
    go_wp2_with fail
    skip
    have hH0 := hHeld
    (try go_upto_region 5 with fail)
    refine wp_region_held_drew (S := HeldN2 w.heap.size w2 ⟨y0, y1, y2, y3, y4, y5⟩ name x) (by kernel_rfl) (HeldN2.drew hH0) (fun hHeld => ?_)
    refine wpAnyH_take (i := 0) (oi := { dst := some 24, op := _, type := _, pos := _, after := _, guard := _ }) (v := ?_) rfl (by kernel_rfl) (by kernel_rfl) (by kernel_rfl) (fun _ _ _ h => h) (Or.inl ⟨by rfl, ?_⟩) (by assumption) ?_
    rotate_left
    · intro w hSw; (try dsimp only at hSw); go_simp; (try with_reducible rfl)
    (try simp only [Act.put, List.setIfInBounds_toArray, List.set_cons_zero, List.set_cons_succ])
    refine wpAnyH_take (i := 1) (oi := { dst := some 25, op := _, type := _, pos := _, after := _, guard := _ }) (v := ?_) rfl (by kernel_rfl) (by kernel_rfl) (by kernel_rfl) (fun _ _ _ h => h) (Or.inl ⟨by rfl, ?_⟩) (by assumption) ?_
    rotate_left
    · intro w hSw; (try dsimp only at hSw); go_simp; (try with_reducible rfl)
    (try simp only [Act.put, List.setIfInBounds_toArray, List.set_cons_zero, List.set_cons_succ])
    refine wpAnyH_take (i := 3) (oi := { dst := some 27, op := _, type := _, pos := _, after := _, guard := _ }) (v := ?_) rfl (by kernel_rfl) (by kernel_rfl) (by kernel_rfl) (fun _ _ _ h => h) (Or.inl ⟨by rfl, ?_⟩) (by assumption) ?_
    rotate_left
    · intro w hSw; (try dsimp only at hSw); go_simp; (try with_reducible rfl)
    (try simp only [Act.put, List.setIfInBounds_toArray, List.set_cons_zero, List.set_cons_succ])
    refine wpAnyH_take (i := 4) (oi := { dst := some 28, op := _, type := _, pos := _, after := _, guard := _ }) (v := ?_) rfl (by kernel_rfl) (by kernel_rfl) (by kernel_rfl) (fun _ _ _ h => h) (Or.inl ⟨by rfl, ?_⟩) (by assumption) ?_
    rotate_left
    · intro w hSw; (try dsimp only at hSw); go_simp; (try with_reducible rfl)
    (try simp only [Act.put, List.setIfInBounds_toArray, List.set_cons_zero, List.set_cons_succ])
    refine wpAnyH_take (i := 6) (oi := { dst := some 30, op := _, type := _, pos := _, after := _, guard := _ }) (v := ?_) rfl (by kernel_rfl) (by kernel_rfl) (by kernel_rfl) (fun _ _ _ h => h) (Or.inl ⟨by rfl, ?_⟩) (by assumption) ?_
    rotate_left
    · intro w hSw; (try dsimp only at hSw); go_simp; (try with_reducible rfl)
    (try simp only [Act.put, List.setIfInBounds_toArray, List.set_cons_zero, List.set_cons_succ])
    refine wpAnyH_ready (rs := [2, 7]) (by kernel_rfl) (by simp) ?_
    refine AllReadyH.cons rfl (fun K hK => ?_) (AllReadyH.cons rfl (fun K hK => ?_) AllReadyH.nil)
    · go_simp
      refine (B1.out _ hHeld).mono ?_
      rintro e w10 ⟨rfl, hb10, hq10⟩
      try replace hrB := hrB.step hb10
      dsimp only
      refine hK.out _ _ hq10 (fun hHeld => ?_)
      clear hK K
      (try simp only [Act.put, List.setIfInBounds_toArray, List.set_cons_zero, List.set_cons_succ])
      refine wpAnyH_ready (rs := [5, 7]) (by kernel_rfl) (by simp) ?_
      refine AllReadyH.cons rfl (fun K hK => ?_) (AllReadyH.cons rfl (fun K hK => ?_) AllReadyH.nil)
      · go_simp
        refine (B2.out _ hHeld).mono ?_
        rintro e w11 ⟨A11, c11, rfl, ho11, hb11, hq11⟩
        try replace hrB := hrB.step hb11
        dsimp only
        refine hK.out _ _ hq11 (fun hHeld => ?_)
        clear hK K
        (try simp only [Act.put, List.setIfInBounds_toArray, List.set_cons_zero, List.set_cons_succ])
        refine wpAnyH_ready (rs := [7]) (by kernel_rfl) (by simp) ?_
        refine AllReadyH.cons rfl (fun K hK => ?_) AllReadyH.nil
        have hrB := new_bindH hHeld HNM.out HX.out
        try replace ho11 := own_stepR ho11 ((Below.refl _ _).alloc (Nat.le_refl _) (.cells #[.string name, .int .i64 x] 38)) (Nat.le_refl _)
        go_simp
        refine hK.out _ _ (hHeld.alloc _) (fun hHeld => ?_)
        clear hK K
        (try simp only [Act.put, List.setIfInBounds_toArray, List.set_cons_zero, List.set_cons_succ])
        refine wpAnyH_ready (rs := [8]) (by kernel_rfl) (by simp) ?_
        refine AllReadyH.cons rfl (fun K hK => ?_) AllReadyH.nil
        obtain ⟨A15, c15, w15, hr15, hx15, hq15⟩ := B3.out _ _ _ _ 1 hHeld ho11 hrB
        rw [if_pos (by rfl)]
        refine Lib.wp_append_run _ _ _ _ _ rfl _ _ rfl rfl _ _ hr15 ?_
        refine hK.out _ _ (hq15) (fun hHeld => ?_)
        clear hK K
        (try simp only [Act.put, List.setIfInBounds_toArray, List.set_cons_zero, List.set_cons_succ])
        refine wpAnyH_ready (rs := [9]) (by kernel_rfl) (by simp) ?_
        refine AllReadyH.cons rfl (fun K hK => ?_) AllReadyH.nil
        go_simp
        refine (B4.out _ _ _ hHeld hx15).mono ?_
        rintro e w16 ⟨rfl, hq16⟩
        dsimp only
        refine hK.out _ _ hq16 (fun hHeld => ?_)
        clear hK K
        (try simp only [Act.put, List.setIfInBounds_toArray, List.set_cons_zero, List.set_cons_succ])
        refine wpAnyH_take (i := 10) (oi := { dst := some 34, op := _, type := _, pos := _, after := _, guard := _ }) (v := ?_) rfl (by kernel_rfl) (by kernel_rfl) (by kernel_rfl) (fun _ _ _ h => h) (Or.inl ⟨by rfl, ?_⟩) (by assumption) ?_
        rotate_left
        · intro w hSw; (try dsimp only at hSw); go_simp; (try with_reducible rfl)
        (try simp only [Act.put, List.setIfInBounds_toArray, List.set_cons_zero, List.set_cons_succ])
        refine wpAnyH_take (i := 11) (oi := { dst := some 35, op := _, type := _, pos := _, after := _, guard := _ }) (v := ?_) rfl (by kernel_rfl) (by kernel_rfl) (by kernel_rfl) (fun _ _ _ h => h) (Or.inl ⟨by rfl, ?_⟩) (by assumption) ?_
        rotate_left
        · intro w hSw; (try dsimp only at hSw); go_simp; (try with_reducible rfl)
        (try simp only [Act.put, List.setIfInBounds_toArray, List.set_cons_zero, List.set_cons_succ])
        refine wpAnyH_take (i := 12) (oi := { dst := some 36, op := _, type := _, pos := _, after := _, guard := _ }) (v := ?_) rfl (by kernel_rfl) (by kernel_rfl) (by kernel_rfl) (fun _ _ _ h => h) (Or.inl ⟨by rfl, ?_⟩) (by assumption) ?_
        rotate_left
        · intro w hSw; (try dsimp only at hSw); go_simp; (try with_reducible rfl)
        (try simp only [Act.put, List.setIfInBounds_toArray, List.set_cons_zero, List.set_cons_succ])
        refine wpAnyH_take (i := 13) (oi := { dst := some 37, op := _, type := _, pos := _, after := _, guard := _ }) (v := ?_) rfl (by kernel_rfl) (by kernel_rfl) (by kernel_rfl) (fun _ _ _ h => h) (Or.inl ⟨by rfl, ?_⟩) (by assumption) ?_
        rotate_left
        · intro w hSw; (try dsimp only at hSw); go_simp; (try with_reducible rfl)
        (try simp only [Act.put, List.setIfInBounds_toArray, List.set_cons_zero, List.set_cons_succ])
        refine wpAnyH_take (i := 14) (oi := { dst := some 38, op := _, type := _, pos := _, after := _, guard := _ }) (v := ?_) rfl (by kernel_rfl) (by kernel_rfl) (by kernel_rfl) (fun _ _ _ h => h) (Or.inl ⟨by rfl, ?_⟩) (by assumption) ?_
        rotate_left
        · intro w hSw; (try dsimp only at hSw); go_simp; (try with_reducible rfl)
        (try simp only [Act.put, List.setIfInBounds_toArray, List.set_cons_zero, List.set_cons_succ])
        refine wpAnyH_take (i := 17) (oi := { dst := some 41, op := _, type := _, pos := _, after := _, guard := _ }) (v := ?_) rfl (by kernel_rfl) (by kernel_rfl) (by kernel_rfl) (fun _ _ _ h => h) (Or.inl ⟨by rfl, ?_⟩) (by assumption) ?_
        rotate_left
        · intro w hSw; (try dsimp only at hSw); go_simp; (try with_reducible rfl)
        (try simp only [Act.put, List.setIfInBounds_toArray, List.set_cons_zero, List.set_cons_succ])
        refine wpAnyH_ready (rs := [15]) (by kernel_rfl) (by simp) ?_
        refine AllReadyH.cons rfl (fun K hK => ?_) AllReadyH.nil
        go_simp
        refine (A3.out _ hHeld).mono ?_
        rintro e w17 ⟨g17, rfl, hg17, hq17⟩
        dsimp only
        refine hK.out _ _ hq17 (fun hHeld => ?_)
        clear hK K
        (try simp only [Act.put, List.setIfInBounds_toArray, List.set_cons_zero, List.set_cons_succ])
        refine wpAnyH_ready (rs := [16]) (by kernel_rfl) (by simp) ?_
        refine AllReadyH.cons rfl (fun K hK => ?_) AllReadyH.nil
        go_simp
        refine (A4.out _ _ hHeld hg17).mono ?_
        rintro e w18 ⟨g18, rfl, hx18, hb18, hq18⟩
        dsimp only
        refine hK.out _ _ hq18 (fun hHeld => ?_)
        clear hK K
        (try simp only [Act.put, List.setIfInBounds_toArray, List.set_cons_zero, List.set_cons_succ])
        refine wpAnyH_ready (rs := [18]) (by kernel_rfl) (by simp) ?_
        refine AllReadyH.cons rfl (fun K hK => ?_) AllReadyH.nil
        go_simp
        refine (B5.out _ hHeld).mono ?_
        rintro e w19 ⟨g19, rfl, hg19, hb19, hq19⟩
        replace hx18 := hx18.step hb19
        dsimp only
        refine hK.out _ _ hq19 (fun hHeld => ?_)
        clear hK K
        (try simp only [Act.put, List.setIfInBounds_toArray, List.set_cons_zero, List.set_cons_succ])
        refine wpAnyH_ready (rs := [19]) (by kernel_rfl) (by simp) ?_
        refine AllReadyH.cons rfl (fun K hK => ?_) AllReadyH.nil
        go_simp
        refine (B6.out _ _ hHeld hg19).mono ?_
        rintro e w20 ⟨g20, rfl, hx20, hb20, hq20⟩
        replace hx18 := hx18.step hb20
        dsimp only
        refine hK.out _ _ hq20 (fun hHeld => ?_)
        clear hK K
        (try simp only [Act.put, List.setIfInBounds_toArray, List.set_cons_zero, List.set_cons_succ])
        refine wpAnyH_ready (rs := [20]) (by kernel_rfl) (by simp) ?_
        refine AllReadyH.cons rfl (fun K hK => ?_) AllReadyH.nil
        go_simp
        refine (B7.out _ _ _ _ _ hHeld hx18 hx20).mono ?_
        rintro e w21 ⟨rfl, hq21⟩
        dsimp only
        refine hK.out _ _ hq21 (fun hHeld => ?_)
        clear hK K
        (try simp only [Act.put, List.setIfInBounds_toArray, List.set_cons_zero, List.set_cons_succ])
        refine wpAnyH_take (i := 21) (oi := { dst := some 45, op := _, type := _, pos := _, after := _, guard := _ }) (v := ?_) rfl (by kernel_rfl) (by kernel_rfl) (by kernel_rfl) (fun _ _ _ h => h) (Or.inl ⟨by rfl, ?_⟩) (by assumption) ?_
        rotate_left
        · intro w hSw; (try dsimp only at hSw); go_simp; (try with_reducible rfl)
        (try simp only [Act.put, List.setIfInBounds_toArray, List.set_cons_zero, List.set_cons_succ])
        refine wpAnyH_take (i := 22) (oi := { dst := some 6, op := _, type := _, pos := _, after := _, guard := _ }) (v := ?_) rfl (by kernel_rfl) (by kernel_rfl) (by kernel_rfl) (fun _ _ _ h => h) (Or.inl ⟨by rfl, ?_⟩) (by assumption) ?_
        rotate_left
        · intro w hSw; (try dsimp only at hSw); go_simp; (try with_reducible rfl)
        (try simp only [Act.put, List.setIfInBounds_toArray, List.set_cons_zero, List.set_cons_succ])
        refine wpAnyH_done (by kernel_rfl) ?_ _
        go_wp2_with fail
        go_ret
        exact ⟨rfl, HZ.out.trans (hHeld.bel.mono HZ.out.size)⟩
      · have hrB := new_bindH hHeld HNM.out HX.out
        try replace ho11 := own_stepR ho11 ((Below.refl _ _).alloc (Nat.le_refl _) (.cells #[.string name, .int .i64 x] 38)) (Nat.le_refl _)
        go_simp
        refine hK.out _ _ (hHeld.alloc _) (fun hHeld => ?_)
        clear hK K
        (try simp only [Act.put, List.setIfInBounds_toArray, List.set_cons_zero, List.set_cons_succ])
        refine wpAnyH_ready (rs := [5]) (by kernel_rfl) (by simp) ?_
        refine AllReadyH.cons rfl (fun K hK => ?_) AllReadyH.nil
        go_simp
        refine (B2.out _ hHeld).mono ?_
        rintro e w11 ⟨A11, c11, rfl, ho11, hb11, hq11⟩
        try replace hrB := hrB.step hb11
        dsimp only
        refine hK.out _ _ hq11 (fun hHeld => ?_)
        clear hK K
        (try simp only [Act.put, List.setIfInBounds_toArray, List.set_cons_zero, List.set_cons_succ])
        refine wpAnyH_ready (rs := [8]) (by kernel_rfl) (by simp) ?_
        refine AllReadyH.cons rfl (fun K hK => ?_) AllReadyH.nil
        obtain ⟨A15, c15, w15, hr15, hx15, hq15⟩ := B3.out _ _ _ _ 1 hHeld ho11 hrB
        rw [if_pos (by rfl)]
        refine Lib.wp_append_run _ _ _ _ _ rfl _ _ rfl rfl _ _ hr15 ?_
        refine hK.out _ _ (hq15) (fun hHeld => ?_)
        clear hK K
        (try simp only [Act.put, List.setIfInBounds_toArray, List.set_cons_zero, List.set_cons_succ])
        refine wpAnyH_ready (rs := [9]) (by kernel_rfl) (by simp) ?_
        refine AllReadyH.cons rfl (fun K hK => ?_) AllReadyH.nil
        go_simp
        refine (B4.out _ _ _ hHeld hx15).mono ?_
        rintro e w16 ⟨rfl, hq16⟩
        dsimp only
        refine hK.out _ _ hq16 (fun hHeld => ?_)
        clear hK K
        (try simp only [Act.put, List.setIfInBounds_toArray, List.set_cons_zero, List.set_cons_succ])
        refine wpAnyH_take (i := 10) (oi := { dst := some 34, op := _, type := _, pos := _, after := _, guard := _ }) (v := ?_) rfl (by kernel_rfl) (by kernel_rfl) (by kernel_rfl) (fun _ _ _ h => h) (Or.inl ⟨by rfl, ?_⟩) (by assumption) ?_
        rotate_left
        · intro w hSw; (try dsimp only at hSw); go_simp; (try with_reducible rfl)
        (try simp only [Act.put, List.setIfInBounds_toArray, List.set_cons_zero, List.set_cons_succ])
        refine wpAnyH_take (i := 11) (oi := { dst := some 35, op := _, type := _, pos := _, after := _, guard := _ }) (v := ?_) rfl (by kernel_rfl) (by kernel_rfl) (by kernel_rfl) (fun _ _ _ h => h) (Or.inl ⟨by rfl, ?_⟩) (by assumption) ?_
        rotate_left
        · intro w hSw; (try dsimp only at hSw); go_simp; (try with_reducible rfl)
        (try simp only [Act.put, List.setIfInBounds_toArray, List.set_cons_zero, List.set_cons_succ])
        refine wpAnyH_take (i := 12) (oi := { dst := some 36, op := _, type := _, pos := _, after := _, guard := _ }) (v := ?_) rfl (by kernel_rfl) (by kernel_rfl) (by kernel_rfl) (fun _ _ _ h => h) (Or.inl ⟨by rfl, ?_⟩) (by assumption) ?_
        rotate_left
        · intro w hSw; (try dsimp only at hSw); go_simp; (try with_reducible rfl)
        (try simp only [Act.put, List.setIfInBounds_toArray, List.set_cons_zero, List.set_cons_succ])
        refine wpAnyH_take (i := 13) (oi := { dst := some 37, op := _, type := _, pos := _, after := _, guard := _ }) (v := ?_) rfl (by kernel_rfl) (by kernel_rfl) (by kernel_rfl) (fun _ _ _ h => h) (Or.inl ⟨by rfl, ?_⟩) (by assumption) ?_
        rotate_left
        · intro w hSw; (try dsimp only at hSw); go_simp; (try with_reducible rfl)
        (try simp only [Act.put, List.setIfInBounds_toArray, List.set_cons_zero, List.set_cons_succ])
        refine wpAnyH_take (i := 14) (oi := { dst := some 38, op := _, type := _, pos := _, after := _, guard := _ }) (v := ?_) rfl (by kernel_rfl) (by kernel_rfl) (by kernel_rfl) (fun _ _ _ h => h) (Or.inl ⟨by rfl, ?_⟩) (by assumption) ?_
        rotate_left
        · intro w hSw; (try dsimp only at hSw); go_simp; (try with_reducible rfl)
        (try simp only [Act.put, List.setIfInBounds_toArray, List.set_cons_zero, List.set_cons_succ])
        refine wpAnyH_take (i := 17) (oi := { dst := some 41, op := _, type := _, pos := _, after := _, guard := _ }) (v := ?_) rfl (by kernel_rfl) (by kernel_rfl) (by kernel_rfl) (fun _ _ _ h => h) (Or.inl ⟨by rfl, ?_⟩) (by assumption) ?_
        rotate_left
        · intro w hSw; (try dsimp only at hSw); go_simp; (try with_reducible rfl)
        (try simp only [Act.put, List.setIfInBounds_toArray, List.set_cons_zero, List.set_cons_succ])
        refine wpAnyH_ready (rs := [15]) (by kernel_rfl) (by simp) ?_
        refine AllReadyH.cons rfl (fun K hK => ?_) AllReadyH.nil
        go_simp
        refine (A3.out _ hHeld).mono ?_
        rintro e w17 ⟨g17, rfl, hg17, hq17⟩
        dsimp only
        refine hK.out _ _ hq17 (fun hHeld => ?_)
        clear hK K
        (try simp only [Act.put, List.setIfInBounds_toArray, List.set_cons_zero, List.set_cons_succ])
        refine wpAnyH_ready (rs := [16]) (by kernel_rfl) (by simp) ?_
        refine AllReadyH.cons rfl (fun K hK => ?_) AllReadyH.nil
        go_simp
        refine (A4.out _ _ hHeld hg17).mono ?_
        rintro e w18 ⟨g18, rfl, hx18, hb18, hq18⟩
        dsimp only
        refine hK.out _ _ hq18 (fun hHeld => ?_)
        clear hK K
        (try simp only [Act.put, List.setIfInBounds_toArray, List.set_cons_zero, List.set_cons_succ])
        refine wpAnyH_ready (rs := [18]) (by kernel_rfl) (by simp) ?_
        refine AllReadyH.cons rfl (fun K hK => ?_) AllReadyH.nil
        go_simp
        refine (B5.out _ hHeld).mono ?_
        rintro e w19 ⟨g19, rfl, hg19, hb19, hq19⟩
        replace hx18 := hx18.step hb19
        dsimp only
        refine hK.out _ _ hq19 (fun hHeld => ?_)
        clear hK K
        (try simp only [Act.put, List.setIfInBounds_toArray, List.set_cons_zero, List.set_cons_succ])
        refine wpAnyH_ready (rs := [19]) (by kernel_rfl) (by simp) ?_
        refine AllReadyH.cons rfl (fun K hK => ?_) AllReadyH.nil
        go_simp
        refine (B6.out _ _ hHeld hg19).mono ?_
        rintro e w20 ⟨g20, rfl, hx20, hb20, hq20⟩
        replace hx18 := hx18.step hb20
        dsimp only
        refine hK.out _ _ hq20 (fun hHeld => ?_)
        clear hK K
        (try simp only [Act.put, List.setIfInBounds_toArray, List.set_cons_zero, List.set_cons_succ])
        refine wpAnyH_ready (rs := [20]) (by kernel_rfl) (by simp) ?_
        refine AllReadyH.cons rfl (fun K hK => ?_) AllReadyH.nil
        go_simp
        refine (B7.out _ _ _ _ _ hHeld hx18 hx20).mono ?_
        rintro e w21 ⟨rfl, hq21⟩
        dsimp only
        refine hK.out _ _ hq21 (fun hHeld => ?_)
        clear hK K
        (try simp only [Act.put, List.setIfInBounds_toArray, List.set_cons_zero, List.set_cons_succ])
        refine wpAnyH_take (i := 21) (oi := { dst := some 45, op := _, type := _, pos := _, after := _, guard := _ }) (v := ?_) rfl (by kernel_rfl) (by kernel_rfl) (by kernel_rfl) (fun _ _ _ h => h) (Or.inl ⟨by rfl, ?_⟩) (by assumption) ?_
        rotate_left
        · intro w hSw; (try dsimp only at hSw); go_simp; (try with_reducible rfl)
        (try simp only [Act.put, List.setIfInBounds_toArray, List.set_cons_zero, List.set_cons_succ])
        refine wpAnyH_take (i := 22) (oi := { dst := some 6, op := _, type := _, pos := _, after := _, guard := _ }) (v := ?_) rfl (by kernel_rfl) (by kernel_rfl) (by kernel_rfl) (fun _ _ _ h => h) (Or.inl ⟨by rfl, ?_⟩) (by assumption) ?_
        rotate_left
        · intro w hSw; (try dsimp only at hSw); go_simp; (try with_reducible rfl)
        (try simp only [Act.put, List.setIfInBounds_toArray, List.set_cons_zero, List.set_cons_succ])
        refine wpAnyH_done (by kernel_rfl) ?_ _
        go_wp2_with fail
        go_ret
        exact ⟨rfl, HZ.out.trans (hHeld.bel.mono HZ.out.size)⟩
    · have hrB := new_bindH hHeld HNM.out HX.out
      try replace ho11 := own_stepR ho11 ((Below.refl _ _).alloc (Nat.le_refl _) (.cells #[.string name, .int .i64 x] 38)) (Nat.le_refl _)
      go_simp
      refine hK.out _ _ (hHeld.alloc _) (fun hHeld => ?_)
      clear hK K
      (try simp only [Act.put, List.setIfInBounds_toArray, List.set_cons_zero, List.set_cons_succ])
      refine wpAnyH_ready (rs := [2]) (by kernel_rfl) (by simp) ?_
      refine AllReadyH.cons rfl (fun K hK => ?_) AllReadyH.nil
      go_simp
      refine (B1.out _ hHeld).mono ?_
      rintro e w10 ⟨rfl, hb10, hq10⟩
      try replace hrB := hrB.step hb10
      dsimp only
      refine hK.out _ _ hq10 (fun hHeld => ?_)
      clear hK K
      (try simp only [Act.put, List.setIfInBounds_toArray, List.set_cons_zero, List.set_cons_succ])
      refine wpAnyH_ready (rs := [5]) (by kernel_rfl) (by simp) ?_
      refine AllReadyH.cons rfl (fun K hK => ?_) AllReadyH.nil
      go_simp
      refine (B2.out _ hHeld).mono ?_
      rintro e w11 ⟨A11, c11, rfl, ho11, hb11, hq11⟩
      try replace hrB := hrB.step hb11
      dsimp only
      refine hK.out _ _ hq11 (fun hHeld => ?_)
      clear hK K
      (try simp only [Act.put, List.setIfInBounds_toArray, List.set_cons_zero, List.set_cons_succ])
      refine wpAnyH_ready (rs := [8]) (by kernel_rfl) (by simp) ?_
      refine AllReadyH.cons rfl (fun K hK => ?_) AllReadyH.nil
      obtain ⟨A15, c15, w15, hr15, hx15, hq15⟩ := B3.out _ _ _ _ 1 hHeld ho11 hrB
      rw [if_pos (by rfl)]
      refine Lib.wp_append_run _ _ _ _ _ rfl _ _ rfl rfl _ _ hr15 ?_
      refine hK.out _ _ (hq15) (fun hHeld => ?_)
      clear hK K
      (try simp only [Act.put, List.setIfInBounds_toArray, List.set_cons_zero, List.set_cons_succ])
      refine wpAnyH_ready (rs := [9]) (by kernel_rfl) (by simp) ?_
      refine AllReadyH.cons rfl (fun K hK => ?_) AllReadyH.nil
      go_simp
      refine (B4.out _ _ _ hHeld hx15).mono ?_
      rintro e w16 ⟨rfl, hq16⟩
      dsimp only
      refine hK.out _ _ hq16 (fun hHeld => ?_)
      clear hK K
      (try simp only [Act.put, List.setIfInBounds_toArray, List.set_cons_zero, List.set_cons_succ])
      refine wpAnyH_take (i := 10) (oi := { dst := some 34, op := _, type := _, pos := _, after := _, guard := _ }) (v := ?_) rfl (by kernel_rfl) (by kernel_rfl) (by kernel_rfl) (fun _ _ _ h => h) (Or.inl ⟨by rfl, ?_⟩) (by assumption) ?_
      rotate_left
      · intro w hSw; (try dsimp only at hSw); go_simp; (try with_reducible rfl)
      (try simp only [Act.put, List.setIfInBounds_toArray, List.set_cons_zero, List.set_cons_succ])
      refine wpAnyH_take (i := 11) (oi := { dst := some 35, op := _, type := _, pos := _, after := _, guard := _ }) (v := ?_) rfl (by kernel_rfl) (by kernel_rfl) (by kernel_rfl) (fun _ _ _ h => h) (Or.inl ⟨by rfl, ?_⟩) (by assumption) ?_
      rotate_left
      · intro w hSw; (try dsimp only at hSw); go_simp; (try with_reducible rfl)
      (try simp only [Act.put, List.setIfInBounds_toArray, List.set_cons_zero, List.set_cons_succ])
      refine wpAnyH_take (i := 12) (oi := { dst := some 36, op := _, type := _, pos := _, after := _, guard := _ }) (v := ?_) rfl (by kernel_rfl) (by kernel_rfl) (by kernel_rfl) (fun _ _ _ h => h) (Or.inl ⟨by rfl, ?_⟩) (by assumption) ?_
      rotate_left
      · intro w hSw; (try dsimp only at hSw); go_simp; (try with_reducible rfl)
      (try simp only [Act.put, List.setIfInBounds_toArray, List.set_cons_zero, List.set_cons_succ])
      refine wpAnyH_take (i := 13) (oi := { dst := some 37, op := _, type := _, pos := _, after := _, guard := _ }) (v := ?_) rfl (by kernel_rfl) (by kernel_rfl) (by kernel_rfl) (fun _ _ _ h => h) (Or.inl ⟨by rfl, ?_⟩) (by assumption) ?_
      rotate_left
      · intro w hSw; (try dsimp only at hSw); go_simp; (try with_reducible rfl)
      (try simp only [Act.put, List.setIfInBounds_toArray, List.set_cons_zero, List.set_cons_succ])
      refine wpAnyH_take (i := 14) (oi := { dst := some 38, op := _, type := _, pos := _, after := _, guard := _ }) (v := ?_) rfl (by kernel_rfl) (by kernel_rfl) (by kernel_rfl) (fun _ _ _ h => h) (Or.inl ⟨by rfl, ?_⟩) (by assumption) ?_
      rotate_left
      · intro w hSw; (try dsimp only at hSw); go_simp; (try with_reducible rfl)
      (try simp only [Act.put, List.setIfInBounds_toArray, List.set_cons_zero, List.set_cons_succ])
      refine wpAnyH_take (i := 17) (oi := { dst := some 41, op := _, type := _, pos := _, after := _, guard := _ }) (v := ?_) rfl (by kernel_rfl) (by kernel_rfl) (by kernel_rfl) (fun _ _ _ h => h) (Or.inl ⟨by rfl, ?_⟩) (by assumption) ?_
      rotate_left
      · intro w hSw; (try dsimp only at hSw); go_simp; (try with_reducible rfl)
      (try simp only [Act.put, List.setIfInBounds_toArray, List.set_cons_zero, List.set_cons_succ])
      refine wpAnyH_ready (rs := [15]) (by kernel_rfl) (by simp) ?_
      refine AllReadyH.cons rfl (fun K hK => ?_) AllReadyH.nil
      go_simp
      refine (A3.out _ hHeld).mono ?_
      rintro e w17 ⟨g17, rfl, hg17, hq17⟩
      dsimp only
      refine hK.out _ _ hq17 (fun hHeld => ?_)
      clear hK K
      (try simp only [Act.put, List.setIfInBounds_toArray, List.set_cons_zero, List.set_cons_succ])
      refine wpAnyH_ready (rs := [16]) (by kernel_rfl) (by simp) ?_
      refine AllReadyH.cons rfl (fun K hK => ?_) AllReadyH.nil
      go_simp
      refine (A4.out _ _ hHeld hg17).mono ?_
      rintro e w18 ⟨g18, rfl, hx18, hb18, hq18⟩
      dsimp only
      refine hK.out _ _ hq18 (fun hHeld => ?_)
      clear hK K
      (try simp only [Act.put, List.setIfInBounds_toArray, List.set_cons_zero, List.set_cons_succ])
      refine wpAnyH_ready (rs := [18]) (by kernel_rfl) (by simp) ?_
      refine AllReadyH.cons rfl (fun K hK => ?_) AllReadyH.nil
      go_simp
      refine (B5.out _ hHeld).mono ?_
      rintro e w19 ⟨g19, rfl, hg19, hb19, hq19⟩
      replace hx18 := hx18.step hb19
      dsimp only
      refine hK.out _ _ hq19 (fun hHeld => ?_)
      clear hK K
      (try simp only [Act.put, List.setIfInBounds_toArray, List.set_cons_zero, List.set_cons_succ])
      refine wpAnyH_ready (rs := [19]) (by kernel_rfl) (by simp) ?_
      refine AllReadyH.cons rfl (fun K hK => ?_) AllReadyH.nil
      go_simp
      refine (B6.out _ _ hHeld hg19).mono ?_
      rintro e w20 ⟨g20, rfl, hx20, hb20, hq20⟩
      replace hx18 := hx18.step hb20
      dsimp only
      refine hK.out _ _ hq20 (fun hHeld => ?_)
      clear hK K
      (try simp only [Act.put, List.setIfInBounds_toArray, List.set_cons_zero, List.set_cons_succ])
      refine wpAnyH_ready (rs := [20]) (by kernel_rfl) (by simp) ?_
      refine AllReadyH.cons rfl (fun K hK => ?_) AllReadyH.nil
      go_simp
      refine (B7.out _ _ _ _ _ hHeld hx18 hx20).mono ?_
      rintro e w21 ⟨rfl, hq21⟩
      dsimp only
      refine hK.out _ _ hq21 (fun hHeld => ?_)
      clear hK K
      (try simp only [Act.put, List.setIfInBounds_toArray, List.set_cons_zero, List.set_cons_succ])
      refine wpAnyH_take (i := 21) (oi := { dst := some 45, op := _, type := _, pos := _, after := _, guard := _ }) (v := ?_) rfl (by kernel_rfl) (by kernel_rfl) (by kernel_rfl) (fun _ _ _ h => h) (Or.inl ⟨by rfl, ?_⟩) (by assumption) ?_
      rotate_left
      · intro w hSw; (try dsimp only at hSw); go_simp; (try with_reducible rfl)
      (try simp only [Act.put, List.setIfInBounds_toArray, List.set_cons_zero, List.set_cons_succ])
      refine wpAnyH_take (i := 22) (oi := { dst := some 6, op := _, type := _, pos := _, after := _, guard := _ }) (v := ?_) rfl (by kernel_rfl) (by kernel_rfl) (by kernel_rfl) (fun _ _ _ h => h) (Or.inl ⟨by rfl, ?_⟩) (by assumption) ?_
      rotate_left
      · intro w hSw; (try dsimp only at hSw); go_simp; (try with_reducible rfl)
      (try simp only [Act.put, List.setIfInBounds_toArray, List.set_cons_zero, List.set_cons_succ])
      refine wpAnyH_done (by kernel_rfl) ?_ _
      go_wp2_with fail
      go_ret
      exact ⟨rfl, HZ.out.trans (hHeld.bel.mono HZ.out.size)⟩
end Go.Proofs.Ytinbcdadffljhaa
