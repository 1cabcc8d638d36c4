/-
  The law ExprRing.
-/
import Derived.Test.YtinbcdadffljhaaExRg
namespace Go.Proofs.Ytinbcdadffljhaa
open Go.RowKit Go.Shelf
set_option maxRecDepth 100000

/-- the three boxes, that of the bindings, and those of q and r -/
abbrev HeldQ (D : Nat) (w7 : World) (a b c : Eh) (v : Value) (E F : Nat) (g k : Eh) (W : World) : Prop :=
  W.cell? ⟨D, 0, none⟩ = some (.int .i64 a.k) ∧ W.cell? ⟨D, 1, none⟩ = some (.int .i64 a.n) ∧ W.cell? ⟨D, 2, none⟩ = some (.string a.s) ∧ W.cell? ⟨D, 3, none⟩ = some (.slice a.A a.m a.cap) ∧
  W.cell? ⟨D + 1, 0, none⟩ = some (.int .i64 b.k) ∧ W.cell? ⟨D + 1, 1, none⟩ = some (.int .i64 b.n) ∧ W.cell? ⟨D + 1, 2, none⟩ = some (.string b.s) ∧ W.cell? ⟨D + 1, 3, none⟩ = some (.slice b.A b.m b.cap) ∧
  W.cell? ⟨D + 1 + 1, 0, none⟩ = some (.int .i64 c.k) ∧ W.cell? ⟨D + 1 + 1, 1, none⟩ = some (.int .i64 c.n) ∧ W.cell? ⟨D + 1 + 1, 2, none⟩ = some (.string c.s) ∧ W.cell? ⟨D + 1 + 1, 3, none⟩ = some (.slice c.A c.m c.cap) ∧
  W.cell? ⟨D + 1 + 1 + 1, 0, none⟩ = some v ∧ W.cell? ⟨E, 0, none⟩ = some (.int .i64 g.k) ∧ W.cell? ⟨E, 1, none⟩ = some (.int .i64 g.n) ∧ W.cell? ⟨E, 2, none⟩ = some (.string g.s) ∧ W.cell? ⟨E, 3, none⟩ = some (.slice g.A g.m g.cap) ∧
  W.cell? ⟨F, 0, none⟩ = some (.int .i64 k.k) ∧ W.cell? ⟨F, 1, none⟩ = some (.int .i64 k.n) ∧ W.cell? ⟨F, 2, none⟩ = some (.string k.s) ∧ W.cell? ⟨F, 3, none⟩ = some (.slice k.A k.m k.cap) ∧ Below w7.heap.size w7 W ∧ D + 3 < w7.heap.size ∧ E < w7.heap.size ∧ F < w7.heap.size
section
variable {D E F : Nat} {w7 W W2 : World} {a b c g k : Eh} {v : Value}
theorem HeldQ.bel (h : HeldQ D w7 a b c v E F g k W) : Below w7.heap.size w7 W := by
  obtain ⟨_, _, _, _, _, _, _, _, _, _, _, _, _, _, _, _, _, _, _, _, _, hb, _⟩ := h
  exact hb
theorem HeldQ.env (h : HeldQ D w7 a b c v E F g k W) : W.cell? ⟨D + 1 + 1 + 1, 0, none⟩ = some v ∧ D + 1 + 1 + 1 < W.heap.size := by
  obtain ⟨_, _, _, _, _, _, _, _, _, _, _, _, e0, _, _, _, _, _, _, _, _, hb, hl, _⟩ := h
  have := hb.size
  exact ⟨e0, by omega⟩
theorem HeldQ.step (h : HeldQ D w7 a b c v E F g k W) (hw' : Below W.heap.size W W2) : HeldQ D w7 a b c v E F g k W2 := by
  obtain ⟨a0, a1, a2, a3, b0, b1, b2, b3, c0, c1, c2, c3, e0, g0, g1, g2, g3, k0, k1, k2, k3, hb, hl, hE, hF⟩ := h
  have hw := hw'.mono hb.size
  have q : ∀ q x, q ≤ D + 3 → W2.cell? ⟨q, x, none⟩ = W.cell? ⟨q, x, none⟩ := fun q x hq => hw.cell (p := ⟨q, x, none⟩) (by show q < _; omega)
  have qE : ∀ x, W2.cell? ⟨E, x, none⟩ = W.cell? ⟨E, x, none⟩ := fun x => hw.cell (p := ⟨E, x, none⟩) hE
  have qF : ∀ x, W2.cell? ⟨F, x, none⟩ = W.cell? ⟨F, x, none⟩ := fun x => hw.cell (p := ⟨F, x, none⟩) hF
  exact ⟨(q _ _ (by omega)).trans a0, (q _ _ (by omega)).trans a1, (q _ _ (by omega)).trans a2, (q _ _ (by omega)).trans a3, (q _ _ (by omega)).trans b0, (q _ _ (by omega)).trans b1, (q _ _ (by omega)).trans b2, (q _ _ (by omega)).trans b3,
    (q _ _ (by omega)).trans c0, (q _ _ (by omega)).trans c1, (q _ _ (by omega)).trans c2, (q _ _ (by omega)).trans c3, (q _ _ (by omega)).trans e0, (qE _).trans g0, (qE _).trans g1, (qE _).trans g2, (qE _).trans g3, (qF _).trans k0, (qF _).trans k1, (qF _).trans k2, (qF _).trans k3, hb.trans hw, hl, hE, hF⟩
theorem HeldQ.drew (h : HeldQ D w7 a b c v E F g k W) : HeldQ D w7 a b c v E F g k W.drew := h.step ⟨rfl, rfl, rfl, Nat.le_refl _, fun _ _ => rfl⟩
end

/-- what has come up of 'q, r := ..', and what it left -/
structure FR (w2 : World) (ha hb : Eh) (b2 b5 b6 b7 b8 : Bool) (v12 v13 v19 v22 : Value) (W : World) : Prop where
  f2 : b2 = true → ∃ g, v19 = .agg g.cells ∧ OutB W 6 ha hb g
  f5 : b5 = true → ∃ g, v22 = .agg g.cells ∧ OutB W 7 ha hb g
  f6 : b6 = true → ∃ D x, v12 = .pointer (some ⟨D, 0, none⟩) ∧ EB 24 W D x ∧ w2.heap.size ≤ D
  f7 : b7 = true → ∃ D x, v13 = .pointer (some ⟨D, 0, none⟩) ∧ EB 24 W D x ∧ w2.heap.size ≤ D
  f67 : b6 = true → b7 = true → ∀ D E, v12 = .pointer (some ⟨D, 0, none⟩) → v13 = .pointer (some ⟨E, 0, none⟩) → D ≠ E
  f8 : b8 = true → (b2 = true ∧ b6 = true) ∧ ∃ D g, v12 = .pointer (some ⟨D, 0, none⟩) ∧ v19 = .agg g.cells ∧ EB 24 W D g ∧ OutB W 6 ha hb g
theorem FR.step {w2 : World} {ha hb : Eh} {b2 b5 b6 b7 b8 : Bool} {v12 v13 v19 v22 : Value} {W W' : World} (h : FR w2 ha hb b2 b5 b6 b7 b8 v12 v13 v19 v22 W) (hb' : Below W.heap.size W W') : FR w2 ha hb b2 b5 b6 b7 b8 v12 v13 v19 v22 W' := by
  refine ⟨fun e => ?_, fun e => ?_, fun e => ?_, fun e => ?_, h.f67, fun e => ?_⟩
  · obtain ⟨g, h1, h2⟩ := h.f2 e; exact ⟨g, h1, h2.step hb'⟩
  · obtain ⟨g, h1, h2⟩ := h.f5 e; exact ⟨g, h1, h2.step hb'⟩
  · obtain ⟨D, x, h1, h2, h3⟩ := h.f6 e; exact ⟨D, x, h1, h2.step hb', h3⟩
  · obtain ⟨D, x, h1, h2, h3⟩ := h.f7 e; exact ⟨D, x, h1, h2.step hb', h3⟩
  · obtain ⟨hh, D, g, h1, h2, h3, h4⟩ := h.f8 e; exact ⟨hh, D, g, h1, h2, h3.step hb', h4.step hb'⟩
/-- both are laid -/
def LaidR (w2 : World) (ha hb : Eh) (v12 v13 : Value) (W : World) : Prop := ∃ D E g k, v12 = .pointer (some ⟨D, 0, none⟩) ∧ v13 = .pointer (some ⟨E, 0, none⟩) ∧ EB 24 W D g ∧ EB 24 W E k ∧ OutB W 6 ha hb g ∧ OutB W 7 ha hb k ∧ w2.heap.size ≤ D ∧ w2.heap.size ≤ E
theorem belowAl (w : World) (o : Obj) : Below w.heap.size w (w.alloc o) := (Below.refl _ w).alloc (Nat.le_refl _) _
theorem ptr_blk {D E : Nat} (e : Value.pointer (some ⟨D, 0, none⟩) = .pointer (some ⟨E, 0, none⟩)) : D = E := by
  injection e with e
  injection e with e
  injection e
theorem eb_other {T : TypeId} {W : World} {D E : Nat} {h : Eh} (hb : EB T W E h) (hne : E ≠ D) (g : Eh) : EB T (putEh W D g) E h := by
  unfold putEh EB
  rw [Below.heap_setCell _ _ _ _ hne, Below.heap_setCell _ _ _ _ hne, Below.heap_setCell _ _ _ _ hne, Below.heap_setCell _ _ _ _ hne]
  exact hb

set_option maxHeartbeats 16000000 in
theorem ering_any (TA TB TC : Xp) (a b c : Eh) (A : Option Addr) (cap : Nat) (env : List (ByteArray × Int)) (w : World) (hTA : EIn w w.heap.size TA a) (hTB : EIn w w.heap.size TB b) (hTC : EIn w w.heap.size TC c) (he : RdB w w.heap.size A env) (hl : env.length ≤ 1048576) (hc : env.length ≤ cap) :
    Calls Try.prog 8 #[.agg a.cells, .agg b.cells, .agg c.cells, .slice A env.length cap] w fun e w' => e = .returned (.bool true) ∧ Below w.heap.size w w' := by
  have HC := Lib.hid hc
  clear hc
  obtain ⟨x0, x1, x2, x3, x4, x5⟩ := a
  obtain ⟨y0, y1, y2, y3, y4, y5⟩ := b
  obtain ⟨z0, z1, z2, z3, z4, z5⟩ := c
  have key : ∃ w1, w1 = (((w.alloc (.cells (Eh.cells ⟨x0, x1, x2, x3, x4, x5⟩) 24)).alloc (.cells (Eh.cells ⟨y0, y1, y2, y3, y4, y5⟩) 24)).alloc (.cells (Eh.cells ⟨z0, z1, z2, z3, z4, z5⟩) 24)).alloc (.cells #[.slice A env.length cap] 25) ∧ Below w.heap.size w w1 ∧ HeldR w.heap.size w1 ⟨x0, x1, x2, x3, x4, x5⟩ ⟨y0, y1, y2, y3, y4, y5⟩ ⟨z0, z1, z2, z3, z4, z5⟩ (.slice A env.length cap) w1 := by
    refine ⟨_, rfl, ((((Below.refl _ _).alloc (Nat.le_refl _) _).alloc (by simp) _).alloc (by simp; omega) _).alloc (by simp; omega) _, ?_⟩
    have t1 := (((EB.new w 24 ⟨x0, x1, x2, x3, x4, x5⟩).alloc (.cells (Eh.cells ⟨y0, y1, y2, y3, y4, y5⟩) 24)).alloc (.cells (Eh.cells ⟨z0, z1, z2, z3, z4, z5⟩) 24)).alloc (.cells #[.slice A env.length cap] 25)
    have u1 := ((EB.new (w.alloc (.cells (Eh.cells ⟨x0, x1, x2, x3, x4, x5⟩) 24)) 24 ⟨y0, y1, y2, y3, y4, y5⟩).alloc (.cells (Eh.cells ⟨z0, z1, z2, z3, z4, z5⟩) 24)).alloc (.cells #[.slice A env.length cap] 25)
    have v1 := (EB.new ((w.alloc (.cells (Eh.cells ⟨x0, x1, x2, x3, x4, x5⟩) 24)).alloc (.cells (Eh.cells ⟨y0, y1, y2, y3, y4, y5⟩) 24)) 24 ⟨z0, z1, z2, z3, z4, z5⟩).alloc (.cells #[.slice A env.length cap] 25)
    have e1 := World.alloc_heap_new (((w.alloc (.cells (Eh.cells ⟨x0, x1, x2, x3, x4, x5⟩) 24)).alloc (.cells (Eh.cells ⟨y0, y1, y2, y3, y4, y5⟩) 24)).alloc (.cells (Eh.cells ⟨z0, z1, z2, z3, z4, z5⟩) 24)) (.cells #[.slice A env.length cap] 25)
    simp only [World.size_alloc] at u1 v1 e1
    have c3 : ((((w.alloc (.cells (Eh.cells ⟨x0, x1, x2, x3, x4, x5⟩) 24)).alloc (.cells (Eh.cells ⟨y0, y1, y2, y3, y4, y5⟩) 24)).alloc (.cells (Eh.cells ⟨z0, z1, z2, z3, z4, z5⟩) 24)).alloc (.cells #[.slice A env.length cap] 25)).cell? ⟨w.heap.size + 1 + 1 + 1, 0, none⟩ = some (.slice A env.length cap) := by simp only [World.cell?, e1]; rfl
    exact ⟨t1.c0, t1.c1, t1.c2, t1.c3, u1.c0, u1.c1, u1.c2, u1.c3, v1.c0, v1.c1, v1.c2, v1.c3, c3, Below.refl _ _, by simp only [World.size_alloc]; omega⟩
  obtain ⟨w1, hw1, hb1, hH1⟩ := key
  have HB1 := Lib.hid hb1
  replace hTA := hTA.step hb1
  replace hTB := hTB.step hb1
  replace hTC := hTC.step hb1
  replace he := he.step hb1
  have A0 := alive9_any w1
  have HW := Lib.hid hw1
  obtain ⟨N, hN⟩ : ∃ N, N = env.length := ⟨_, rfl⟩
  rw [← hN] at hH1 ⊢
  have HN := Lib.hid hN
  have HL := Lib.hid hl
  clear hw1 hb1 hN hl
  go_enter Try.func8, Try.ntmps8
  go_upto_region 1 with fail
  rw [show (((w.alloc _).alloc _).alloc _).alloc _ = w1 from by rw [HN.out]; exact HW.out.symm]
  go_wp2_with fail
  refine A0.mono ?_
  rintro e w2 ⟨rfl, hb2⟩
  replace hTA := hTA.step hb2
  replace hTB := hTB.step hb2
  replace hTC := hTC.step hb2
  replace he := he.step hb2
  have HZ := Lib.hid (HB1.out.trans (hb2.mono HB1.out.size))
  have hk := hH1.step hb2
  have hH0 : HeldR w.heap.size w2 ⟨x0, x1, x2, x3, x4, x5⟩ ⟨y0, y1, y2, y3, y4, y5⟩ ⟨z0, z1, z2, z3, z4, z5⟩ (.slice A N cap) w2 := by
    obtain ⟨a0, a1, a2, a3, b0, b1, b2', b3, c0, c1, c2, c3, e0, hbb, hll⟩ := hk
    exact ⟨a0, a1, a2, a3, b0, b1, b2', b3, c0, c1, c2, c3, e0, Below.refl _ _, Nat.lt_of_lt_of_le hll hb2.size⟩
  clear A0 hk hH1 hb2
  go_upto_region 6 with fail
  have hb0 := Below.refl w2.heap.size w2
  have B6 := Lib.hid (fun W => bothO_any 6 ⟨x0, x1, x2, x3, x4, x5⟩ ⟨y0, y1, y2, y3, y4, y5⟩ W)
  have B7 := Lib.hid (fun W => bothO_any 7 ⟨x0, x1, x2, x3, x4, x5⟩ ⟨y0, y1, y2, y3, y4, y5⟩ W)
  refine wp_region_held_drew (S := HeldR w.heap.size w2 ⟨x0, x1, x2, x3, x4, x5⟩ ⟨y0, y1, y2, y3, y4, y5⟩ ⟨z0, z1, z2, z3, z4, z5⟩ (.slice A N cap)) (by kernel_rfl) (HeldR.drew hH0) (fun hHeld => ?_)
  refine wpAnyH_take (i := 0) (oi := { dst := some 17, op := _, type := _, pos := _, after := _, guard := _ }) (v := ?_) rfl (by kernel_rfl) (by kernel_rfl) (by kernel_rfl) (fun _ _ _ h => h) (Or.inl ⟨by rfl, ?_⟩) (by assumption) ?_
  rotate_left
  · intro w hSw; (try dsimp only at hSw); go_simp; (try with_reducible rfl)
  (try simp only [Act.put, List.setIfInBounds_toArray, List.set_cons_zero, List.set_cons_succ])
  refine wpAnyH_take (i := 1) (oi := { dst := some 18, op := _, type := _, pos := _, after := _, guard := _ }) (v := ?_) rfl (by kernel_rfl) (by kernel_rfl) (by kernel_rfl) (fun _ _ _ h => h) (Or.inl ⟨by rfl, ?_⟩) (by assumption) ?_
  rotate_left
  · intro w hSw; (try dsimp only at hSw); go_simp; (try with_reducible rfl)
  (try simp only [Act.put, List.setIfInBounds_toArray, List.set_cons_zero, List.set_cons_succ])
  refine wpAnyH_take (i := 3) (oi := { dst := some 20, op := _, type := _, pos := _, after := _, guard := _ }) (v := ?_) rfl (by kernel_rfl) (by kernel_rfl) (by kernel_rfl) (fun _ _ _ h => h) (Or.inl ⟨by rfl, ?_⟩) (by assumption) ?_
  rotate_left
  · intro w hSw; (try dsimp only at hSw); go_simp; (try with_reducible rfl)
  (try simp only [Act.put, List.setIfInBounds_toArray, List.set_cons_zero, List.set_cons_succ])
  refine wpAnyH_take (i := 4) (oi := { dst := some 21, op := _, type := _, pos := _, after := _, guard := _ }) (v := ?_) rfl (by kernel_rfl) (by kernel_rfl) (by kernel_rfl) (fun _ _ _ h => h) (Or.inl ⟨by rfl, ?_⟩) (by assumption) ?_
  rotate_left
  · intro w hSw; (try dsimp only at hSw); go_simp; (try with_reducible rfl)
  (try simp only [Act.put, List.setIfInBounds_toArray, List.set_cons_zero, List.set_cons_succ])
  refine wpAnyH_inv (I := fun listed a W => (∃ (b2 b5 b6 b7 b8 : Bool) (v12 v13 v19 v22 : Value), listed = #[true, true, b2, true, true, b5, b6, b7, b8, false] ∧ a = ({ tmps := #[.agg (Eh.cells ⟨x0, x1, x2, x3, x4, x5⟩), .agg (Eh.cells ⟨y0, y1, y2, y3, y4, y5⟩), .agg (Eh.cells ⟨z0, z1, z2, z3, z4, z5⟩), .slice A N cap, .pointer (some ⟨w.heap.size, 0, none⟩), .pointer (some ⟨w.heap.size + 1, 0, none⟩), .pointer (some ⟨w.heap.size + 1 + 1, 0, none⟩), .pointer (some ⟨w.heap.size + 1 + 1 + 1, 0, none⟩), .bool false, .func (Fn.func 24) #[] #[.pointer (some ⟨w.heap.size + 1 + 1 + 1, 0, none⟩)], .func (Fn.func 25) #[] #[], .func (Fn.func 27) #[] #[], v12, v13, .bool true, .bool false, .func (Fn.func 24) #[] #[.pointer (some ⟨w.heap.size + 1 + 1 + 1, 0, none⟩)], .agg #[.int .i64 x0, .int .i64 x1, .string x2, .slice x3 x4 x5], .agg #[.int .i64 y0, .int .i64 y1, .string y2, .slice y3 y4 y5], v19, .agg #[.int .i64 x0, .int .i64 x1, .string x2, .slice x3 x4 x5], .agg #[.int .i64 y0, .int .i64 y1, .string y2, .slice y3 y4 y5], v22, undef, undef, undef, undef, undef, undef, undef, undef, undef, undef, undef, undef, undef, undef, undef, undef, undef, undef, undef, undef, undef, undef, undef, undef, undef, undef, undef, undef, undef, undef, undef, undef, undef, undef, undef, undef, undef, undef, undef, undef, undef, undef, undef, undef, undef, undef, undef, undef, undef, undef, undef, undef, undef, undef, undef, undef, undef, undef, undef, undef, undef, undef, undef, undef, undef, undef, undef, undef, undef, undef, undef, undef, undef, undef, undef, undef, undef, undef, undef, undef, undef, undef, undef, undef, undef, undef, undef, undef, undef, undef, undef, undef], defers := [] } : Act) ∧ FR w2 ⟨x0, x1, x2, x3, x4, x5⟩ ⟨y0, y1, y2, y3, y4, y5⟩ b2 b5 b6 b7 b8 v12 v13 v19 v22 W ∧ HeldR w.heap.size w2 ⟨x0, x1, x2, x3, x4, x5⟩ ⟨y0, y1, y2, y3, y4, y5⟩ ⟨z0, z1, z2, z3, z4, z5⟩ (.slice A N cap) W) ∨ (∃ (v12 v13 v19 v22 : Value), listed = #[true, true, true, true, true, true, true, true, true, true] ∧ a = ({ tmps := #[.agg (Eh.cells ⟨x0, x1, x2, x3, x4, x5⟩), .agg (Eh.cells ⟨y0, y1, y2, y3, y4, y5⟩), .agg (Eh.cells ⟨z0, z1, z2, z3, z4, z5⟩), .slice A N cap, .pointer (some ⟨w.heap.size, 0, none⟩), .pointer (some ⟨w.heap.size + 1, 0, none⟩), .pointer (some ⟨w.heap.size + 1 + 1, 0, none⟩), .pointer (some ⟨w.heap.size + 1 + 1 + 1, 0, none⟩), .bool false, .func (Fn.func 24) #[] #[.pointer (some ⟨w.heap.size + 1 + 1 + 1, 0, none⟩)], .func (Fn.func 25) #[] #[], .func (Fn.func 27) #[] #[], v12, v13, .bool true, .bool false, .func (Fn.func 24) #[] #[.pointer (some ⟨w.heap.size + 1 + 1 + 1, 0, none⟩)], .agg #[.int .i64 x0, .int .i64 x1, .string x2, .slice x3 x4 x5], .agg #[.int .i64 y0, .int .i64 y1, .string y2, .slice y3 y4 y5], v19, .agg #[.int .i64 x0, .int .i64 x1, .string x2, .slice x3 x4 x5], .agg #[.int .i64 y0, .int .i64 y1, .string y2, .slice y3 y4 y5], v22, undef, undef, undef, undef, undef, undef, undef, undef, undef, undef, undef, undef, undef, undef, undef, undef, undef, undef, undef, undef, undef, undef, undef, undef, undef, undef, undef, undef, undef, undef, undef, undef, undef, undef, undef, undef, undef, undef, undef, undef, undef, undef, undef, undef, undef, undef, undef, undef, undef, undef, undef, undef, undef, undef, undef, undef, undef, undef, undef, undef, undef, undef, undef, undef, undef, undef, undef, undef, undef, undef, undef, undef, undef, undef, undef, undef, undef, undef, undef, undef, undef, undef, undef, undef, undef, undef, undef, undef, undef, undef, undef, undef], defers := [] } : Act) ∧ LaidR w2 ⟨x0, x1, x2, x3, x4, x5⟩ ⟨y0, y1, y2, y3, y4, y5⟩ v12 v13 W ∧ HeldR w.heap.size w2 ⟨x0, x1, x2, x3, x4, x5⟩ ⟨y0, y1, y2, y3, y4, y5⟩ ⟨z0, z1, z2, z3, z4, z5⟩ (.slice A N cap) W)) ?_ ?_ _ _ _ _ (by decide +kernel) (.inl ⟨false, false, false, false, false, undef, undef, undef, undef, rfl, rfl, ⟨fun h => (by cases h), fun h => (by cases h), fun h => (by cases h), fun h => (by cases h), fun h => (by cases h), fun h => (by cases h)⟩, hHeld⟩)
  · intro listed a W hI i o ho hf ha K hK
    have hi : i = 0 ∨ i = 1 ∨ i = 2 ∨ i = 3 ∨ i = 4 ∨ i = 5 ∨ i = 6 ∨ i = 7 ∨ i = 8 ∨ i = 9 := by
      have h1 := (Array.getElem?_eq_some_iff.1 ho).1
      have h2 : i < 10 := h1
      omega
    rcases hI with ⟨b2, b5, b6, b7, b8, v12, v13, v19, v22, rfl, rfl, hF, hH⟩ | ⟨v12, v13, v19, v22, rfl, rfl, _⟩
    rotate_left
    · rcases hi with rfl | rfl | rfl | rfl | rfl | rfl | rfl | rfl | rfl | rfl <;> cases hf
    clear hHeld hb0 hH0
    rcases hi with rfl | rfl | rfl | rfl | rfl | rfl | rfl | rfl | rfl | rfl
    · cases hf
    · cases hf
    · cases ho
      have n2 : b2 = false := hf
      have HF := Lib.hid hF
      have HHH := Lib.hid hH
      have N2 := Lib.hid n2
      clear hF hH ha hf n2
      go_simp
      refine (B6.out _).mono ?_
      rintro e W2 ⟨g, rfl, hg, hbg⟩
      dsimp only
      have hq := HeldR.step HHH.out hbg
      refine hK.out _ _ hq (.inl ⟨true, b5, b6, b7, b8, v12, v13, _, v22, rfl, rfl, ?_, hq⟩)
      have h := HF.out.step hbg
      refine ⟨fun _ => ⟨g, rfl, hg⟩, h.f5, h.f6, h.f7, h.f67, fun e => ?_⟩
      rw [N2.out] at *
      have := (h.f8 e).1.1
      cases this
    · cases hf
    · cases hf
    · cases ho
      have n5 : b5 = false := hf
      have HF := Lib.hid hF
      have HHH := Lib.hid hH
      clear hF hH ha hf n5
      go_simp
      refine (B7.out _).mono ?_
      rintro e W2 ⟨g, rfl, hg, hbg⟩
      dsimp only
      have hq := HeldR.step HHH.out hbg
      refine hK.out _ _ hq (.inl ⟨b2, true, b6, b7, b8, v12, v13, v19, _, rfl, rfl, ?_, hq⟩)
      have h := HF.out.step hbg
      exact ⟨h.f2, fun _ => ⟨g, rfl, hg⟩, h.f6, h.f7, h.f67, h.f8⟩
    · cases ho
      have n6 : b6 = false := hf
      have HF := Lib.hid hF
      have HHH := Lib.hid hH
      have NN := Lib.hid n6
      clear hF hH ha hf n6
      go_simp
      (try simp only [Act.put, List.setIfInBounds_toArray, List.set_cons_zero, List.set_cons_succ])
      refine hK.out _ _ (HeldR.alloc HHH.out _) (.inl ⟨b2, b5, true, b7, b8, _, v13, v19, v22, rfl, rfl, ?_, HeldR.alloc HHH.out _⟩)
      have h := HF.out.step (belowAl W (.cells (Eh.cells Eh.zero) 24))
      refine ⟨h.f2, h.f5, fun _ => ⟨_, Eh.zero, rfl, EB.new W _ Eh.zero, HHH.out.bel.size⟩, h.f7, fun _ e7 D E e1 e2 e => ?_, fun e => (by have := (h.f8 e).1.2; rw [NN.out] at this; cases this)⟩
      obtain ⟨E', x, h1, h2, _⟩ := HF.out.f7 e7
      have q1 := ptr_blk e1
      have q2 := ptr_blk (e2.symm.trans h1)
      have := h2.lt
      omega
    · cases ho
      have n7 : b7 = false := hf
      have HF := Lib.hid hF
      have HHH := Lib.hid hH
      have NN := Lib.hid n7
      clear hF hH ha hf n7
      go_simp
      (try simp only [Act.put, List.setIfInBounds_toArray, List.set_cons_zero, List.set_cons_succ])
      refine hK.out _ _ (HeldR.alloc HHH.out _) (.inl ⟨b2, b5, b6, true, b8, v12, _, v19, v22, rfl, rfl, ?_, HeldR.alloc HHH.out _⟩)
      have h := HF.out.step (belowAl W (.cells (Eh.cells Eh.zero) 24))
      refine ⟨h.f2, h.f5, h.f6, fun _ => ⟨_, Eh.zero, rfl, EB.new W _ Eh.zero, HHH.out.bel.size⟩, fun e6 _ D E e1 e2 e => ?_, h.f8⟩
      obtain ⟨E', x, h1, h2, _⟩ := HF.out.f6 e6
      have q1 := ptr_blk e2
      have q2 := ptr_blk (e1.symm.trans h1)
      have := h2.lt
      omega
    · cases ho
      have d6 : b6 = true := ha { on := 6, ground := .data } (by simp) rfl
      have d2 : b2 = true := ha { on := 2, ground := .data } (by simp) rfl
      obtain ⟨g, rfl, hg⟩ := hF.f2 d2
      obtain ⟨D, x, rfl, hD, lD⟩ := hF.f6 d6
      have c0 := hD.c0
      have c1 := hD.c1
      have c2 := hD.c2
      have c3 := hD.c3
      have cz := hD.frozen
      have hbl : Below w2.heap.size W (putEh W D g) := below_putE (Below.refl _ _) lD g
      have HHH := Lib.hid (HeldR.below hH hbl)
      have FIN : Hid (FR w2 ⟨x0, x1, x2, x3, x4, x5⟩ ⟨y0, y1, y2, y3, y4, y5⟩ b2 b5 b6 b7 true (.pointer (some ⟨D, 0, none⟩)) v13 (.agg g.cells) v22 (putEh W D g)) := Lib.hid (by
        refine ⟨fun _ => ⟨g, rfl, OutB.put hD hg g⟩, fun e => ?_, fun _ => ⟨D, g, rfl, hD.put, lD⟩, fun e => ?_, hF.f67, fun _ => ⟨⟨d2, d6⟩, D, g, rfl, rfl, hD.put, OutB.put hD hg g⟩⟩
        · obtain ⟨k, h1, h2⟩ := hF.f5 e
          exact ⟨k, h1, OutB.put hD h2 g⟩
        · obtain ⟨E, y, h1, h2, h3⟩ := hF.f7 e
          exact ⟨E, y, h1, eb_other h2 (fun e2 => hF.f67 d6 e D E rfl h1 e2.symm) g, h3⟩)
      clear hF hH ha hf hg hD hbl d2 d6
      obtain ⟨g0, g1, g2, g3, g4, g5⟩ := g
      unfold Eh.cells
      dsimp only at c0 c1 c2 c3 ⊢
      go_simp
      (try simp only [Act.put, List.setIfInBounds_toArray, List.set_cons_zero, List.set_cons_succ])
      exact hK.out _ _ HHH.out (.inl ⟨b2, b5, b6, b7, true, _, v13, _, v22, rfl, rfl, FIN.out, HHH.out⟩)
    · cases ho
      have d7 : b7 = true := ha { on := 7, ground := .data } (by simp) rfl
      have d5 : b5 = true := ha { on := 5, ground := .data } (by simp) rfl
      have d8 : b8 = true := ha { on := 8, ground := .chain } (by simp) rfl
      obtain ⟨⟨d2, d6⟩, D, g, rfl, rfl, hD, hg⟩ := hF.f8 d8
      obtain ⟨k, rfl, hk⟩ := hF.f5 d5
      obtain ⟨E, x, rfl, hE, lE⟩ := hF.f7 d7
      have lD : w2.heap.size ≤ D := by
        obtain ⟨D', x', e1, _, e3⟩ := hF.f6 d6
        have := ptr_blk e1
        omega
      have hne := hF.f67 d6 d7 D E rfl rfl
      subst d2 d5 d6 d7 d8
      have c0 := hE.c0
      have c1 := hE.c1
      have c2 := hE.c2
      have c3 := hE.c3
      have cz := hE.frozen
      have hbl : Below w2.heap.size W (putEh W E k) := below_putE (Below.refl _ _) lE k
      have HHH := Lib.hid (HeldR.below hH hbl)
      have FIN : Hid (LaidR w2 ⟨x0, x1, x2, x3, x4, x5⟩ ⟨y0, y1, y2, y3, y4, y5⟩ (.pointer (some ⟨D, 0, none⟩)) (.pointer (some ⟨E, 0, none⟩)) (putEh W E k)) := Lib.hid ⟨D, E, g, k, rfl, rfl, eb_other hD hne k, hE.put, OutB.put hE hg k, OutB.put hE hk k, lD, lE⟩
      clear hF hH ha hf hg hk hD hE hbl hne
      obtain ⟨k0, k1, k2, k3, k4, k5⟩ := k
      unfold Eh.cells
      dsimp only at c0 c1 c2 c3 ⊢
      go_simp
      (try simp only [Act.put, List.setIfInBounds_toArray, List.set_cons_zero, List.set_cons_succ])
      exact hK.out _ _ HHH.out (.inr ⟨_, _, _, _, rfl, rfl, FIN.out, HHH.out⟩)
  · intro listed a W hI hr
    rcases hI with ⟨b2, b5, b6, b7, b8, v12, v13, v19, v22, rfl, rfl, hF, hH⟩ | ⟨v12, v13, v19, v22, rfl, rfl, hfin, hH⟩
    · exfalso
      obtain rfl : b2 = true := came_up' hr (i := 2) rfl (by rfl)
      obtain rfl : b5 = true := came_up' hr (i := 5) rfl (by rfl)
      obtain rfl : b6 = true := came_up' hr (i := 6) rfl (by rfl)
      obtain rfl : b7 = true := came_up' hr (i := 7) rfl (by rfl)
      obtain rfl : b8 = true := came_up' hr (i := 8) rfl (by rfl)
      have : false = true := came_up' hr (i := 9) rfl (by rfl)
      cases this
    · obtain ⟨D, E, ⟨g0, g1, g2, g3, g4, g5⟩, ⟨k0, k1, k2, k3, k4, k5⟩, rfl, rfl, hD, hE, hg, hk, lD, lE⟩ := hfin
      have hbel := hH.bel
      have hTA3 := hTA.step hbel
      have hTB3 := hTB.step hbel
      have hTC3 := hTC.step hbel
      have he3 := he.step hbel
      have hTQ3 := OutB.inn hg (by omega) hTA3 hTB3
      have hTR3 := OutB.inn hk (by omega) hTA3 hTB3
      have hQ0 : HeldQ w.heap.size W ⟨x0, x1, x2, x3, x4, x5⟩ ⟨y0, y1, y2, y3, y4, y5⟩ ⟨z0, z1, z2, z3, z4, z5⟩ (.slice A N cap) D E ⟨g0, g1, g2, g3, g4, g5⟩ ⟨k0, k1, k2, k3, k4, k5⟩ W := by
        obtain ⟨a0, a1, a2, a3, b0, b1, b2, b3, c0, c1, c2, c3, e0, hb, hl⟩ := hH
        exact ⟨a0, a1, a2, a3, b0, b1, b2, b3, c0, c1, c2, c3, e0, hD.c0, hD.c1, hD.c2, hD.c3, hE.c0, hE.c1, hE.c2, hE.c3, Below.refl _ _, Nat.lt_of_lt_of_le hl hb.size, hD.lt, hE.lt⟩
      have HZ3 := Lib.hid (HZ.out.trans (hbel.mono HZ.out.size))
      have TAH := Lib.hid (fun V (h : HeldQ w.heap.size W ⟨x0, x1, x2, x3, x4, x5⟩ ⟨y0, y1, y2, y3, y4, y5⟩ ⟨z0, z1, z2, z3, z4, z5⟩ (.slice A N cap) D E ⟨g0, g1, g2, g3, g4, g5⟩ ⟨k0, k1, k2, k3, k4, k5⟩ V) => hTA3.step h.bel)
      have TBH := Lib.hid (fun V (h : HeldQ w.heap.size W ⟨x0, x1, x2, x3, x4, x5⟩ ⟨y0, y1, y2, y3, y4, y5⟩ ⟨z0, z1, z2, z3, z4, z5⟩ (.slice A N cap) D E ⟨g0, g1, g2, g3, g4, g5⟩ ⟨k0, k1, k2, k3, k4, k5⟩ V) => hTB3.step h.bel)
      have TCH := Lib.hid (fun V (h : HeldQ w.heap.size W ⟨x0, x1, x2, x3, x4, x5⟩ ⟨y0, y1, y2, y3, y4, y5⟩ ⟨z0, z1, z2, z3, z4, z5⟩ (.slice A N cap) D E ⟨g0, g1, g2, g3, g4, g5⟩ ⟨k0, k1, k2, k3, k4, k5⟩ V) => hTC3.step h.bel)
      have TQH := Lib.hid (fun V (h : HeldQ w.heap.size W ⟨x0, x1, x2, x3, x4, x5⟩ ⟨y0, y1, y2, y3, y4, y5⟩ ⟨z0, z1, z2, z3, z4, z5⟩ (.slice A N cap) D E ⟨g0, g1, g2, g3, g4, g5⟩ ⟨k0, k1, k2, k3, k4, k5⟩ V) => hTQ3.step h.bel)
      have TRH := Lib.hid (fun V (h : HeldQ w.heap.size W ⟨x0, x1, x2, x3, x4, x5⟩ ⟨y0, y1, y2, y3, y4, y5⟩ ⟨z0, z1, z2, z3, z4, z5⟩ (.slice A N cap) D E ⟨g0, g1, g2, g3, g4, g5⟩ ⟨k0, k1, k2, k3, k4, k5⟩ V) => hTR3.step h.bel)
      have VV : Hid (∀ (X : Xp) (P : Int) (_ : X.ev env = P) (V : World) (h : Eh), HeldQ w.heap.size W ⟨x0, x1, x2, x3, x4, x5⟩ ⟨y0, y1, y2, y3, y4, y5⟩ ⟨z0, z1, z2, z3, z4, z5⟩ (.slice A N cap) D E ⟨g0, g1, g2, g3, g4, g5⟩ ⟨k0, k1, k2, k3, k4, k5⟩ V → EIn V V.heap.size X h → Calls Try.prog 24 #[.agg h.cells, .pointer (some ⟨w.heap.size + 1 + 1 + 1, 0, none⟩)] V fun e V' => e = .returned (.int .i64 P) ∧ HeldQ w.heap.size W ⟨x0, x1, x2, x3, x4, x5⟩ ⟨y0, y1, y2, y3, y4, y5⟩ ⟨z0, z1, z2, z3, z4, z5⟩ (.slice A N cap) D E ⟨g0, g1, g2, g3, g4, g5⟩ ⟨k0, k1, k2, k3, k4, k5⟩ V') := Lib.hid fun X P hP V h hV hX => by
        refine (ring1_any X h A cap (w.heap.size + 1 + 1 + 1) env V hX (he3.step hV.bel) (by have := HL.out; omega) HC.out (by rw [hV.env.1, HN.out]) hV.env.2).mono ?_
        rintro e V' ⟨rfl, h1⟩
        exact ⟨by rw [hP], hV.step h1⟩
      have AD : Hid (∀ (X Y : Xp) (V : World) (h u : Eh), HeldQ w.heap.size W ⟨x0, x1, x2, x3, x4, x5⟩ ⟨y0, y1, y2, y3, y4, y5⟩ ⟨z0, z1, z2, z3, z4, z5⟩ (.slice A N cap) D E ⟨g0, g1, g2, g3, g4, g5⟩ ⟨k0, k1, k2, k3, k4, k5⟩ V → EIn V V.heap.size X h → EIn V V.heap.size Y u → Calls Try.prog 25 #[.agg h.cells, .agg u.cells] V fun e V' => ∃ h', e = .returned (.agg h'.cells) ∧ EIn V' V'.heap.size (.op 3 X Y) h' ∧ Below V.heap.size V V' ∧ HeldQ w.heap.size W ⟨x0, x1, x2, x3, x4, x5⟩ ⟨y0, y1, y2, y3, y4, y5⟩ ⟨z0, z1, z2, z3, z4, z5⟩ (.slice A N cap) D E ⟨g0, g1, g2, g3, g4, g5⟩ ⟨k0, k1, k2, k3, k4, k5⟩ V') := Lib.hid fun X Y V h u hV hX hY => by
        refine (ring2_any h u V).mono ?_
        rintro e V' ⟨h', rfl, h1, h2⟩
        exact ⟨h', rfl, h1.inn (by omega) (hX.step h2) (hY.step h2), h2, hV.step h2⟩
      have MU : Hid (∀ (X Y : Xp) (V : World) (h u : Eh), HeldQ w.heap.size W ⟨x0, x1, x2, x3, x4, x5⟩ ⟨y0, y1, y2, y3, y4, y5⟩ ⟨z0, z1, z2, z3, z4, z5⟩ (.slice A N cap) D E ⟨g0, g1, g2, g3, g4, g5⟩ ⟨k0, k1, k2, k3, k4, k5⟩ V → EIn V V.heap.size X h → EIn V V.heap.size Y u → Calls Try.prog 27 #[.agg h.cells, .agg u.cells] V fun e V' => ∃ h', e = .returned (.agg h'.cells) ∧ EIn V' V'.heap.size (.op 5 X Y) h' ∧ Below V.heap.size V V' ∧ HeldQ w.heap.size W ⟨x0, x1, x2, x3, x4, x5⟩ ⟨y0, y1, y2, y3, y4, y5⟩ ⟨z0, z1, z2, z3, z4, z5⟩ (.slice A N cap) D E ⟨g0, g1, g2, g3, g4, g5⟩ ⟨k0, k1, k2, k3, k4, k5⟩ V') := Lib.hid fun X Y V h u hV hX hY => by
        refine (ring3_any h u V).mono ?_
        rintro e V' ⟨h', rfl, h1, h2⟩
        exact ⟨h', rfl, h1.inn (by omega) (hX.step h2) (hY.step h2), h2, hV.step h2⟩
      have BO : Hid (∀ (kk : Int) (_ : 3 ≤ kk ∧ kk ≤ 9) (X Y : Xp) (V : World) (h u : Eh), HeldQ w.heap.size W ⟨x0, x1, x2, x3, x4, x5⟩ ⟨y0, y1, y2, y3, y4, y5⟩ ⟨z0, z1, z2, z3, z4, z5⟩ (.slice A N cap) D E ⟨g0, g1, g2, g3, g4, g5⟩ ⟨k0, k1, k2, k3, k4, k5⟩ V → EIn V V.heap.size X h → EIn V V.heap.size Y u → Calls Try.prog 26 #[.int .i64 kk, .agg h.cells, .agg u.cells] V fun e V' => ∃ h', e = .returned (.agg h'.cells) ∧ EIn V' V'.heap.size (.op kk X Y) h' ∧ Below V.heap.size V V' ∧ HeldQ w.heap.size W ⟨x0, x1, x2, x3, x4, x5⟩ ⟨y0, y1, y2, y3, y4, y5⟩ ⟨z0, z1, z2, z3, z4, z5⟩ (.slice A N cap) D E ⟨g0, g1, g2, g3, g4, g5⟩ ⟨k0, k1, k2, k3, k4, k5⟩ V') := Lib.hid fun kk hkk X Y V h u hV hX hY => by
        refine (bothO_any kk h u V).mono ?_
        rintro e V' ⟨h', rfl, h1, h2⟩
        exact ⟨h', rfl, h1.inn hkk (hX.step h2) (hY.step h2), h2, hV.step h2⟩
      have hiA : inI (TA.ev env) := Xp.ev_in he.int TA hTA.fit
      have hiB : inI (TB.ev env) := Xp.ev_in he.int TB hTB.fit
      obtain ⟨VA, hVA⟩ : ∃ v, v = TA.ev env := ⟨_, rfl⟩
      obtain ⟨VB, hVB⟩ : ∃ v, v = TB.ev env := ⟨_, rfl⟩
      obtain ⟨VC, hVC⟩ : ∃ v, v = TC.ev env := ⟨_, rfl⟩
      obtain ⟨P1, hP1⟩ : ∃ v, v = ar 3 VA VB := ⟨_, rfl⟩
      obtain ⟨P2, hP2⟩ : ∃ v, v = ar 5 VA (ar 3 VB VC) := ⟨_, rfl⟩
      obtain ⟨L1, hL1⟩ : ∃ v, v = ar 8 VA VB := ⟨_, rfl⟩
      obtain ⟨L2, hL2⟩ : ∃ v, v = ar 8 VB VA := ⟨_, rfl⟩
      obtain ⟨L3, hL3⟩ : ∃ v, v = ar 9 VA VB := ⟨_, rfl⟩
      have hthree : L1 + L2 + L3 = 1 := by rw [hL1, hL2, hL3]; exact ar_three VA VB
      have hl1 : 0 ≤ L1 ∧ L1 ≤ 1 := by rw [hL1]; unfold ar; simp; split <;> omega
      have hl2 : 0 ≤ L2 ∧ L2 ≤ 1 := by rw [hL2]; unfold ar; simp; split <;> omega
      have hl3 : 0 ≤ L3 ∧ L3 ≤ 1 := by rw [hL3]; unfold ar; simp; split <;> omega
      have e1 : IntKind.i64.wrap (L1 + L2) = L1 + L2 := by rw [IntKind.wrap_i64]; omega
      have e2 : IntKind.i64.wrap (L1 + L2 + L3) = 1 := by rw [hthree]; rfl
      have NA := Lib.hid hVA.symm
      have NB := Lib.hid hVB.symm
      have NC := Lib.hid hVC.symm
      have N1 : Hid ((Xp.op 3 TA TB).ev env = P1) := Lib.hid (by show ar 3 (TA.ev env) (TB.ev env) = P1; rw [← hVA, ← hVB, hP1])
      have N1' : Hid ((Xp.op 3 TB TA).ev env = P1) := Lib.hid (by show ar 3 (TB.ev env) (TA.ev env) = P1; rw [← hVA, ← hVB, hP1]; exact ar_add_comm _ _)
      have N2 : Hid ((Xp.op 5 TA (.op 3 TB TC)).ev env = P2) := Lib.hid (by show ar 5 (TA.ev env) (ar 3 (TB.ev env) (TC.ev env)) = P2; rw [← hVA, ← hVB, ← hVC, hP2])
      have N2' : Hid ((Xp.op 3 (.op 5 TA TB) (.op 5 TA TC)).ev env = P2) := Lib.hid (by show ar 3 (ar 5 (TA.ev env) (TB.ev env)) (ar 5 (TA.ev env) (TC.ev env)) = P2; rw [← hVA, ← hVB, ← hVC, hP2]; exact (ar_mul_add _ _ _).symm)
      have N3 : Hid ((Xp.op 4 (.op 3 TA TB) TB).ev env = VA) := Lib.hid (by show ar 4 (ar 3 (TA.ev env) (TB.ev env)) (TB.ev env) = VA; rw [ar_sub_add hiA, hVA])
      have N5 : Hid ((Xp.op 8 TA TB).ev env = L1) := Lib.hid (by show ar 8 (TA.ev env) (TB.ev env) = L1; rw [← hVA, ← hVB, hL1])
      have N6 : Hid ((Xp.op 8 TB TA).ev env = L2) := Lib.hid (by show ar 8 (TB.ev env) (TA.ev env) = L2; rw [← hVA, ← hVB, hL2])
      have N7 : Hid ((Xp.op 9 TA TB).ev env = L3) := Lib.hid (by show ar 9 (TA.ev env) (TB.ev env) = L3; rw [← hVA, ← hVB, hL3])
      have N4 : VB ≠ 0 → Hid ((Xp.op 3 (.op 5 (.op 6 TA TB) TB) (.op 7 TA TB)).ev env = VA) := fun hne => Lib.hid (by show ar 3 (ar 5 (ar 6 (TA.ev env) (TB.ev env)) (TB.ev env)) (ar 7 (TA.ev env) (TB.ev env)) = VA; rw [ar_div_mod hiA (by rw [← hVB]; exact hne), hVA])
      have N4' := Lib.hid N4
      have HE := Lib.hid (And.intro e1 e2)
      clear hiA hiB hVA hVB hVC hP1 hP2 hL1 hL2 hL3 hthree hl1 hl2 hl3 e1 e2 N4 hTA hTB hTC he hTA3 hTB3 hTC3 he3 hTQ3 hTR3 hD hE hg hk hbel lD lE hH hr hHeld hb0 hH0
      have e1 := HE.out.1
      have e2 := HE.out.2
      go_upto_region 7 with fail
      refine wp_region_held_drew (S := HeldQ w.heap.size W ⟨x0, x1, x2, x3, x4, x5⟩ ⟨y0, y1, y2, y3, y4, y5⟩ ⟨z0, z1, z2, z3, z4, z5⟩ (.slice A N cap) D E ⟨g0, g1, g2, g3, g4, g5⟩ ⟨k0, k1, k2, k3, k4, k5⟩) (by kernel_rfl) (HeldQ.drew hQ0) (fun hHeld => ?_)
      refine wpAnyH_ns (by kernel_rfl) (fun hns => ?_)
      refine wpAnyH_take (i := 0) (oi := { dst := some 23, op := _, type := _, pos := _, after := _, guard := _ }) (v := ?_) rfl hns (by kernel_rfl) (by kernel_rfl) (fun _ _ _ h => h) (Or.inl ⟨by rfl, ?_⟩) (by assumption) ?_
      rotate_left
      · intro w hSw; (try dsimp only at hSw); go_simp; (try with_reducible rfl)
      (try simp only [Act.put, List.setIfInBounds_toArray, List.set_cons_zero, List.set_cons_succ])
      refine wpAnyH_take (i := 1) (oi := { dst := some 24, op := _, type := _, pos := _, after := _, guard := _ }) (v := ?_) rfl hns (by kernel_rfl) (by kernel_rfl) (fun _ _ _ h => h) (Or.inl ⟨by rfl, ?_⟩) (by assumption) ?_
      rotate_left
      · intro w hSw; (try dsimp only at hSw); go_simp; (try with_reducible rfl)
      (try simp only [Act.put, List.setIfInBounds_toArray, List.set_cons_zero, List.set_cons_succ])
      refine wpAnyH_take (i := 2) (oi := { dst := some 25, op := _, type := _, pos := _, after := _, guard := _ }) (v := ?_) rfl hns (by kernel_rfl) (by kernel_rfl) (fun _ _ _ h => h) (Or.inl ⟨by rfl, ?_⟩) (by assumption) ?_
      rotate_left
      · intro w hSw; (try dsimp only at hSw); go_simp; (try with_reducible rfl)
      (try simp only [Act.put, List.setIfInBounds_toArray, List.set_cons_zero, List.set_cons_succ])
      refine wpAnyH_take (i := 3) (oi := { dst := some 26, op := _, type := _, pos := _, after := _, guard := _ }) (v := ?_) rfl hns (by kernel_rfl) (by kernel_rfl) (fun _ _ _ h => h) (Or.inl ⟨by rfl, ?_⟩) (by assumption) ?_
      rotate_left
      · intro w hSw; (try dsimp only at hSw); go_simp; (try with_reducible rfl)
      (try simp only [Act.put, List.setIfInBounds_toArray, List.set_cons_zero, List.set_cons_succ])
      refine wpAnyH_take (i := 6) (oi := { dst := some 29, op := _, type := _, pos := _, after := _, guard := _ }) (v := ?_) rfl hns (by kernel_rfl) (by kernel_rfl) (fun _ _ _ h => h) (Or.inl ⟨by rfl, ?_⟩) (by assumption) ?_
      rotate_left
      · intro w hSw; (try dsimp only at hSw); go_simp; (try with_reducible rfl)
      (try simp only [Act.put, List.setIfInBounds_toArray, List.set_cons_zero, List.set_cons_succ])
      refine wpAnyH_take (i := 7) (oi := { dst := some 30, op := _, type := _, pos := _, after := _, guard := _ }) (v := ?_) rfl hns (by kernel_rfl) (by kernel_rfl) (fun _ _ _ h => h) (Or.inl ⟨by rfl, ?_⟩) (by assumption) ?_
      rotate_left
      · intro w hSw; (try dsimp only at hSw); go_simp; (try with_reducible rfl)
      (try simp only [Act.put, List.setIfInBounds_toArray, List.set_cons_zero, List.set_cons_succ])
      refine wpAnyH_take (i := 8) (oi := { dst := some 31, op := _, type := _, pos := _, after := _, guard := _ }) (v := ?_) rfl hns (by kernel_rfl) (by kernel_rfl) (fun _ _ _ h => h) (Or.inl ⟨by rfl, ?_⟩) (by assumption) ?_
      rotate_left
      · intro w hSw; (try dsimp only at hSw); go_simp; (try with_reducible rfl)
      (try simp only [Act.put, List.setIfInBounds_toArray, List.set_cons_zero, List.set_cons_succ])
      refine wpAnyH_take (i := 9) (oi := { dst := some 32, op := _, type := _, pos := _, after := _, guard := _ }) (v := ?_) rfl hns (by kernel_rfl) (by kernel_rfl) (fun _ _ _ h => h) (Or.inl ⟨by rfl, ?_⟩) (by assumption) ?_
      rotate_left
      · intro w hSw; (try dsimp only at hSw); go_simp; (try with_reducible rfl)
      (try simp only [Act.put, List.setIfInBounds_toArray, List.set_cons_zero, List.set_cons_succ])
      refine wpAnyH_ready (rs := [4]) (by kernel_rfl) (by simp) ?_
      refine AllReadyH.cons rfl (fun K hK => ?_) AllReadyH.nil
      go_simp
      refine (AD.out TA TB _ _ _ hHeld (TAH.out _ hHeld) (TBH.out _ hHeld)).mono ?_
      rintro e V4 ⟨h4, rfl, hx4, hb4, hq4⟩
      dsimp only
      refine hK.out _ _ hq4 (fun hHeld => ?_)
      clear hK K
      (try simp only [Act.put, List.setIfInBounds_toArray, List.set_cons_zero, List.set_cons_succ])
      as_aux_lemma =>
        refine wpAnyH_ready (rs := [5]) (by kernel_rfl) (by simp) ?_
        refine AllReadyH.cons rfl (fun K hK => ?_) AllReadyH.nil
        go_simp
        refine (VV.out (.op 3 TA TB) P1 N1.out _ _ hHeld hx4).mono ?_
        rintro e V5 ⟨rfl, hq5⟩
        dsimp only
        refine hK.out _ _ hq5 (fun hHeld => ?_)
        clear hK K
        (try simp only [Act.put, List.setIfInBounds_toArray, List.set_cons_zero, List.set_cons_succ])
        refine wpAnyH_ready (rs := [10]) (by kernel_rfl) (by simp) ?_
        refine AllReadyH.cons rfl (fun K hK => ?_) AllReadyH.nil
        go_simp
        refine (AD.out TB TA _ _ _ hHeld (TBH.out _ hHeld) (TAH.out _ hHeld)).mono ?_
        rintro e V10 ⟨h10, rfl, hx10, hb10, hq10⟩
        dsimp only
        refine hK.out _ _ hq10 (fun hHeld => ?_)
        clear hK K
        (try simp only [Act.put, List.setIfInBounds_toArray, List.set_cons_zero, List.set_cons_succ])
        refine wpAnyH_ready (rs := [11]) (by kernel_rfl) (by simp) ?_
        refine AllReadyH.cons rfl (fun K hK => ?_) AllReadyH.nil
        go_simp
        refine (VV.out (.op 3 TB TA) P1 N1'.out _ _ hHeld hx10).mono ?_
        rintro e V11 ⟨rfl, hq11⟩
        dsimp only
        refine hK.out _ _ hq11 (fun hHeld => ?_)
        clear hK K
        (try simp only [Act.put, List.setIfInBounds_toArray, List.set_cons_zero, List.set_cons_succ])
        refine wpAnyH_take (i := 12) (oi := { dst := some 35, op := _, type := _, pos := _, after := _, guard := _ }) (v := ?_) rfl hns (by kernel_rfl) (by kernel_rfl) (fun _ _ _ h => h) (Or.inl ⟨by rfl, ?_⟩) (by assumption) ?_
        rotate_left
        · intro w hSw; (try dsimp only at hSw); go_simp; (try with_reducible rfl)
        (try simp only [Act.put, List.setIfInBounds_toArray, List.set_cons_zero, List.set_cons_succ])
        refine wpAnyH_take (i := 13) (oi := { dst := some 36, op := _, type := _, pos := _, after := _, guard := _ }) (v := ?_) rfl hns (by kernel_rfl) (by kernel_rfl) (fun _ _ _ h => h) (Or.inl ⟨by rfl, ?_⟩) (by assumption) ?_
        rotate_left
        · intro w hSw; (try dsimp only at hSw); go_simp; (try with_reducible rfl)
        (try simp only [Act.put, List.setIfInBounds_toArray, List.set_cons_zero, List.set_cons_succ])
        refine wpAnyH_take (i := 14) (oi := { dst := some 37, op := _, type := _, pos := _, after := _, guard := _ }) (v := ?_) rfl hns (by kernel_rfl) (by kernel_rfl) (fun _ _ _ h => h) (Or.inl ⟨by rfl, ?_⟩) (by assumption) ?_
        rotate_left
        · intro w hSw; (try dsimp only at hSw); go_simp; (try with_reducible rfl)
        (try simp only [Act.put, List.setIfInBounds_toArray, List.set_cons_zero, List.set_cons_succ])
        refine wpAnyH_take (i := 15) (oi := { dst := some 38, op := _, type := _, pos := _, after := _, guard := _ }) (v := ?_) rfl hns (by kernel_rfl) (by kernel_rfl) (fun _ _ _ h => h) (Or.inl ⟨by rfl, ?_⟩) (by assumption) ?_
        rotate_left
        · intro w hSw; (try dsimp only at hSw); go_simp; (try with_reducible rfl)
        (try simp only [Act.put, List.setIfInBounds_toArray, List.set_cons_zero, List.set_cons_succ])
        as_aux_lemma =>
          refine wpAnyH_take (i := 16) (oi := { dst := some 39, op := _, type := _, pos := _, after := _, guard := _ }) (v := ?_) rfl hns (by kernel_rfl) (by kernel_rfl) (fun _ _ _ h => h) (Or.inl ⟨by rfl, ?_⟩) (by assumption) ?_
          rotate_left
          · intro w hSw; (try dsimp only at hSw); go_simp; (try with_reducible rfl)
          (try simp only [Act.put, List.setIfInBounds_toArray, List.set_cons_zero, List.set_cons_succ])
          refine wpAnyH_take (i := 17) (oi := { dst := some 40, op := _, type := _, pos := _, after := _, guard := _ }) (v := ?_) rfl hns (by kernel_rfl) (by kernel_rfl) (fun _ _ _ h => h) (Or.inl ⟨by rfl, ?_⟩) (by assumption) ?_
          rotate_left
          · intro w hSw; (try dsimp only at hSw); go_simp; (try with_reducible rfl)
          (try simp only [Act.put, List.setIfInBounds_toArray, List.set_cons_zero, List.set_cons_succ])
          refine wpAnyH_take (i := 18) (oi := { dst := some 41, op := _, type := _, pos := _, after := _, guard := _ }) (v := ?_) rfl hns (by kernel_rfl) (by kernel_rfl) (fun _ _ _ h => h) (Or.inl ⟨by rfl, ?_⟩) (by assumption) ?_
          rotate_left
          · intro w hSw; (try dsimp only at hSw); go_simp; (try with_reducible rfl)
          (try simp only [Act.put, List.setIfInBounds_toArray, List.set_cons_zero, List.set_cons_succ])
          refine wpAnyH_take (i := 19) (oi := { dst := some 42, op := _, type := _, pos := _, after := _, guard := _ }) (v := ?_) rfl hns (by kernel_rfl) (by kernel_rfl) (fun _ _ _ h => h) (Or.inl ⟨by rfl, ?_⟩) (by assumption) ?_
          rotate_left
          · intro w hSw; (try dsimp only at hSw); go_simp; (try with_reducible rfl)
          (try simp only [Act.put, List.setIfInBounds_toArray, List.set_cons_zero, List.set_cons_succ])
          refine wpAnyH_take (i := 23) (oi := { dst := some 46, op := _, type := _, pos := _, after := _, guard := _ }) (v := ?_) rfl hns (by kernel_rfl) (by kernel_rfl) (fun _ _ _ h => h) (Or.inl ⟨by rfl, ?_⟩) (by assumption) ?_
          rotate_left
          · intro w hSw; (try dsimp only at hSw); go_simp; (try with_reducible rfl)
          (try simp only [Act.put, List.setIfInBounds_toArray, List.set_cons_zero, List.set_cons_succ])
          refine wpAnyH_take (i := 24) (oi := { dst := some 47, op := _, type := _, pos := _, after := _, guard := _ }) (v := ?_) rfl hns (by kernel_rfl) (by kernel_rfl) (fun _ _ _ h => h) (Or.inl ⟨by rfl, ?_⟩) (by assumption) ?_
          rotate_left
          · intro w hSw; (try dsimp only at hSw); go_simp; (try with_reducible rfl)
          (try simp only [Act.put, List.setIfInBounds_toArray, List.set_cons_zero, List.set_cons_succ])
          refine wpAnyH_take (i := 25) (oi := { dst := some 48, op := _, type := _, pos := _, after := _, guard := _ }) (v := ?_) rfl hns (by kernel_rfl) (by kernel_rfl) (fun _ _ _ h => h) (Or.inl ⟨by rfl, ?_⟩) (by assumption) ?_
          rotate_left
          · intro w hSw; (try dsimp only at hSw); go_simp; (try with_reducible rfl)
          (try simp only [Act.put, List.setIfInBounds_toArray, List.set_cons_zero, List.set_cons_succ])
          refine wpAnyH_take (i := 26) (oi := { dst := some 49, op := _, type := _, pos := _, after := _, guard := _ }) (v := ?_) rfl hns (by kernel_rfl) (by kernel_rfl) (fun _ _ _ h => h) (Or.inl ⟨by rfl, ?_⟩) (by assumption) ?_
          rotate_left
          · intro w hSw; (try dsimp only at hSw); go_simp; (try with_reducible rfl)
          (try simp only [Act.put, List.setIfInBounds_toArray, List.set_cons_zero, List.set_cons_succ])
          refine wpAnyH_take (i := 27) (oi := { dst := some 50, op := _, type := _, pos := _, after := _, guard := _ }) (v := ?_) rfl hns (by kernel_rfl) (by kernel_rfl) (fun _ _ _ h => h) (Or.inl ⟨by rfl, ?_⟩) (by assumption) ?_
          rotate_left
          · intro w hSw; (try dsimp only at hSw); go_simp; (try with_reducible rfl)
          (try simp only [Act.put, List.setIfInBounds_toArray, List.set_cons_zero, List.set_cons_succ])
          refine wpAnyH_take (i := 29) (oi := { dst := some 52, op := _, type := _, pos := _, after := _, guard := _ }) (v := ?_) rfl hns (by kernel_rfl) (by kernel_rfl) (fun _ _ _ h => h) (Or.inl ⟨by rfl, ?_⟩) (by assumption) ?_
          rotate_left
          · intro w hSw; (try dsimp only at hSw); go_simp; (try with_reducible rfl)
          (try simp only [Act.put, List.setIfInBounds_toArray, List.set_cons_zero, List.set_cons_succ])
          as_aux_lemma =>
            refine wpAnyH_take (i := 30) (oi := { dst := some 53, op := _, type := _, pos := _, after := _, guard := _ }) (v := ?_) rfl hns (by kernel_rfl) (by kernel_rfl) (fun _ _ _ h => h) (Or.inl ⟨by rfl, ?_⟩) (by assumption) ?_
            rotate_left
            · intro w hSw; (try dsimp only at hSw); go_simp; (try with_reducible rfl)
            (try simp only [Act.put, List.setIfInBounds_toArray, List.set_cons_zero, List.set_cons_succ])
            refine wpAnyH_take (i := 31) (oi := { dst := some 54, op := _, type := _, pos := _, after := _, guard := _ }) (v := ?_) rfl hns (by kernel_rfl) (by kernel_rfl) (fun _ _ _ h => h) (Or.inl ⟨by rfl, ?_⟩) (by assumption) ?_
            rotate_left
            · intro w hSw; (try dsimp only at hSw); go_simp; (try with_reducible rfl)
            (try simp only [Act.put, List.setIfInBounds_toArray, List.set_cons_zero, List.set_cons_succ])
            refine wpAnyH_ready (rs := [20]) (by kernel_rfl) (by simp) ?_
            refine AllReadyH.cons rfl (fun K hK => ?_) AllReadyH.nil
            go_simp
            refine (AD.out TB TC _ _ _ hHeld (TBH.out _ hHeld) (TCH.out _ hHeld)).mono ?_
            rintro e V20 ⟨h20, rfl, hx20, hb20, hq20⟩
            dsimp only
            refine hK.out _ _ hq20 (fun hHeld => ?_)
            clear hK K
            (try simp only [Act.put, List.setIfInBounds_toArray, List.set_cons_zero, List.set_cons_succ])
            refine wpAnyH_ready (rs := [21]) (by kernel_rfl) (by simp) ?_
            refine AllReadyH.cons rfl (fun K hK => ?_) AllReadyH.nil
            go_simp
            refine (MU.out TA (.op 3 TB TC) _ _ _ hHeld (TAH.out _ hHeld) hx20).mono ?_
            rintro e V21 ⟨h21, rfl, hx21, hb21, hq21⟩
            dsimp only
            refine hK.out _ _ hq21 (fun hHeld => ?_)
            clear hK K
            (try simp only [Act.put, List.setIfInBounds_toArray, List.set_cons_zero, List.set_cons_succ])
            refine wpAnyH_ready (rs := [22]) (by kernel_rfl) (by simp) ?_
            refine AllReadyH.cons rfl (fun K hK => ?_) AllReadyH.nil
            go_simp
            refine (VV.out (.op 5 TA (.op 3 TB TC)) P2 N2.out _ _ hHeld hx21).mono ?_
            rintro e V22 ⟨rfl, hq22⟩
            dsimp only
            refine hK.out _ _ hq22 (fun hHeld => ?_)
            clear hK K
            (try simp only [Act.put, List.setIfInBounds_toArray, List.set_cons_zero, List.set_cons_succ])
            refine wpAnyH_ready (rs := [28]) (by kernel_rfl) (by simp) ?_
            refine AllReadyH.cons rfl (fun K hK => ?_) AllReadyH.nil
            go_simp
            refine (MU.out TA TB _ _ _ hHeld (TAH.out _ hHeld) (TBH.out _ hHeld)).mono ?_
            rintro e V28 ⟨h28, rfl, hx28, hb28, hq28⟩
            dsimp only
            refine hK.out _ _ hq28 (fun hHeld => ?_)
            clear hK K
            (try simp only [Act.put, List.setIfInBounds_toArray, List.set_cons_zero, List.set_cons_succ])
            as_aux_lemma =>
              refine wpAnyH_ready (rs := [32]) (by kernel_rfl) (by simp) ?_
              refine AllReadyH.cons rfl (fun K hK => ?_) AllReadyH.nil
              go_simp
              refine (MU.out TA TC _ _ _ hHeld (TAH.out _ hHeld) (TCH.out _ hHeld)).mono ?_
              rintro e V32 ⟨h32, rfl, hx32, hb32, hq32⟩
              replace hx28 := hx28.step hb32
              dsimp only
              refine hK.out _ _ hq32 (fun hHeld => ?_)
              clear hK K
              (try simp only [Act.put, List.setIfInBounds_toArray, List.set_cons_zero, List.set_cons_succ])
              refine wpAnyH_ready (rs := [33]) (by kernel_rfl) (by simp) ?_
              refine AllReadyH.cons rfl (fun K hK => ?_) AllReadyH.nil
              go_simp
              refine (AD.out (.op 5 TA TB) (.op 5 TA TC) _ _ _ hHeld hx28 hx32).mono ?_
              rintro e V33 ⟨h33, rfl, hx33, hb33, hq33⟩
              dsimp only
              refine hK.out _ _ hq33 (fun hHeld => ?_)
              clear hK K
              (try simp only [Act.put, List.setIfInBounds_toArray, List.set_cons_zero, List.set_cons_succ])
              refine wpAnyH_ready (rs := [34]) (by kernel_rfl) (by simp) ?_
              refine AllReadyH.cons rfl (fun K hK => ?_) AllReadyH.nil
              go_simp
              refine (VV.out (.op 3 (.op 5 TA TB) (.op 5 TA TC)) P2 N2'.out _ _ hHeld hx33).mono ?_
              rintro e V34 ⟨rfl, hq34⟩
              dsimp only
              refine hK.out _ _ hq34 (fun hHeld => ?_)
              clear hK K
              (try simp only [Act.put, List.setIfInBounds_toArray, List.set_cons_zero, List.set_cons_succ])
              refine wpAnyH_take (i := 35) (oi := { dst := some 58, op := _, type := _, pos := _, after := _, guard := _ }) (v := ?_) rfl hns (by kernel_rfl) (by kernel_rfl) (fun _ _ _ h => h) (Or.inl ⟨by rfl, ?_⟩) (by assumption) ?_
              rotate_left
              · intro w hSw; (try dsimp only at hSw); go_simp; (try with_reducible rfl)
              (try simp only [Act.put, List.setIfInBounds_toArray, List.set_cons_zero, List.set_cons_succ])
              refine wpAnyH_take (i := 36) (oi := { dst := some 59, op := _, type := _, pos := _, after := _, guard := _ }) (v := ?_) rfl hns (by kernel_rfl) (by kernel_rfl) (fun _ _ _ h => h) (Or.inl ⟨by rfl, ?_⟩) (by assumption) ?_
              rotate_left
              · intro w hSw; (try dsimp only at hSw); go_simp; (try with_reducible rfl)
              (try simp only [Act.put, List.setIfInBounds_toArray, List.set_cons_zero, List.set_cons_succ])
              refine wpAnyH_take (i := 37) (oi := { dst := some 60, op := _, type := _, pos := _, after := _, guard := _ }) (v := ?_) rfl hns (by kernel_rfl) (by kernel_rfl) (fun _ _ _ h => h) (Or.inl ⟨by rfl, ?_⟩) (by assumption) ?_
              rotate_left
              · intro w hSw; (try dsimp only at hSw); go_simp; (try with_reducible rfl)
              (try simp only [Act.put, List.setIfInBounds_toArray, List.set_cons_zero, List.set_cons_succ])
              as_aux_lemma =>
                refine wpAnyH_take (i := 38) (oi := { dst := some 61, op := _, type := _, pos := _, after := _, guard := _ }) (v := ?_) rfl hns (by kernel_rfl) (by kernel_rfl) (fun _ _ _ h => h) (Or.inl ⟨by rfl, ?_⟩) (by assumption) ?_
                rotate_left
                · intro w hSw; (try dsimp only at hSw); go_simp; (try with_reducible rfl)
                (try simp only [Act.put, List.setIfInBounds_toArray, List.set_cons_zero, List.set_cons_succ])
                refine wpAnyH_take (i := 39) (oi := { dst := some 62, op := _, type := _, pos := _, after := _, guard := _ }) (v := ?_) rfl hns (by kernel_rfl) (by kernel_rfl) (fun _ _ _ h => h) (Or.inl ⟨by rfl, ?_⟩) (by assumption) ?_
                rotate_left
                · intro w hSw; (try dsimp only at hSw); go_simp; (try with_reducible rfl)
                (try simp only [Act.put, List.setIfInBounds_toArray, List.set_cons_zero, List.set_cons_succ])
                refine wpAnyH_take (i := 40) (oi := { dst := some 63, op := _, type := _, pos := _, after := _, guard := _ }) (v := ?_) rfl hns (by kernel_rfl) (by kernel_rfl) (fun _ _ _ h => h) (Or.inl ⟨by rfl, ?_⟩) (by assumption) ?_
                rotate_left
                · intro w hSw; (try dsimp only at hSw); go_simp; (try with_reducible rfl)
                (try simp only [Act.put, List.setIfInBounds_toArray, List.set_cons_zero, List.set_cons_succ])
                refine wpAnyH_take (i := 41) (oi := { dst := some 64, op := _, type := _, pos := _, after := _, guard := _ }) (v := ?_) rfl hns (by kernel_rfl) (by kernel_rfl) (fun _ _ _ h => h) (Or.inl ⟨by rfl, ?_⟩) (by assumption) ?_
                rotate_left
                · intro w hSw; (try dsimp only at hSw); go_simp; (try with_reducible rfl)
                (try simp only [Act.put, List.setIfInBounds_toArray, List.set_cons_zero, List.set_cons_succ])
                refine wpAnyH_take (i := 43) (oi := { dst := some 66, op := _, type := _, pos := _, after := _, guard := _ }) (v := ?_) rfl hns (by kernel_rfl) (by kernel_rfl) (fun _ _ _ h => h) (Or.inl ⟨by rfl, ?_⟩) (by assumption) ?_
                rotate_left
                · intro w hSw; (try dsimp only at hSw); go_simp; (try with_reducible rfl)
                (try simp only [Act.put, List.setIfInBounds_toArray, List.set_cons_zero, List.set_cons_succ])
                refine wpAnyH_take (i := 46) (oi := { dst := some 69, op := _, type := _, pos := _, after := _, guard := _ }) (v := ?_) rfl hns (by kernel_rfl) (by kernel_rfl) (fun _ _ _ h => h) (Or.inl ⟨by rfl, ?_⟩) (by assumption) ?_
                rotate_left
                · intro w hSw; (try dsimp only at hSw); go_simp; (try with_reducible rfl)
                (try simp only [Act.put, List.setIfInBounds_toArray, List.set_cons_zero, List.set_cons_succ])
                refine wpAnyH_take (i := 47) (oi := { dst := some 70, op := _, type := _, pos := _, after := _, guard := _ }) (v := ?_) rfl hns (by kernel_rfl) (by kernel_rfl) (fun _ _ _ h => h) (Or.inl ⟨by rfl, ?_⟩) (by assumption) ?_
                rotate_left
                · intro w hSw; (try dsimp only at hSw); go_simp; (try with_reducible rfl)
                (try simp only [Act.put, List.setIfInBounds_toArray, List.set_cons_zero, List.set_cons_succ])
                refine wpAnyH_ready (rs := [42]) (by kernel_rfl) (by simp) ?_
                refine AllReadyH.cons rfl (fun K hK => ?_) AllReadyH.nil
                go_simp
                refine (AD.out TA TB _ _ _ hHeld (TAH.out _ hHeld) (TBH.out _ hHeld)).mono ?_
                rintro e V42 ⟨h42, rfl, hx42, hb42, hq42⟩
                dsimp only
                refine hK.out _ _ hq42 (fun hHeld => ?_)
                clear hK K
                (try simp only [Act.put, List.setIfInBounds_toArray, List.set_cons_zero, List.set_cons_succ])
                refine wpAnyH_ready (rs := [44]) (by kernel_rfl) (by simp) ?_
                refine AllReadyH.cons rfl (fun K hK => ?_) AllReadyH.nil
                go_simp
                refine (BO.out 4 (by omega) (.op 3 TA TB) TB _ _ _ hHeld hx42 (TBH.out _ hHeld)).mono ?_
                rintro e V44 ⟨h44, rfl, hx44, hb44, hq44⟩
                dsimp only
                refine hK.out _ _ hq44 (fun hHeld => ?_)
                clear hK K
                (try simp only [Act.put, List.setIfInBounds_toArray, List.set_cons_zero, List.set_cons_succ])
                as_aux_lemma =>
                  refine wpAnyH_ready (rs := [45]) (by kernel_rfl) (by simp) ?_
                  refine AllReadyH.cons rfl (fun K hK => ?_) AllReadyH.nil
                  go_simp
                  refine (VV.out (.op 4 (.op 3 TA TB) TB) VA N3.out _ _ hHeld hx44).mono ?_
                  rintro e V45 ⟨rfl, hq45⟩
                  dsimp only
                  refine hK.out _ _ hq45 (fun hHeld => ?_)
                  clear hK K
                  (try simp only [Act.put, List.setIfInBounds_toArray, List.set_cons_zero, List.set_cons_succ])
                  refine wpAnyH_ready (rs := [48]) (by kernel_rfl) (by simp) ?_
                  refine AllReadyH.cons rfl (fun K hK => ?_) AllReadyH.nil
                  go_simp
                  refine (VV.out TA VA NA.out _ _ hHeld (TAH.out _ hHeld)).mono ?_
                  rintro e V48 ⟨rfl, hq48⟩
                  dsimp only
                  refine hK.out _ _ hq48 (fun hHeld => ?_)
                  clear hK K
                  (try simp only [Act.put, List.setIfInBounds_toArray, List.set_cons_zero, List.set_cons_succ])
                  refine wpAnyH_take (i := 49) (oi := { dst := some 72, op := _, type := _, pos := _, after := _, guard := _ }) (v := ?_) rfl hns (by kernel_rfl) (by kernel_rfl) (fun _ _ _ h => h) (Or.inl ⟨by rfl, ?_⟩) (by assumption) ?_
                  rotate_left
                  · intro w hSw; (try dsimp only at hSw); go_simp; (try with_reducible rfl)
                  (try simp only [Act.put, List.setIfInBounds_toArray, List.set_cons_zero, List.set_cons_succ])
                  refine wpAnyH_take (i := 50) (oi := { dst := some 73, op := _, type := _, pos := _, after := _, guard := _ }) (v := ?_) rfl hns (by kernel_rfl) (by kernel_rfl) (fun _ _ _ h => h) (Or.inl ⟨by rfl, ?_⟩) (by assumption) ?_
                  rotate_left
                  · intro w hSw; (try dsimp only at hSw); go_simp; (try with_reducible rfl)
                  (try simp only [Act.put, List.setIfInBounds_toArray, List.set_cons_zero, List.set_cons_succ])
                  refine wpAnyH_take (i := 51) (oi := { dst := some 74, op := _, type := _, pos := _, after := _, guard := _ }) (v := ?_) rfl hns (by kernel_rfl) (by kernel_rfl) (fun _ _ _ h => h) (Or.inl ⟨by rfl, ?_⟩) (by assumption) ?_
                  rotate_left
                  · intro w hSw; (try dsimp only at hSw); go_simp; (try with_reducible rfl)
                  (try simp only [Act.put, List.setIfInBounds_toArray, List.set_cons_zero, List.set_cons_succ])
                  refine wpAnyH_take (i := 52) (oi := { dst := some 75, op := _, type := _, pos := _, after := _, guard := _ }) (v := ?_) rfl hns (by kernel_rfl) (by kernel_rfl) (fun _ _ _ h => h) (Or.inl ⟨by rfl, ?_⟩) (by assumption) ?_
                  rotate_left
                  · intro w hSw; (try dsimp only at hSw); go_simp; (try with_reducible rfl)
                  (try simp only [Act.put, List.setIfInBounds_toArray, List.set_cons_zero, List.set_cons_succ])
                  refine wpAnyH_take (i := 53) (oi := { dst := some 76, op := _, type := _, pos := _, after := _, guard := _ }) (v := ?_) rfl hns (by kernel_rfl) (by kernel_rfl) (fun _ _ _ h => h) (Or.inl ⟨by rfl, ?_⟩) (by assumption) ?_
                  rotate_left
                  · intro w hSw; (try dsimp only at hSw); go_simp; (try with_reducible rfl)
                  (try simp only [Act.put, List.setIfInBounds_toArray, List.set_cons_zero, List.set_cons_succ])
                  refine wpAnyH_ready (rs := [54]) (by kernel_rfl) (by simp) ?_
                  refine AllReadyH.cons rfl (fun K hK => ?_) AllReadyH.nil
                  go_simp
                  refine (VV.out TB VB NB.out _ _ hHeld (TBH.out _ hHeld)).mono ?_
                  rintro e V54 ⟨rfl, hq54⟩
                  dsimp only
                  refine hK.out _ _ hq54 (fun hHeld => ?_)
                  clear hK K
                  (try simp only [Act.put, List.setIfInBounds_toArray, List.set_cons_zero, List.set_cons_succ])
                  by_cases hz : VB = 0
                  · have qz1 : (VB == 0) = true := by rw [beq_iff_eq]; exact hz
                    have HZB := Lib.hid hz
                    clear hz
                    refine wpAnyH_take (i := 55) (oi := { dst := some 78, op := _, type := _, pos := _, after := _, guard := _ }) (v := ?_) rfl hns (by kernel_rfl) (by kernel_rfl) (fun _ _ _ h => h) (Or.inl ⟨by rfl, ?_⟩) (by assumption) ?_
                    rotate_left
                    · intro w hSw; (try dsimp only at hSw); go_simp; (try with_reducible rfl)
                    (try simp only [Act.put, List.setIfInBounds_toArray, List.set_cons_zero, List.set_cons_succ])
                    refine wpAnyH_take (i := 56) (oi := { dst := some 79, op := _, type := _, pos := _, after := _, guard := _ }) (v := ?_) rfl hns (by kernel_rfl) (by kernel_rfl) (fun _ _ _ h => h) (Or.inl ⟨by rfl, ?_⟩) (by assumption) ?_
                    rotate_left
                    · intro w hSw; (try dsimp only at hSw); go_simp; (try with_reducible rfl)
                    (try simp only [Act.put, List.setIfInBounds_toArray, List.set_cons_zero, List.set_cons_succ])
                    refine wpAnyH_take (i := 57) (oi := { dst := some 80, op := _, type := _, pos := _, after := _, guard := _ }) (v := undef) rfl hns (by kernel_rfl) (by kernel_rfl) (fun _ _ _ h => h) (Or.inr ⟨by rfl, rfl⟩) (by assumption) ?_
                    (try simp only [Act.put, List.setIfInBounds_toArray, List.set_cons_zero, List.set_cons_succ])
                    refine wpAnyH_take (i := 58) (oi := { dst := some 81, op := _, type := _, pos := _, after := _, guard := _ }) (v := undef) rfl hns (by kernel_rfl) (by kernel_rfl) (fun _ _ _ h => h) (Or.inr ⟨by rfl, rfl⟩) (by assumption) ?_
                    (try simp only [Act.put, List.setIfInBounds_toArray, List.set_cons_zero, List.set_cons_succ])
                    refine wpAnyH_take (i := 59) (oi := { dst := some 82, op := _, type := _, pos := _, after := _, guard := _ }) (v := undef) rfl hns (by kernel_rfl) (by kernel_rfl) (fun _ _ _ h => h) (Or.inr ⟨by rfl, rfl⟩) (by assumption) ?_
                    (try simp only [Act.put, List.setIfInBounds_toArray, List.set_cons_zero, List.set_cons_succ])
                    refine wpAnyH_take (i := 60) (oi := { dst := some 83, op := _, type := _, pos := _, after := _, guard := _ }) (v := undef) rfl hns (by kernel_rfl) (by kernel_rfl) (fun _ _ _ h => h) (Or.inr ⟨by rfl, rfl⟩) (by assumption) ?_
                    (try simp only [Act.put, List.setIfInBounds_toArray, List.set_cons_zero, List.set_cons_succ])
                    refine wpAnyH_take (i := 61) (oi := { dst := some 84, op := _, type := _, pos := _, after := _, guard := _ }) (v := undef) rfl hns (by kernel_rfl) (by kernel_rfl) (fun _ _ _ h => h) (Or.inr ⟨by rfl, rfl⟩) (by assumption) ?_
                    (try simp only [Act.put, List.setIfInBounds_toArray, List.set_cons_zero, List.set_cons_succ])
                    refine wpAnyH_take (i := 62) (oi := { dst := some 85, op := _, type := _, pos := _, after := _, guard := _ }) (v := undef) rfl hns (by kernel_rfl) (by kernel_rfl) (fun _ _ _ h => h) (Or.inr ⟨by rfl, rfl⟩) (by assumption) ?_
                    (try simp only [Act.put, List.setIfInBounds_toArray, List.set_cons_zero, List.set_cons_succ])
                    refine wpAnyH_take (i := 63) (oi := { dst := some 86, op := _, type := _, pos := _, after := _, guard := _ }) (v := undef) rfl hns (by kernel_rfl) (by kernel_rfl) (fun _ _ _ h => h) (Or.inr ⟨by rfl, rfl⟩) (by assumption) ?_
                    (try simp only [Act.put, List.setIfInBounds_toArray, List.set_cons_zero, List.set_cons_succ])
                    refine wpAnyH_take (i := 64) (oi := { dst := some 87, op := _, type := _, pos := _, after := _, guard := _ }) (v := undef) rfl hns (by kernel_rfl) (by kernel_rfl) (fun _ _ _ h => h) (Or.inr ⟨by rfl, rfl⟩) (by assumption) ?_
                    (try simp only [Act.put, List.setIfInBounds_toArray, List.set_cons_zero, List.set_cons_succ])
                    refine wpAnyH_take (i := 65) (oi := { dst := some 88, op := _, type := _, pos := _, after := _, guard := _ }) (v := undef) rfl hns (by kernel_rfl) (by kernel_rfl) (fun _ _ _ h => h) (Or.inr ⟨by rfl, rfl⟩) (by assumption) ?_
                    (try simp only [Act.put, List.setIfInBounds_toArray, List.set_cons_zero, List.set_cons_succ])
                    refine wpAnyH_take (i := 66) (oi := { dst := some 89, op := _, type := _, pos := _, after := _, guard := _ }) (v := undef) rfl hns (by kernel_rfl) (by kernel_rfl) (fun _ _ _ h => h) (Or.inr ⟨by rfl, rfl⟩) (by assumption) ?_
                    (try simp only [Act.put, List.setIfInBounds_toArray, List.set_cons_zero, List.set_cons_succ])
                    refine wpAnyH_take (i := 67) (oi := { dst := some 90, op := _, type := _, pos := _, after := _, guard := _ }) (v := undef) rfl hns (by kernel_rfl) (by kernel_rfl) (fun _ _ _ h => h) (Or.inr ⟨by rfl, rfl⟩) (by assumption) ?_
                    (try simp only [Act.put, List.setIfInBounds_toArray, List.set_cons_zero, List.set_cons_succ])
                    refine wpAnyH_take (i := 68) (oi := { dst := some 91, op := _, type := _, pos := _, after := _, guard := _ }) (v := undef) rfl hns (by kernel_rfl) (by kernel_rfl) (fun _ _ _ h => h) (Or.inr ⟨by rfl, rfl⟩) (by assumption) ?_
                    (try simp only [Act.put, List.setIfInBounds_toArray, List.set_cons_zero, List.set_cons_succ])
                    refine wpAnyH_take (i := 69) (oi := { dst := some 92, op := _, type := _, pos := _, after := _, guard := _ }) (v := undef) rfl hns (by kernel_rfl) (by kernel_rfl) (fun _ _ _ h => h) (Or.inr ⟨by rfl, rfl⟩) (by assumption) ?_
                    (try simp only [Act.put, List.setIfInBounds_toArray, List.set_cons_zero, List.set_cons_succ])
                    refine wpAnyH_take (i := 70) (oi := { dst := some 93, op := _, type := _, pos := _, after := _, guard := _ }) (v := ?_) rfl hns (by kernel_rfl) (by kernel_rfl) (fun _ _ _ h => h) (Or.inl ⟨by rfl, ?_⟩) (by assumption) ?_
                    rotate_left
                    · intro w hSw; (try dsimp only at hSw); go_simp; (try with_reducible rfl)
                    (try simp only [Act.put, List.setIfInBounds_toArray, List.set_cons_zero, List.set_cons_succ])
                    refine wpAnyH_take (i := 71) (oi := { dst := some 94, op := _, type := _, pos := _, after := _, guard := _ }) (v := ?_) rfl hns (by kernel_rfl) (by kernel_rfl) (fun _ _ _ h => h) (Or.inl ⟨by rfl, ?_⟩) (by assumption) ?_
                    rotate_left
                    · intro w hSw; (try dsimp only at hSw); go_simp; (try with_reducible rfl)
                    (try simp only [Act.put, List.setIfInBounds_toArray, List.set_cons_zero, List.set_cons_succ])
                    as_aux_lemma =>
                      refine wpAnyH_take (i := 72) (oi := { dst := some 95, op := _, type := _, pos := _, after := _, guard := _ }) (v := ?_) rfl hns (by kernel_rfl) (by kernel_rfl) (fun _ _ _ h => h) (Or.inl ⟨by rfl, ?_⟩) (by assumption) ?_
                      rotate_left
                      · intro w hSw; (try dsimp only at hSw); go_simp; (try with_reducible rfl)
                      (try simp only [Act.put, List.setIfInBounds_toArray, List.set_cons_zero, List.set_cons_succ])
                      refine wpAnyH_take (i := 73) (oi := { dst := some 96, op := _, type := _, pos := _, after := _, guard := _ }) (v := ?_) rfl hns (by kernel_rfl) (by kernel_rfl) (fun _ _ _ h => h) (Or.inl ⟨by rfl, ?_⟩) (by assumption) ?_
                      rotate_left
                      · intro w hSw; (try dsimp only at hSw); go_simp; (try with_reducible rfl)
                      (try simp only [Act.put, List.setIfInBounds_toArray, List.set_cons_zero, List.set_cons_succ])
                      refine wpAnyH_take (i := 74) (oi := { dst := some 97, op := _, type := _, pos := _, after := _, guard := _ }) (v := ?_) rfl hns (by kernel_rfl) (by kernel_rfl) (fun _ _ _ h => h) (Or.inl ⟨by rfl, ?_⟩) (by assumption) ?_
                      rotate_left
                      · intro w hSw; (try dsimp only at hSw); go_simp; (try with_reducible rfl)
                      (try simp only [Act.put, List.setIfInBounds_toArray, List.set_cons_zero, List.set_cons_succ])
                      refine wpAnyH_take (i := 75) (oi := { dst := some 98, op := _, type := _, pos := _, after := _, guard := _ }) (v := ?_) rfl hns (by kernel_rfl) (by kernel_rfl) (fun _ _ _ h => h) (Or.inl ⟨by rfl, ?_⟩) (by assumption) ?_
                      rotate_left
                      · intro w hSw; (try dsimp only at hSw); go_simp; (try with_reducible rfl)
                      (try simp only [Act.put, List.setIfInBounds_toArray, List.set_cons_zero, List.set_cons_succ])
                      refine wpAnyH_take (i := 78) (oi := { dst := some 101, op := _, type := _, pos := _, after := _, guard := _ }) (v := ?_) rfl hns (by kernel_rfl) (by kernel_rfl) (fun _ _ _ h => h) (Or.inl ⟨by rfl, ?_⟩) (by assumption) ?_
                      rotate_left
                      · intro w hSw; (try dsimp only at hSw); go_simp; (try with_reducible rfl)
                      (try simp only [Act.put, List.setIfInBounds_toArray, List.set_cons_zero, List.set_cons_succ])
                      refine wpAnyH_take (i := 79) (oi := { dst := some 102, op := _, type := _, pos := _, after := _, guard := _ }) (v := ?_) rfl hns (by kernel_rfl) (by kernel_rfl) (fun _ _ _ h => h) (Or.inl ⟨by rfl, ?_⟩) (by assumption) ?_
                      rotate_left
                      · intro w hSw; (try dsimp only at hSw); go_simp; (try with_reducible rfl)
                      (try simp only [Act.put, List.setIfInBounds_toArray, List.set_cons_zero, List.set_cons_succ])
                      refine wpAnyH_take (i := 80) (oi := { dst := some 103, op := _, type := _, pos := _, after := _, guard := _ }) (v := ?_) rfl hns (by kernel_rfl) (by kernel_rfl) (fun _ _ _ h => h) (Or.inl ⟨by rfl, ?_⟩) (by assumption) ?_
                      rotate_left
                      · intro w hSw; (try dsimp only at hSw); go_simp; (try with_reducible rfl)
                      (try simp only [Act.put, List.setIfInBounds_toArray, List.set_cons_zero, List.set_cons_succ])
                      refine wpAnyH_take (i := 84) (oi := { dst := some 107, op := _, type := _, pos := _, after := _, guard := _ }) (v := ?_) rfl hns (by kernel_rfl) (by kernel_rfl) (fun _ _ _ h => h) (Or.inl ⟨by rfl, ?_⟩) (by assumption) ?_
                      rotate_left
                      · intro w hSw; (try dsimp only at hSw); go_simp; (try with_reducible rfl)
                      (try simp only [Act.put, List.setIfInBounds_toArray, List.set_cons_zero, List.set_cons_succ])
                      refine wpAnyH_take (i := 85) (oi := { dst := some 108, op := _, type := _, pos := _, after := _, guard := _ }) (v := ?_) rfl hns (by kernel_rfl) (by kernel_rfl) (fun _ _ _ h => h) (Or.inl ⟨by rfl, ?_⟩) (by assumption) ?_
                      rotate_left
                      · intro w hSw; (try dsimp only at hSw); go_simp; (try with_reducible rfl)
                      (try simp only [Act.put, List.setIfInBounds_toArray, List.set_cons_zero, List.set_cons_succ])
                      refine wpAnyH_take (i := 86) (oi := { dst := some 109, op := _, type := _, pos := _, after := _, guard := _ }) (v := ?_) rfl hns (by kernel_rfl) (by kernel_rfl) (fun _ _ _ h => h) (Or.inl ⟨by rfl, ?_⟩) (by assumption) ?_
                      rotate_left
                      · intro w hSw; (try dsimp only at hSw); go_simp; (try with_reducible rfl)
                      (try simp only [Act.put, List.setIfInBounds_toArray, List.set_cons_zero, List.set_cons_succ])
                      as_aux_lemma =>
                        refine wpAnyH_ready (rs := [76]) (by kernel_rfl) (by simp) ?_
                        refine AllReadyH.cons rfl (fun K hK => ?_) AllReadyH.nil
                        go_simp
                        refine (BO.out 8 (by omega) TA TB _ _ _ hHeld (TAH.out _ hHeld) (TBH.out _ hHeld)).mono ?_
                        rintro e V76 ⟨h76, rfl, hx76, hb76, hq76⟩
                        dsimp only
                        refine hK.out _ _ hq76 (fun hHeld => ?_)
                        clear hK K
                        (try simp only [Act.put, List.setIfInBounds_toArray, List.set_cons_zero, List.set_cons_succ])
                        refine wpAnyH_ready (rs := [77]) (by kernel_rfl) (by simp) ?_
                        refine AllReadyH.cons rfl (fun K hK => ?_) AllReadyH.nil
                        go_simp
                        refine (VV.out (.op 8 TA TB) L1 N5.out _ _ hHeld hx76).mono ?_
                        rintro e V77 ⟨rfl, hq77⟩
                        dsimp only
                        refine hK.out _ _ hq77 (fun hHeld => ?_)
                        clear hK K
                        (try simp only [Act.put, List.setIfInBounds_toArray, List.set_cons_zero, List.set_cons_succ])
                        refine wpAnyH_ready (rs := [81]) (by kernel_rfl) (by simp) ?_
                        refine AllReadyH.cons rfl (fun K hK => ?_) AllReadyH.nil
                        go_simp
                        refine (BO.out 8 (by omega) TB TA _ _ _ hHeld (TBH.out _ hHeld) (TAH.out _ hHeld)).mono ?_
                        rintro e V81 ⟨h81, rfl, hx81, hb81, hq81⟩
                        dsimp only
                        refine hK.out _ _ hq81 (fun hHeld => ?_)
                        clear hK K
                        (try simp only [Act.put, List.setIfInBounds_toArray, List.set_cons_zero, List.set_cons_succ])
                        refine wpAnyH_ready (rs := [82]) (by kernel_rfl) (by simp) ?_
                        refine AllReadyH.cons rfl (fun K hK => ?_) AllReadyH.nil
                        go_simp
                        refine (VV.out (.op 8 TB TA) L2 N6.out _ _ hHeld hx81).mono ?_
                        rintro e V82 ⟨rfl, hq82⟩
                        dsimp only
                        refine hK.out _ _ hq82 (fun hHeld => ?_)
                        clear hK K
                        (try simp only [Act.put, List.setIfInBounds_toArray, List.set_cons_zero, List.set_cons_succ])
                        refine wpAnyH_take (i := 83) (oi := { dst := some 106, op := _, type := _, pos := _, after := _, guard := _ }) (v := ?_) rfl hns (by kernel_rfl) (by kernel_rfl) (fun _ _ _ h => h) (Or.inl ⟨by rfl, ?_⟩) (by assumption) ?_
                        rotate_left
                        · intro w hSw; (try dsimp only at hSw); go_simp; (try with_reducible rfl)
                        (try simp only [Act.put, List.setIfInBounds_toArray, List.set_cons_zero, List.set_cons_succ])
                        as_aux_lemma =>
                          refine wpAnyH_ready (rs := [87]) (by kernel_rfl) (by simp) ?_
                          refine AllReadyH.cons rfl (fun K hK => ?_) AllReadyH.nil
                          go_simp
                          refine (BO.out 9 (by omega) TA TB _ _ _ hHeld (TAH.out _ hHeld) (TBH.out _ hHeld)).mono ?_
                          rintro e V87 ⟨h87, rfl, hx87, hb87, hq87⟩
                          dsimp only
                          refine hK.out _ _ hq87 (fun hHeld => ?_)
                          clear hK K
                          (try simp only [Act.put, List.setIfInBounds_toArray, List.set_cons_zero, List.set_cons_succ])
                          refine wpAnyH_ready (rs := [88]) (by kernel_rfl) (by simp) ?_
                          refine AllReadyH.cons rfl (fun K hK => ?_) AllReadyH.nil
                          go_simp
                          refine (VV.out (.op 9 TA TB) L3 N7.out _ _ hHeld hx87).mono ?_
                          rintro e V88 ⟨rfl, hq88⟩
                          dsimp only
                          refine hK.out _ _ hq88 (fun hHeld => ?_)
                          clear hK K
                          (try simp only [Act.put, List.setIfInBounds_toArray, List.set_cons_zero, List.set_cons_succ])
                          refine wpAnyH_take (i := 89) (oi := { dst := some 112, op := _, type := _, pos := _, after := _, guard := _ }) (v := ?_) rfl hns (by kernel_rfl) (by kernel_rfl) (fun _ _ _ h => h) (Or.inl ⟨by rfl, ?_⟩) (by assumption) ?_
                          rotate_left
                          · intro w hSw; (try dsimp only at hSw); go_simp; (try with_reducible rfl)
                          (try simp only [Act.put, List.setIfInBounds_toArray, List.set_cons_zero, List.set_cons_succ])
                          refine wpAnyH_take (i := 90) (oi := { dst := some 113, op := _, type := _, pos := _, after := _, guard := _ }) (v := ?_) rfl hns (by kernel_rfl) (by kernel_rfl) (fun _ _ _ h => h) (Or.inl ⟨by rfl, ?_⟩) (by assumption) ?_
                          rotate_left
                          · intro w hSw; (try dsimp only at hSw); go_simp; (try with_reducible rfl)
                          (try simp only [Act.put, List.setIfInBounds_toArray, List.set_cons_zero, List.set_cons_succ])
                          refine wpAnyH_take (i := 91) (oi := { dst := some 114, op := _, type := _, pos := _, after := _, guard := _ }) (v := ?_) rfl hns (by kernel_rfl) (by kernel_rfl) (fun _ _ _ h => h) (Or.inl ⟨by rfl, ?_⟩) (by assumption) ?_
                          rotate_left
                          · intro w hSw; (try dsimp only at hSw); go_simp; (try with_reducible rfl)
                          (try simp only [Act.put, List.setIfInBounds_toArray, List.set_cons_zero, List.set_cons_succ])
                          refine wpAnyH_take (i := 92) (oi := { dst := some 8, op := _, type := _, pos := _, after := _, guard := _ }) (v := ?_) rfl hns (by kernel_rfl) (by kernel_rfl) (fun _ _ _ h => h) (Or.inl ⟨by rfl, ?_⟩) (by assumption) ?_
                          rotate_left
                          · intro w hSw; (try dsimp only at hSw); go_simp; (try with_reducible rfl)
                          (try simp only [Act.put, List.setIfInBounds_toArray, List.set_cons_zero, List.set_cons_succ])
                          refine wpAnyH_done (by kernel_rfl) ?_ _
                          go_wp2_with fail
                          go_ret
                          exact ⟨rfl, HZ3.out.trans (hHeld.bel.mono HZ3.out.size)⟩
                  · have qz1 : (VB == 0) = false := by rw [beq_eq_false_iff_ne]; exact hz
                    have N4 := N4'.out hz
                    clear hz
                    refine wpAnyH_take (i := 55) (oi := { dst := some 78, op := _, type := _, pos := _, after := _, guard := _ }) (v := ?_) rfl hns (by kernel_rfl) (by kernel_rfl) (fun _ _ _ h => h) (Or.inl ⟨by rfl, ?_⟩) (by assumption) ?_
                    rotate_left
                    · intro w hSw; (try dsimp only at hSw); go_simp; (try with_reducible rfl)
                    (try simp only [Act.put, List.setIfInBounds_toArray, List.set_cons_zero, List.set_cons_succ])
                    refine wpAnyH_take (i := 56) (oi := { dst := some 79, op := _, type := _, pos := _, after := _, guard := _ }) (v := ?_) rfl hns (by kernel_rfl) (by kernel_rfl) (fun _ _ _ h => h) (Or.inl ⟨by rfl, ?_⟩) (by assumption) ?_
                    rotate_left
                    · intro w hSw; (try dsimp only at hSw); go_simp; (try with_reducible rfl)
                    (try simp only [Act.put, List.setIfInBounds_toArray, List.set_cons_zero, List.set_cons_succ])
                    refine wpAnyH_take (i := 57) (oi := { dst := some 80, op := _, type := _, pos := _, after := _, guard := _ }) (v := ?_) rfl hns (by kernel_rfl) (by kernel_rfl) (fun _ _ _ h => h) (Or.inl ⟨by rfl, ?_⟩) (by assumption) ?_
                    rotate_left
                    · intro w hSw; (try dsimp only at hSw); go_simp; (try with_reducible rfl)
                    (try simp only [Act.put, List.setIfInBounds_toArray, List.set_cons_zero, List.set_cons_succ])
                    refine wpAnyH_take (i := 58) (oi := { dst := some 81, op := _, type := _, pos := _, after := _, guard := _ }) (v := ?_) rfl hns (by kernel_rfl) (by kernel_rfl) (fun _ _ _ h => h) (Or.inl ⟨by rfl, ?_⟩) (by assumption) ?_
                    rotate_left
                    · intro w hSw; (try dsimp only at hSw); go_simp; (try with_reducible rfl)
                    (try simp only [Act.put, List.setIfInBounds_toArray, List.set_cons_zero, List.set_cons_succ])
                    refine wpAnyH_take (i := 59) (oi := { dst := some 82, op := _, type := _, pos := _, after := _, guard := _ }) (v := ?_) rfl hns (by kernel_rfl) (by kernel_rfl) (fun _ _ _ h => h) (Or.inl ⟨by rfl, ?_⟩) (by assumption) ?_
                    rotate_left
                    · intro w hSw; (try dsimp only at hSw); go_simp; (try with_reducible rfl)
                    (try simp only [Act.put, List.setIfInBounds_toArray, List.set_cons_zero, List.set_cons_succ])
                    refine wpAnyH_take (i := 60) (oi := { dst := some 83, op := _, type := _, pos := _, after := _, guard := _ }) (v := ?_) rfl hns (by kernel_rfl) (by kernel_rfl) (fun _ _ _ h => h) (Or.inl ⟨by rfl, ?_⟩) (by assumption) ?_
                    rotate_left
                    · intro w hSw; (try dsimp only at hSw); go_simp; (try with_reducible rfl)
                    (try simp only [Act.put, List.setIfInBounds_toArray, List.set_cons_zero, List.set_cons_succ])
                    refine wpAnyH_take (i := 61) (oi := { dst := some 84, op := _, type := _, pos := _, after := _, guard := _ }) (v := ?_) rfl hns (by kernel_rfl) (by kernel_rfl) (fun _ _ _ h => h) (Or.inl ⟨by rfl, ?_⟩) (by assumption) ?_
                    rotate_left
                    · intro w hSw; (try dsimp only at hSw); go_simp; (try with_reducible rfl)
                    (try simp only [Act.put, List.setIfInBounds_toArray, List.set_cons_zero, List.set_cons_succ])
                    refine wpAnyH_take (i := 63) (oi := { dst := some 86, op := _, type := _, pos := _, after := _, guard := _ }) (v := ?_) rfl hns (by kernel_rfl) (by kernel_rfl) (fun _ _ _ h => h) (Or.inl ⟨by rfl, ?_⟩) (by assumption) ?_
                    rotate_left
                    · intro w hSw; (try dsimp only at hSw); go_simp; (try with_reducible rfl)
                    (try simp only [Act.put, List.setIfInBounds_toArray, List.set_cons_zero, List.set_cons_succ])
                    refine wpAnyH_take (i := 66) (oi := { dst := some 89, op := _, type := _, pos := _, after := _, guard := _ }) (v := ?_) rfl hns (by kernel_rfl) (by kernel_rfl) (fun _ _ _ h => h) (Or.inl ⟨by rfl, ?_⟩) (by assumption) ?_
                    rotate_left
                    · intro w hSw; (try dsimp only at hSw); go_simp; (try with_reducible rfl)
                    (try simp only [Act.put, List.setIfInBounds_toArray, List.set_cons_zero, List.set_cons_succ])
                    refine wpAnyH_take (i := 67) (oi := { dst := some 90, op := _, type := _, pos := _, after := _, guard := _ }) (v := ?_) rfl hns (by kernel_rfl) (by kernel_rfl) (fun _ _ _ h => h) (Or.inl ⟨by rfl, ?_⟩) (by assumption) ?_
                    rotate_left
                    · intro w hSw; (try dsimp only at hSw); go_simp; (try with_reducible rfl)
                    (try simp only [Act.put, List.setIfInBounds_toArray, List.set_cons_zero, List.set_cons_succ])
                    as_aux_lemma =>
                      refine wpAnyH_ready (rs := [62]) (by kernel_rfl) (by simp) ?_
                      refine AllReadyH.cons rfl (fun K hK => ?_) AllReadyH.nil
                      go_simp
                      refine (MU.out (.op 6 TA TB) TB _ _ _ hHeld (TQH.out _ hHeld) (TBH.out _ hHeld)).mono ?_
                      rintro e V62 ⟨h62, rfl, hx62, hb62, hq62⟩
                      dsimp only
                      refine hK.out _ _ hq62 (fun hHeld => ?_)
                      clear hK K
                      (try simp only [Act.put, List.setIfInBounds_toArray, List.set_cons_zero, List.set_cons_succ])
                      refine wpAnyH_ready (rs := [64]) (by kernel_rfl) (by simp) ?_
                      refine AllReadyH.cons rfl (fun K hK => ?_) AllReadyH.nil
                      go_simp
                      refine (AD.out (.op 5 (.op 6 TA TB) TB) (.op 7 TA TB) _ _ _ hHeld hx62 (TRH.out _ hHeld)).mono ?_
                      rintro e V64 ⟨h64, rfl, hx64, hb64, hq64⟩
                      dsimp only
                      refine hK.out _ _ hq64 (fun hHeld => ?_)
                      clear hK K
                      (try simp only [Act.put, List.setIfInBounds_toArray, List.set_cons_zero, List.set_cons_succ])
                      refine wpAnyH_ready (rs := [65]) (by kernel_rfl) (by simp) ?_
                      refine AllReadyH.cons rfl (fun K hK => ?_) AllReadyH.nil
                      go_simp
                      refine (VV.out (.op 3 (.op 5 (.op 6 TA TB) TB) (.op 7 TA TB)) VA N4.out _ _ hHeld hx64).mono ?_
                      rintro e V65 ⟨rfl, hq65⟩
                      dsimp only
                      refine hK.out _ _ hq65 (fun hHeld => ?_)
                      clear hK K
                      (try simp only [Act.put, List.setIfInBounds_toArray, List.set_cons_zero, List.set_cons_succ])
                      refine wpAnyH_ready (rs := [68]) (by kernel_rfl) (by simp) ?_
                      refine AllReadyH.cons rfl (fun K hK => ?_) AllReadyH.nil
                      go_simp
                      refine (VV.out TA VA NA.out _ _ hHeld (TAH.out _ hHeld)).mono ?_
                      rintro e V68 ⟨rfl, hq68⟩
                      dsimp only
                      refine hK.out _ _ hq68 (fun hHeld => ?_)
                      clear hK K
                      (try simp only [Act.put, List.setIfInBounds_toArray, List.set_cons_zero, List.set_cons_succ])
                      refine wpAnyH_take (i := 69) (oi := { dst := some 92, op := _, type := _, pos := _, after := _, guard := _ }) (v := ?_) rfl hns (by kernel_rfl) (by kernel_rfl) (fun _ _ _ h => h) (Or.inl ⟨by rfl, ?_⟩) (by assumption) ?_
                      rotate_left
                      · intro w hSw; (try dsimp only at hSw); go_simp; (try with_reducible rfl)
                      (try simp only [Act.put, List.setIfInBounds_toArray, List.set_cons_zero, List.set_cons_succ])
                      as_aux_lemma =>
                        refine wpAnyH_take (i := 70) (oi := { dst := some 93, op := _, type := _, pos := _, after := _, guard := _ }) (v := ?_) rfl hns (by kernel_rfl) (by kernel_rfl) (fun _ _ _ h => h) (Or.inl ⟨by rfl, ?_⟩) (by assumption) ?_
                        rotate_left
                        · intro w hSw; (try dsimp only at hSw); go_simp; (try with_reducible rfl)
                        (try simp only [Act.put, List.setIfInBounds_toArray, List.set_cons_zero, List.set_cons_succ])
                        refine wpAnyH_take (i := 71) (oi := { dst := some 94, op := _, type := _, pos := _, after := _, guard := _ }) (v := ?_) rfl hns (by kernel_rfl) (by kernel_rfl) (fun _ _ _ h => h) (Or.inl ⟨by rfl, ?_⟩) (by assumption) ?_
                        rotate_left
                        · intro w hSw; (try dsimp only at hSw); go_simp; (try with_reducible rfl)
                        (try simp only [Act.put, List.setIfInBounds_toArray, List.set_cons_zero, List.set_cons_succ])
                        refine wpAnyH_take (i := 72) (oi := { dst := some 95, op := _, type := _, pos := _, after := _, guard := _ }) (v := ?_) rfl hns (by kernel_rfl) (by kernel_rfl) (fun _ _ _ h => h) (Or.inl ⟨by rfl, ?_⟩) (by assumption) ?_
                        rotate_left
                        · intro w hSw; (try dsimp only at hSw); go_simp; (try with_reducible rfl)
                        (try simp only [Act.put, List.setIfInBounds_toArray, List.set_cons_zero, List.set_cons_succ])
                        refine wpAnyH_take (i := 73) (oi := { dst := some 96, op := _, type := _, pos := _, after := _, guard := _ }) (v := ?_) rfl hns (by kernel_rfl) (by kernel_rfl) (fun _ _ _ h => h) (Or.inl ⟨by rfl, ?_⟩) (by assumption) ?_
                        rotate_left
                        · intro w hSw; (try dsimp only at hSw); go_simp; (try with_reducible rfl)
                        (try simp only [Act.put, List.setIfInBounds_toArray, List.set_cons_zero, List.set_cons_succ])
                        refine wpAnyH_take (i := 74) (oi := { dst := some 97, op := _, type := _, pos := _, after := _, guard := _ }) (v := ?_) rfl hns (by kernel_rfl) (by kernel_rfl) (fun _ _ _ h => h) (Or.inl ⟨by rfl, ?_⟩) (by assumption) ?_
                        rotate_left
                        · intro w hSw; (try dsimp only at hSw); go_simp; (try with_reducible rfl)
                        (try simp only [Act.put, List.setIfInBounds_toArray, List.set_cons_zero, List.set_cons_succ])
                        refine wpAnyH_take (i := 75) (oi := { dst := some 98, op := _, type := _, pos := _, after := _, guard := _ }) (v := ?_) rfl hns (by kernel_rfl) (by kernel_rfl) (fun _ _ _ h => h) (Or.inl ⟨by rfl, ?_⟩) (by assumption) ?_
                        rotate_left
                        · intro w hSw; (try dsimp only at hSw); go_simp; (try with_reducible rfl)
                        (try simp only [Act.put, List.setIfInBounds_toArray, List.set_cons_zero, List.set_cons_succ])
                        refine wpAnyH_take (i := 78) (oi := { dst := some 101, op := _, type := _, pos := _, after := _, guard := _ }) (v := ?_) rfl hns (by kernel_rfl) (by kernel_rfl) (fun _ _ _ h => h) (Or.inl ⟨by rfl, ?_⟩) (by assumption) ?_
                        rotate_left
                        · intro w hSw; (try dsimp only at hSw); go_simp; (try with_reducible rfl)
                        (try simp only [Act.put, List.setIfInBounds_toArray, List.set_cons_zero, List.set_cons_succ])
                        refine wpAnyH_take (i := 79) (oi := { dst := some 102, op := _, type := _, pos := _, after := _, guard := _ }) (v := ?_) rfl hns (by kernel_rfl) (by kernel_rfl) (fun _ _ _ h => h) (Or.inl ⟨by rfl, ?_⟩) (by assumption) ?_
                        rotate_left
                        · intro w hSw; (try dsimp only at hSw); go_simp; (try with_reducible rfl)
                        (try simp only [Act.put, List.setIfInBounds_toArray, List.set_cons_zero, List.set_cons_succ])
                        refine wpAnyH_take (i := 80) (oi := { dst := some 103, op := _, type := _, pos := _, after := _, guard := _ }) (v := ?_) rfl hns (by kernel_rfl) (by kernel_rfl) (fun _ _ _ h => h) (Or.inl ⟨by rfl, ?_⟩) (by assumption) ?_
                        rotate_left
                        · intro w hSw; (try dsimp only at hSw); go_simp; (try with_reducible rfl)
                        (try simp only [Act.put, List.setIfInBounds_toArray, List.set_cons_zero, List.set_cons_succ])
                        refine wpAnyH_take (i := 84) (oi := { dst := some 107, op := _, type := _, pos := _, after := _, guard := _ }) (v := ?_) rfl hns (by kernel_rfl) (by kernel_rfl) (fun _ _ _ h => h) (Or.inl ⟨by rfl, ?_⟩) (by assumption) ?_
                        rotate_left
                        · intro w hSw; (try dsimp only at hSw); go_simp; (try with_reducible rfl)
                        (try simp only [Act.put, List.setIfInBounds_toArray, List.set_cons_zero, List.set_cons_succ])
                        as_aux_lemma =>
                          refine wpAnyH_take (i := 85) (oi := { dst := some 108, op := _, type := _, pos := _, after := _, guard := _ }) (v := ?_) rfl hns (by kernel_rfl) (by kernel_rfl) (fun _ _ _ h => h) (Or.inl ⟨by rfl, ?_⟩) (by assumption) ?_
                          rotate_left
                          · intro w hSw; (try dsimp only at hSw); go_simp; (try with_reducible rfl)
                          (try simp only [Act.put, List.setIfInBounds_toArray, List.set_cons_zero, List.set_cons_succ])
                          refine wpAnyH_take (i := 86) (oi := { dst := some 109, op := _, type := _, pos := _, after := _, guard := _ }) (v := ?_) rfl hns (by kernel_rfl) (by kernel_rfl) (fun _ _ _ h => h) (Or.inl ⟨by rfl, ?_⟩) (by assumption) ?_
                          rotate_left
                          · intro w hSw; (try dsimp only at hSw); go_simp; (try with_reducible rfl)
                          (try simp only [Act.put, List.setIfInBounds_toArray, List.set_cons_zero, List.set_cons_succ])
                          refine wpAnyH_ready (rs := [76]) (by kernel_rfl) (by simp) ?_
                          refine AllReadyH.cons rfl (fun K hK => ?_) AllReadyH.nil
                          go_simp
                          refine (BO.out 8 (by omega) TA TB _ _ _ hHeld (TAH.out _ hHeld) (TBH.out _ hHeld)).mono ?_
                          rintro e V76 ⟨h76, rfl, hx76, hb76, hq76⟩
                          dsimp only
                          refine hK.out _ _ hq76 (fun hHeld => ?_)
                          clear hK K
                          (try simp only [Act.put, List.setIfInBounds_toArray, List.set_cons_zero, List.set_cons_succ])
                          refine wpAnyH_ready (rs := [77]) (by kernel_rfl) (by simp) ?_
                          refine AllReadyH.cons rfl (fun K hK => ?_) AllReadyH.nil
                          go_simp
                          refine (VV.out (.op 8 TA TB) L1 N5.out _ _ hHeld hx76).mono ?_
                          rintro e V77 ⟨rfl, hq77⟩
                          dsimp only
                          refine hK.out _ _ hq77 (fun hHeld => ?_)
                          clear hK K
                          (try simp only [Act.put, List.setIfInBounds_toArray, List.set_cons_zero, List.set_cons_succ])
                          refine wpAnyH_ready (rs := [81]) (by kernel_rfl) (by simp) ?_
                          refine AllReadyH.cons rfl (fun K hK => ?_) AllReadyH.nil
                          go_simp
                          refine (BO.out 8 (by omega) TB TA _ _ _ hHeld (TBH.out _ hHeld) (TAH.out _ hHeld)).mono ?_
                          rintro e V81 ⟨h81, rfl, hx81, hb81, hq81⟩
                          dsimp only
                          refine hK.out _ _ hq81 (fun hHeld => ?_)
                          clear hK K
                          (try simp only [Act.put, List.setIfInBounds_toArray, List.set_cons_zero, List.set_cons_succ])
                          refine wpAnyH_ready (rs := [82]) (by kernel_rfl) (by simp) ?_
                          refine AllReadyH.cons rfl (fun K hK => ?_) AllReadyH.nil
                          go_simp
                          refine (VV.out (.op 8 TB TA) L2 N6.out _ _ hHeld hx81).mono ?_
                          rintro e V82 ⟨rfl, hq82⟩
                          dsimp only
                          refine hK.out _ _ hq82 (fun hHeld => ?_)
                          clear hK K
                          (try simp only [Act.put, List.setIfInBounds_toArray, List.set_cons_zero, List.set_cons_succ])
                          as_aux_lemma =>
                            refine wpAnyH_take (i := 83) (oi := { dst := some 106, op := _, type := _, pos := _, after := _, guard := _ }) (v := ?_) rfl hns (by kernel_rfl) (by kernel_rfl) (fun _ _ _ h => h) (Or.inl ⟨by rfl, ?_⟩) (by assumption) ?_
                            rotate_left
                            · intro w hSw; (try dsimp only at hSw); go_simp; (try with_reducible rfl)
                            (try simp only [Act.put, List.setIfInBounds_toArray, List.set_cons_zero, List.set_cons_succ])
                            refine wpAnyH_ready (rs := [87]) (by kernel_rfl) (by simp) ?_
                            refine AllReadyH.cons rfl (fun K hK => ?_) AllReadyH.nil
                            go_simp
                            refine (BO.out 9 (by omega) TA TB _ _ _ hHeld (TAH.out _ hHeld) (TBH.out _ hHeld)).mono ?_
                            rintro e V87 ⟨h87, rfl, hx87, hb87, hq87⟩
                            dsimp only
                            refine hK.out _ _ hq87 (fun hHeld => ?_)
                            clear hK K
                            (try simp only [Act.put, List.setIfInBounds_toArray, List.set_cons_zero, List.set_cons_succ])
                            refine wpAnyH_ready (rs := [88]) (by kernel_rfl) (by simp) ?_
                            refine AllReadyH.cons rfl (fun K hK => ?_) AllReadyH.nil
                            go_simp
                            refine (VV.out (.op 9 TA TB) L3 N7.out _ _ hHeld hx87).mono ?_
                            rintro e V88 ⟨rfl, hq88⟩
                            dsimp only
                            refine hK.out _ _ hq88 (fun hHeld => ?_)
                            clear hK K
                            (try simp only [Act.put, List.setIfInBounds_toArray, List.set_cons_zero, List.set_cons_succ])
                            refine wpAnyH_take (i := 89) (oi := { dst := some 112, op := _, type := _, pos := _, after := _, guard := _ }) (v := ?_) rfl hns (by kernel_rfl) (by kernel_rfl) (fun _ _ _ h => h) (Or.inl ⟨by rfl, ?_⟩) (by assumption) ?_
                            rotate_left
                            · intro w hSw; (try dsimp only at hSw); go_simp; (try with_reducible rfl)
                            (try simp only [Act.put, List.setIfInBounds_toArray, List.set_cons_zero, List.set_cons_succ])
                            refine wpAnyH_take (i := 90) (oi := { dst := some 113, op := _, type := _, pos := _, after := _, guard := _ }) (v := ?_) rfl hns (by kernel_rfl) (by kernel_rfl) (fun _ _ _ h => h) (Or.inl ⟨by rfl, ?_⟩) (by assumption) ?_
                            rotate_left
                            · intro w hSw; (try dsimp only at hSw); go_simp; (try with_reducible rfl)
                            (try simp only [Act.put, List.setIfInBounds_toArray, List.set_cons_zero, List.set_cons_succ])
                            refine wpAnyH_take (i := 91) (oi := { dst := some 114, op := _, type := _, pos := _, after := _, guard := _ }) (v := ?_) rfl hns (by kernel_rfl) (by kernel_rfl) (fun _ _ _ h => h) (Or.inl ⟨by rfl, ?_⟩) (by assumption) ?_
                            rotate_left
                            · intro w hSw; (try dsimp only at hSw); go_simp; (try with_reducible rfl)
                            (try simp only [Act.put, List.setIfInBounds_toArray, List.set_cons_zero, List.set_cons_succ])
                            refine wpAnyH_take (i := 92) (oi := { dst := some 8, op := _, type := _, pos := _, after := _, guard := _ }) (v := ?_) rfl hns (by kernel_rfl) (by kernel_rfl) (fun _ _ _ h => h) (Or.inl ⟨by rfl, ?_⟩) (by assumption) ?_
                            rotate_left
                            · intro w hSw; (try dsimp only at hSw); go_simp; (try with_reducible rfl)
                            (try simp only [Act.put, List.setIfInBounds_toArray, List.set_cons_zero, List.set_cons_succ])
                            refine wpAnyH_done (by kernel_rfl) ?_ _
                            go_wp2_with fail
                            go_ret
                            exact ⟨rfl, HZ3.out.trans (hHeld.bel.mono HZ3.out.size)⟩
end Go.Proofs.Ytinbcdadffljhaa
