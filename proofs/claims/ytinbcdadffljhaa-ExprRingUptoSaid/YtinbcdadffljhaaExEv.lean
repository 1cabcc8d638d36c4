/-
  Contract of the reference's EEval, for every expression.
-/
import Derived.Test.YtinbcdadffljhaaExE
namespace Go.Proofs.Ytinbcdadffljhaa
open Go.RowKit Go.Shelf
set_option maxRecDepth 100000

/-- what is held while the two of an operation are asked: the box's kind and list, the two headers, all that lay -/
abbrev HeldX (w1 : World) (D b o : Nat) (h hl hr : Eh) (W : World) : Prop :=
  W.cell? ⟨D, 0, none⟩ = some (.int .i64 h.k) ∧ W.cell? ⟨D, 3, none⟩ = some (.slice h.A h.m h.cap) ∧
  W.cell? ⟨b, o, none⟩ = some (.int .i64 hl.k) ∧ W.cell? ⟨b, o + 1, none⟩ = some (.int .i64 hl.n) ∧ W.cell? ⟨b, o + 2, none⟩ = some (.string hl.s) ∧ W.cell? ⟨b, o + 3, none⟩ = some (.slice hl.A hl.m hl.cap) ∧
  W.cell? ⟨b, o + 4, none⟩ = some (.int .i64 hr.k) ∧ W.cell? ⟨b, o + 5, none⟩ = some (.int .i64 hr.n) ∧ W.cell? ⟨b, o + 6, none⟩ = some (.string hr.s) ∧ W.cell? ⟨b, o + 7, none⟩ = some (.slice hr.A hr.m hr.cap) ∧ Below w1.heap.size w1 W
theorem HeldX.mk {w1 : World} {T : TypeId} {D b o : Nat} {h hl hr : Eh} (hD : EB T w1 D h) (h1 : EhAt w1 b o hl) (h2 : EhAt w1 b (o + 4) hr) : HeldX w1 D b o h hl hr w1 :=
  ⟨hD.c0, hD.c3, h1.h0, h1.h1, h1.h2, h1.h3, h2.h0, h2.h1, h2.h2, h2.h3, Below.refl _ _⟩
theorem HeldX.drew {w1 W : World} {D b o : Nat} {h hl hr : Eh} (hh : HeldX w1 D b o h hl hr W) : HeldX w1 D b o h hl hr W.drew :=
  ⟨hh.1, hh.2.1, hh.2.2.1, hh.2.2.2.1, hh.2.2.2.2.1, hh.2.2.2.2.2.1, hh.2.2.2.2.2.2.1, hh.2.2.2.2.2.2.2.1, hh.2.2.2.2.2.2.2.2.1, hh.2.2.2.2.2.2.2.2.2.1, hh.2.2.2.2.2.2.2.2.2.2.drew⟩
theorem HeldX.step {w1 W w2 : World} {D b o : Nat} {h hl hr : Eh} (hh : HeldX w1 D b o h hl hr W) (hD : D < w1.heap.size) (hb : b < w1.heap.size) (hw : Below W.heap.size W w2) : HeldX w1 D b o h hl hr w2 := by
  have hB := hh.2.2.2.2.2.2.2.2.2.2
  have hs := hB.size
  have cD : ∀ x, w2.cell? ⟨D, x, none⟩ = W.cell? ⟨D, x, none⟩ := fun x => hw.cell (p := ⟨D, x, none⟩) (by show D < _; omega)
  have cb : ∀ x, w2.cell? ⟨b, x, none⟩ = W.cell? ⟨b, x, none⟩ := fun x => hw.cell (p := ⟨b, x, none⟩) (by show b < _; omega)
  obtain ⟨a1, a2, a3, a4, a5, a6, a7, a8, a9, a10, _⟩ := hh
  exact ⟨(cD _).trans a1, (cD _).trans a2, (cb _).trans a3, (cb _).trans a4, (cb _).trans a5, (cb _).trans a6, (cb _).trans a7, (cb _).trans a8, (cb _).trans a9, (cb _).trans a10, hB.trans (hw.mono hs)⟩

/-- EEval answers T's worth -/
def EvS (T : Xp) : Prop := ∀ (h : Eh) (A : Option Addr) (c : Nat) (env : List (ByteArray × Int)) (w : World), EIn w w.heap.size T h → RdB w w.heap.size A env → env.length ≤ 1048577 →
  Calls Try.prog 10 #[.agg h.cells, .slice A env.length c] w fun e w' => e = .returned (.int .i64 (T.ev env)) ∧ Below w.heap.size w w'

set_option maxHeartbeats 4000000 in
theorem evs_op {k : Int} {L R : Xp} (hL : EvS L) (hR : EvS R) : EvS (.op k L R) := by
  intro h A c env w hT he hl
  have htwo := hT.two
  have key : ∃ w1, w1 = w.alloc (.cells h.cells 24) ∧ Below w.heap.size w w1 ∧ EB 24 w1 w.heap.size h := ⟨_, rfl, (Below.refl _ _).alloc (Nat.le_refl _) _, EB.new _ _ _⟩
  obtain ⟨w1, hw1, hb1, t1⟩ := key
  have h2 := etwo_any h w1
  rw [htwo] at h2
  dsimp only at h2
  obtain ⟨e1, e2, e3, e4, b, o, gl, gr, e5, e6, e7, e8, e9, e10⟩ := hT
  obtain ⟨hk, n, s, A', m, cap⟩ := h
  dsimp only at e1 e4 e5
  subst e1 e5
  have fl := e9.fit
  have fr := e10.fit
  have HW := Lib.hid hw1
  have hev : (Xp.op hk L R).ev env = ar hk (L.ev env) (R.ev env) := rfl
  rw [hev]
  have il := L.ev_in he.int fl
  have ir := R.ev_in he.int fr
  clear hw1 htwo hev
  go_enter Try.func10, Try.ntmps10
  have c0 := t1.c0
  have c1 := t1.c1
  have c2 := t1.c2
  have c3 := t1.c3
  dsimp only at c0 c1 c2 c3
  go_upto_region 1 with fail
  rw [show w.alloc _ = w1 from HW.out.symm]
  go_wp2_with fail
  refine h2.mono ?_
  rintro e w2 ⟨rfl, hb2⟩
  have hB := below_step hb1 hb1.size hb2
  have t2 := t1.step hb2
  have hx := HeldX.mk t2 (e7.below hB e6) (e8.below hB e6)
  have hbl : b < w2.heap.size := by have := hB.size; omega
  have H1 : Hid (∀ W : World, HeldX w2 w.heap.size b o ⟨hk, n, s, some ⟨b, o, none⟩, m, cap⟩ gl gr W → Calls Try.prog 10 #[.agg gl.cells, .slice A env.length c] W fun e w' => e = .returned (.int .i64 (L.ev env)) ∧ HeldX w2 w.heap.size b o ⟨hk, n, s, some ⟨b, o, none⟩, m, cap⟩ gl gr w') := Lib.hid fun W hW => by
    have hq := hB.trans (hW.2.2.2.2.2.2.2.2.2.2.mono hB.size)
    refine (hL gl A c env W (e9.step hq) (he.step hq) hl).mono ?_
    exact fun e w' ⟨h1, h2⟩ => ⟨h1, hW.step t2.lt hbl h2⟩
  have H2 : Hid (∀ W : World, HeldX w2 w.heap.size b o ⟨hk, n, s, some ⟨b, o, none⟩, m, cap⟩ gl gr W → Calls Try.prog 10 #[.agg gr.cells, .slice A env.length c] W fun e w' => e = .returned (.int .i64 (R.ev env)) ∧ HeldX w2 w.heap.size b o ⟨hk, n, s, some ⟨b, o, none⟩, m, cap⟩ gl gr w') := Lib.hid fun W hW => by
    have hq := hB.trans (hW.2.2.2.2.2.2.2.2.2.2.mono hB.size)
    refine (hR gr A c env W (e10.step hq) (he.step hq) hl).mono ?_
    exact fun e w' ⟨h1, h2⟩ => ⟨h1, hW.step t2.lt hbl h2⟩
  have H3 : Hid (∀ W : World, HeldX w2 w.heap.size b o ⟨hk, n, s, some ⟨b, o, none⟩, m, cap⟩ gl gr W → Calls Try.prog 33 #[.int .i64 hk, .int .i64 (L.ev env), .int .i64 (R.ev env)] W fun e w' => e = .returned (.int .i64 (ar hk (L.ev env) (R.ev env))) ∧ HeldX w2 w.heap.size b o ⟨hk, n, s, some ⟨b, o, none⟩, m, cap⟩ gl gr w') := Lib.hid fun W hW => by
    refine (reck_any hk _ _ W ⟨e2, e3⟩ il ir).mono ?_
    exact fun e w' ⟨h1, h2⟩ => ⟨h1, hW.step t2.lt hbl h2⟩
  obtain ⟨x, hxe⟩ : ∃ x, x = L.ev env := ⟨_, rfl⟩
  obtain ⟨y, hye⟩ : ∃ y, y = R.ev env := ⟨_, rfl⟩
  rw [← hxe] at H1 H3
  rw [← hye] at H2 H3
  obtain ⟨V, hV⟩ : ∃ V, V = ar hk x y := ⟨_, rfl⟩
  rw [← hV] at H3
  have HV : Hid (ar hk (L.ev env) (R.ev env) = V) := by rw [hV, hxe, hye]; exact rfl
  obtain ⟨kl, nl, sl, Al, ml, cl⟩ := gl
  obtain ⟨kr, nr, sr, Ar, mr, cr⟩ := gr
  have G1 : Hid (∀ W : World, HeldX w2 w.heap.size b o ⟨hk, n, s, some ⟨b, o, none⟩, m, cap⟩ ⟨kl, nl, sl, Al, ml, cl⟩ ⟨kr, nr, sr, Ar, mr, cr⟩ W → Calls Try.prog 10 #[.agg #[.int .i64 kl, .int .i64 nl, .string sl, .slice Al ml cl], .slice A env.length c] W fun e w' => e = .returned (.int .i64 x) ∧ HeldX w2 w.heap.size b o ⟨hk, n, s, some ⟨b, o, none⟩, m, cap⟩ ⟨kl, nl, sl, Al, ml, cl⟩ ⟨kr, nr, sr, Ar, mr, cr⟩ w') := H1
  have G2 : Hid (∀ W : World, HeldX w2 w.heap.size b o ⟨hk, n, s, some ⟨b, o, none⟩, m, cap⟩ ⟨kl, nl, sl, Al, ml, cl⟩ ⟨kr, nr, sr, Ar, mr, cr⟩ W → Calls Try.prog 10 #[.agg #[.int .i64 kr, .int .i64 nr, .string sr, .slice Ar mr cr], .slice A env.length c] W fun e w' => e = .returned (.int .i64 y) ∧ HeldX w2 w.heap.size b o ⟨hk, n, s, some ⟨b, o, none⟩, m, cap⟩ ⟨kl, nl, sl, Al, ml, cl⟩ ⟨kr, nr, sr, Ar, mr, cr⟩ w') := H2
  clear H1 H2
  obtain ⟨a1, a2, a3, a4, a5, a6, a7, a8, a9, a10, a11⟩ := hx
  dsimp only at a1 a2 a3 a4 a5 a6 a7 a8 a9 a10
  clear c0 c1 c2 c3 t1 t2 h2 hb1 hb2 hxe hye hV il ir fl fr e7 e8 e9 e10 he hL hR e6 hbl
  have m0 : 0 < m := by omega
  have m1 : 1 < m := by omega
  have m2 : (1 : Int) < (m : Int) := by omega
  have m3 : (0 : Int) < (m : Int) := by omega
  have m4 : ¬ m ≤ 1 := by omega
  go_wp2_with fail
  go_region_held3 (HeldX w2 w.heap.size b o ⟨hk, n, s, some ⟨b, o, none⟩, m, cap⟩ ⟨kl, nl, sl, Al, ml, cl⟩ ⟨kr, nr, sr, Ar, mr, cr⟩)
    (first
      | (go_split_ands; refine ⟨?_, ?_, ?_, ?_, ?_, ?_, ?_, ?_, ?_, ?_, ?_⟩ <;> assumption)
      | (go_split_ands; exact HeldX.drew ⟨‹_›, ‹_›, ‹_›, ‹_›, ‹_›, ‹_›, ‹_›, ‹_›, ‹_›, ‹_›, ‹_›⟩))
    (first
      | (go_at_call 10; with_reducible refine (G1.out _ (by assumption)).mono ?_; rintro e w5 ⟨rfl, hq5⟩)
      | (go_at_call 10; with_reducible refine (G2.out _ (by assumption)).mono ?_; rintro e w6 ⟨rfl, hq6⟩)
      | (go_at_call 33; with_reducible refine (H3.out _ (by assumption)).mono ?_; rintro e w7 ⟨rfl, hq7⟩))
  all_goals
    go_wp2_with fail
    go_ret
    exact ⟨ret_n HV.out.symm, hB.trans (hq7.2.2.2.2.2.2.2.2.2.2.mono hB.size)⟩
theorem evs : ∀ T : Xp, EvS T
  | .num n => fun h A c env w hT he hl => by
    have := eval_leaf h hT.two A c env w he hl
    have e : leafV h env = n := by unfold leafV; rw [hT.1]; simpa using hT.2.1
    rw [e] at this
    exact this
  | .nam s => fun h A c env w hT he hl => by
    have := eval_leaf h hT.two A c env w he hl
    have e : leafV h env = bnd env s := by unfold leafV; rw [hT.1, hT.2.1]; rfl
    rw [e] at this
    exact this
  | .op _ L R => evs_op (evs L) (evs R)
  | .nul => fun h A c env w hT he hl => by
    have := eval_leaf h hT.two A c env w he hl
    have e : leafV h env = 0 := by unfold leafV; rw [if_neg hT.2.1, if_neg hT.1]
    rw [e] at this
    exact this
end Go.Proofs.Ytinbcdadffljhaa
