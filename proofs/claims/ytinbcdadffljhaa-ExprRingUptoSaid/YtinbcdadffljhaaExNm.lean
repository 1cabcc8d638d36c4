/-
  Contract of the reference's ENames, for every expression.
-/
import Derived.Test.YtinbcdadffljhaaExEv
import Derived.Test.YtinbcdadffljhaaExMg
namespace Go.Proofs.Ytinbcdadffljhaa
open Go.RowKit Go.Shelf
set_option maxRecDepth 100000

/-- how many names are written in it -/
def Xp.nl : Xp → Nat
  | .num _ => 0
  | .nam _ => 1
  | .op _ a b => a.nl + b.nl
  | .nul => 0
theorem Xp.names_nl : ∀ T : Xp, T.names.length ≤ T.nl
  | .num _ => Nat.le_refl _
  | .nam _ => Nat.le_refl _
  | .op _ a b => by
    have h1 := a.names_nl
    have h2 := b.names_nl
    have h3 := mrgN_len a.names b.names
    show (mrgN a.names b.names).length ≤ a.nl + b.nl
    omega
  | .nul => Nat.le_refl _
/-- ENames answers T's names -/
def NmS (T : Xp) : Prop := ∀ (h : Eh) (w : World), EIn w w.heap.size T h → T.nl ≤ 2097152 →
  Calls Try.prog 13 #[.agg h.cells] w (OutN w.heap.size T.names w)

set_option maxHeartbeats 2000000 in
theorem nms_leaf (T : Xp) (h : Eh) (w : World) (hT : EIn w w.heap.size T h) (htwo : h.two = false) : Calls Try.prog 13 #[.agg h.cells] w (OutN w.heap.size T.names w) := by
  have key : ∃ w1, w1 = w.alloc (.cells h.cells 24) ∧ Below w.heap.size w w1 ∧ EB 24 w1 w.heap.size h := ⟨_, rfl, (Below.refl _ _).alloc (Nat.le_refl _) _, EB.new _ _ _⟩
  obtain ⟨w1, hw1, hb1, t1⟩ := key
  have h2 := etwo_any h w1
  rw [htwo] at h2
  have HW := Lib.hid hw1
  have hnm : (h.k = 2 ∧ T.names = [h.s]) ∨ (h.k ≠ 2 ∧ T.names = []) := by
    cases T with
    | num n => exact .inr ⟨by rw [hT.1]; decide, rfl⟩
    | nam s => exact .inl ⟨hT.1, by rw [hT.2.1]; rfl⟩
    | op k l r => have := hT.two; rw [htwo] at this; cases this
    | nul => exact .inr ⟨hT.2.1, rfl⟩
  obtain ⟨k, n, s, A', m, cap⟩ := h
  have c0 := t1.c0
  have c1 := t1.c1
  have c2 := t1.c2
  have c3 := t1.c3
  dsimp only at c0 c1 c2 c3 hnm
  clear hw1 htwo
  obtain ⟨N, hN⟩ : ∃ N, N = T.names := ⟨_, rfl⟩
  rw [← hN] at hnm ⊢
  clear hT hN
  go_enter Try.func13, Try.ntmps13
  go_upto_region 1 with fail
  rw [show w.alloc _ = w1 from HW.out.symm]
  go_wp2_with fail
  refine h2.mono ?_
  rintro e w2 ⟨rfl, hb2⟩
  replace t1 := t1.step hb2
  have hB := below_step hb1 hb1.size hb2
  clear hb2 h2 c0 c1 c2 c3
  have c0 := t1.c0
  have c2 := t1.c2
  dsimp only at c0 c2
  have hs := hB.size
  clear hb1 t1
  rcases hnm with ⟨k2, hn⟩ | ⟨k2, hn⟩
  · subst k2
    have HN := Lib.hid hn
    clear hn
    go_wp2_with fail
    go_ret
    rw [HN.out]
    exact ⟨_, rfl, own_newR w2 w.heap.size 9 1 1 [.string s] hs (by unfold maxLen; omega) rfl, hB.alloc hs _⟩
  · have k3 : (k == 2) = false := by simpa using k2
    have HN := Lib.hid hn
    clear hn k2
    go_wp2_with fail
    go_ret
    rw [HN.out]
    exact ⟨_, rfl, World.ownsRow_nil _ _ _ _, hB⟩

set_option maxHeartbeats 4000000 in
theorem nms_op {k : Int} {L R : Xp} (hL : NmS L) (hR : NmS R) : NmS (.op k L R) := by
  intro h w hT hl
  have htwo := hT.two
  have hll : L.nl + R.nl ≤ 2097152 := hl
  have key : ∃ w1, w1 = w.alloc (.cells h.cells 24) ∧ Below w.heap.size w w1 ∧ EB 24 w1 w.heap.size h := ⟨_, rfl, (Below.refl _ _).alloc (Nat.le_refl _) _, EB.new _ _ _⟩
  obtain ⟨w1, hw1, hb1, t1⟩ := key
  have h2 := etwo_any h w1
  rw [htwo] at h2
  dsimp only at h2
  obtain ⟨e1, e2, e3, e4, b, o, gl, gr, e5, e6, e7, e8, e9, e10⟩ := hT
  obtain ⟨hk, n, s, A', m, cap⟩ := h
  dsimp only at e1 e4 e5
  subst e1 e5
  have HW := Lib.hid hw1
  have hnm : (Xp.op hk L R).names = mrgN L.names R.names := rfl
  rw [hnm]
  have nl1 := L.names_nl
  have nl2 := R.names_nl
  clear hw1 htwo hnm
  go_enter Try.func13, Try.ntmps13
  have c0 := t1.c0
  have c1 := t1.c1
  have c2 := t1.c2
  have c3 := t1.c3
  dsimp only at c0 c1 c2 c3
  go_upto_region 1 with fail
  rw [show w.alloc _ = w1 from HW.out.symm]
  go_wp2_with fail
  refine h2.mono ?_
  rintro e w2 ⟨rfl, hb2⟩
  have hB := below_step hb1 hb1.size hb2
  have hs := hB.size
  have t2 := t1.step hb2
  have hx := HeldX.mk t2 (e7.below hB e6) (e8.below hB e6)
  have hbl : b < w2.heap.size := by omega
  obtain ⟨kl, nl, sl, Al, ml, cl⟩ := gl
  obtain ⟨kr, nr, sr, Ar, mr, cr⟩ := gr
  obtain ⟨NL, hNL⟩ : ∃ NL, NL = L.names := ⟨_, rfl⟩
  obtain ⟨NR, hNR⟩ : ∃ NR, NR = R.names := ⟨_, rfl⟩
  have G1 : Hid (∀ W : World, HeldX w2 w.heap.size b o ⟨hk, n, s, some ⟨b, o, none⟩, m, cap⟩ ⟨kl, nl, sl, Al, ml, cl⟩ ⟨kr, nr, sr, Ar, mr, cr⟩ W → Calls Try.prog 13 #[.agg #[.int .i64 kl, .int .i64 nl, .string sl, .slice Al ml cl]] W fun e w' => ∃ v, e = .returned v ∧ w'.ownsRow w.heap.size 9 1 v NL.length (nVals NL) ∧ Below W.heap.size W w' ∧ HeldX w2 w.heap.size b o ⟨hk, n, s, some ⟨b, o, none⟩, m, cap⟩ ⟨kl, nl, sl, Al, ml, cl⟩ ⟨kr, nr, sr, Ar, mr, cr⟩ w') := Lib.hid fun W hW => by
    have hq := hB.trans (hW.2.2.2.2.2.2.2.2.2.2.mono hB.size)
    refine (hL ⟨kl, nl, sl, Al, ml, cl⟩ W (e9.step hq) (by omega)).mono ?_
    rintro e w' ⟨v, rfl, h1, h2⟩
    rw [hNL]
    exact ⟨v, rfl, own_moreR h1 hq.size, h2, hW.step t2.lt hbl h2⟩
  have G2 : Hid (∀ W : World, HeldX w2 w.heap.size b o ⟨hk, n, s, some ⟨b, o, none⟩, m, cap⟩ ⟨kl, nl, sl, Al, ml, cl⟩ ⟨kr, nr, sr, Ar, mr, cr⟩ W → Calls Try.prog 13 #[.agg #[.int .i64 kr, .int .i64 nr, .string sr, .slice Ar mr cr]] W fun e w' => ∃ A6 c6, e = .returned (.slice A6 NR.length c6) ∧ RdN w' w'.heap.size A6 NR ∧ Below W.heap.size W w' ∧ HeldX w2 w.heap.size b o ⟨hk, n, s, some ⟨b, o, none⟩, m, cap⟩ ⟨kl, nl, sl, Al, ml, cl⟩ ⟨kr, nr, sr, Ar, mr, cr⟩ w') := Lib.hid fun W hW => by
    have hq := hB.trans (hW.2.2.2.2.2.2.2.2.2.2.mono hB.size)
    refine (hR ⟨kr, nr, sr, Ar, mr, cr⟩ W (e10.step hq) (by omega)).mono ?_
    rintro e w' ⟨v, rfl, h1, h2⟩
    obtain ⟨A6, c6, rfl, hr⟩ := own_rdN h1 (by omega)
    rw [hNR]
    exact ⟨A6, c6, rfl, hr, h2, hW.step t2.lt hbl h2⟩
  have G3 : Hid (∀ (W : World) (v : Value) (A6 : Option Addr) (c6 : Nat), W.ownsRow w.heap.size 9 1 v NL.length (nVals NL) → RdN W W.heap.size A6 NR → HeldX w2 w.heap.size b o ⟨hk, n, s, some ⟨b, o, none⟩, m, cap⟩ ⟨kl, nl, sl, Al, ml, cl⟩ ⟨kr, nr, sr, Ar, mr, cr⟩ W → Calls Try.prog 38 #[v, .slice A6 NR.length c6] W fun e w' => ∃ v7, e = .returned v7 ∧ w'.ownsRow w.heap.size 9 1 v7 (mrgN NL NR).length (nVals (mrgN NL NR)) ∧ HeldX w2 w.heap.size b o ⟨hk, n, s, some ⟨b, o, none⟩, m, cap⟩ ⟨kl, nl, sl, Al, ml, cl⟩ ⟨kr, nr, sr, Ar, mr, cr⟩ w') := Lib.hid fun W v A6 c6 hv h6 hW => by
    have hq := hB.trans (hW.2.2.2.2.2.2.2.2.2.2.mono hB.size)
    refine (merge_any v NL A6 c6 NR W (liesR_of_own hv) h6 (by rw [hNL, hNR]; omega)).mono ?_
    rintro e w' ⟨v7, rfl, h1, h2⟩
    exact ⟨v7, rfl, own_moreR h1 hq.size, hW.step t2.lt hbl h2⟩
  have HN : Hid (mrgN L.names R.names = mrgN NL NR) := by rw [hNL, hNR]; exact rfl
  obtain ⟨a1, a2, a3, a4, a5, a6, a7, a8, a9, a10, a11⟩ := hx
  dsimp only at a1 a2 a3 a4 a5 a6 a7 a8 a9 a10
  clear c0 c1 c2 c3 t1 t2 h2 hb1 hb2 e7 e8 e9 e10 hL hR e6 hbl hNL hNR nl1 nl2 hl hll
  have m0 : 0 < m := by omega
  have m1 : 1 < m := by omega
  have m2 : (1 : Int) < (m : Int) := by omega
  have m3 : (0 : Int) < (m : Int) := by omega
  have m4 : ¬ m ≤ 1 := by omega
  go_wp2_with fail
  go_region_held3 (HeldX w2 w.heap.size b o ⟨hk, n, s, some ⟨b, o, none⟩, m, cap⟩ ⟨kl, nl, sl, Al, ml, cl⟩ ⟨kr, nr, sr, Ar, mr, cr⟩)
    (first
      | (go_split_ands; refine ⟨?_, ?_, ?_, ?_, ?_, ?_, ?_, ?_, ?_, ?_, ?_⟩ <;> assumption)
      | (go_split_ands; exact HeldX.drew ⟨‹_›, ‹_›, ‹_›, ‹_›, ‹_›, ‹_›, ‹_›, ‹_›, ‹_›, ‹_›, ‹_›⟩))
    (first
      | (go_at_call 13; with_reducible refine (G1.out _ (by assumption)).mono ?_; rintro e w5 ⟨v5, rfl, ho5, hb5, hq5⟩)
      | (go_at_call 13; with_reducible refine (G2.out _ (by assumption)).mono ?_; rintro e w6 ⟨A6, c6, rfl, hr6, hb6, hq6⟩; have ho6 := own_stepR ho5 hb6 (Nat.le_refl _))
      | (go_at_call 38; with_reducible refine (G3.out _ _ _ _ ho6 hr6 (by assumption)).mono ?_; rintro e w7 ⟨v7, rfl, ho7, hq7⟩))
  all_goals
    go_wp2_with fail
    go_ret
    rw [HN.out]
    exact ⟨_, rfl, ho7, hB.trans (hq7.2.2.2.2.2.2.2.2.2.2.mono hB.size)⟩
theorem nms : ∀ T : Xp, NmS T
  | .num n => fun h w hT _ => nms_leaf (.num n) h w hT hT.two
  | .nam s => fun h w hT _ => nms_leaf (.nam s) h w hT hT.two
  | .op _ L R => nms_op (nms L) (nms R)
  | .nul => fun h w hT _ => nms_leaf .nul h w hT hT.two
end Go.Proofs.Ytinbcdadffljhaa
