/-
  Expressions with what means something alone, in memory; contract of the reference's EClean, for every expression.
-/
import Derived.Test.YtinbcdadffljhaaExNm
namespace Go.Proofs.Ytinbcdadffljhaa
open Go.RowKit Go.Shelf
set_option maxRecDepth 100000

/-- the expression T, and nothing besides, lies in the blocks from lo on and below B; h is its header -/
def EOx (w : World) (lo B : Nat) : Xp → Eh → Prop
  | .num n, h => h.k = 1 ∧ h.n = n ∧ inI n ∧ h.s = ByteArray.empty ∧ h.m = 0
  | .nam s, h => h.k = 2 ∧ h.s = s ∧ h.n = 0 ∧ h.m = 0 ∧ s.size ≤ maxLen
  | .op k l r, h => h.k = k ∧ 3 ≤ k ∧ k ≤ 9 ∧ h.n = 0 ∧ h.s = ByteArray.empty ∧ h.m = 2 ∧ ∃ b o hl hr, h.A = some ⟨b, o, none⟩ ∧ (lo ≤ b ∧ b < B) ∧ EhAt w b o hl ∧ EhAt w b (o + 4) hr ∧ EOx w lo B l hl ∧ EOx w lo B r hr
  | .nul, _ => False
theorem EOx.inn {w : World} {lo B : Nat} : ∀ {T : Xp} {h : Eh}, EOx w lo B T h → EIn w B T h
  | .num _, _, h => ⟨h.1, h.2.1, h.2.2.1⟩
  | .nam _, _, h => ⟨h.1, h.2.1, h.2.2.2.2⟩
  | .op _ _ _, _, ⟨h1, h2, h3, _, _, h6, b, o, hl, hr, h7, h8, h9, h10, h11, h12⟩ => ⟨h1, h2, h3, by omega, b, o, hl, hr, h7, h8.2, h9, h10, h11.inn, h12.inn⟩
theorem EhAt.keep {w w' : World} {b o : Nat} {h : Eh} (hh : EhAt w b o h) (hc : ∀ x, w'.cell? ⟨b, x, none⟩ = w.cell? ⟨b, x, none⟩) : EhAt w' b o h :=
  ⟨(hc _).trans hh.h0, (hc _).trans hh.h1, (hc _).trans hh.h2, (hc _).trans hh.h3⟩
theorem EOx.keep {w w' : World} {lo lo' B B' : Nat} (hl : lo' ≤ lo) (hB : B ≤ B') (hc : ∀ q x, lo ≤ q → q < B → w'.cell? ⟨q, x, none⟩ = w.cell? ⟨q, x, none⟩) : ∀ {T : Xp} {h : Eh}, EOx w lo B T h → EOx w' lo' B' T h
  | .num _, _, h => h
  | .nam _, _, h => h
  | .op _ _ _, _, ⟨h1, h2, h3, h4, h5, h6, b, o, hl', hr, h7, h8, h9, h10, h11, h12⟩ => ⟨h1, h2, h3, h4, h5, h6, b, o, hl', hr, h7, ⟨by omega, by omega⟩, h9.keep fun x => hc b x h8.1 h8.2, h10.keep fun x => hc b x h8.1 h8.2, h11.keep hl hB hc, h12.keep hl hB hc⟩
theorem EOx.step {w w' : World} {lo : Nat} {T : Xp} {h : Eh} (hT : EOx w lo w.heap.size T h) (hb : Below w.heap.size w w') : EOx w' lo w'.heap.size T h :=
  hT.keep (Nat.le_refl _) hb.size fun q x _ hq => hb.cell (p := ⟨q, x, none⟩) hq
theorem EOx.two {w : World} {lo B : Nat} {l r : Xp} {k : Int} {hl hr : Eh} {b : Nat} {c : Nat} (hk : 3 ≤ k ∧ k ≤ 9) (hb : lo ≤ b ∧ b < B) (h1 : EhAt w b 0 hl) (h2 : EhAt w b 4 hr) (hL : EOx w lo B l hl) (hR : EOx w lo B r hr) : EOx w lo B (.op k l r) ⟨k, 0, ByteArray.empty, some ⟨b, 0, none⟩, 2, c⟩ :=
  ⟨rfl, hk.1, hk.2, rfl, rfl, rfl, b, 0, hl, hr, rfl, hb, h1, h2, hL, hR⟩
theorem put_cell {w : World} {B q x : Nat} (hq : q ≠ B) {u0 u1 u2 u3 : Value} : ((((w.setCell ⟨B, 0, none⟩ u0).setCell ⟨B, 1, none⟩ u1).setCell ⟨B, 2, none⟩ u2).setCell ⟨B, 3, none⟩ u3).cell? ⟨q, x, none⟩ = w.cell? ⟨q, x, none⟩ := by
  simp only [World.cell?]
  rw [Below.heap_setCell _ _ _ _ (by show q ≠ B; omega), Below.heap_setCell _ _ _ _ (by show q ≠ B; omega), Below.heap_setCell _ _ _ _ (by show q ≠ B; omega), Below.heap_setCell _ _ _ _ (by show q ≠ B; omega)]

section
variable {T : TypeId} {w w' : World} {B : Nat} {h : Eh}
/-- a header is stored, cell by cell -/
def putEh (w : World) (B : Nat) (h : Eh) : World :=
  (((w.setCell ⟨B, 0, none⟩ (.int .i64 h.k)).setCell ⟨B, 1, none⟩ (.int .i64 h.n)).setCell ⟨B, 2, none⟩ (.string h.s)).setCell ⟨B, 3, none⟩ (.slice h.A h.m h.cap)
theorem heap_set_inE {i : Nat} {cs : Array Value} {fr : Nat × Nat} (hb : w.heap[B]? = some (.cells cs T fr)) (v : Value) : (w.setCell ⟨B, i, none⟩ v).heap[B]? = some (.cells (cs.set! i v) T fr) := by
  obtain ⟨hlt, hk⟩ := Array.getElem?_eq_some_iff.1 hb
  show (w.heap.modify B _)[B]? = _
  rw [Array.getElem?_eq_getElem (by rw [Array.size_modify]; exact hlt), Array.getElem_modify_self, hk]
  rfl
theorem EB.put {h' : Eh} (hb : EB T w B h) : EB T (putEh w B h') B h' := heap_set_inE (heap_set_inE (heap_set_inE (heap_set_inE hb _) _) _) _
theorem below_putE {m : Nat} {a : World} (hb : Below m a w) (hm : m ≤ B) (h' : Eh) : Below m a (putEh w B h') :=
  (((hb.setCell (p := ⟨B, 0, none⟩) hm _).setCell (p := ⟨B, 1, none⟩) hm _).setCell (p := ⟨B, 2, none⟩) hm _).setCell (p := ⟨B, 3, none⟩) hm _
end
theorem Try.infoEx : (Try.prog.info? 24).map (·.size) = some 4 := by kernel_rfl
/-- two headers side by side, new -/
theorem two_new (w : World) (t : TypeId) (hl hr : Eh) : EhAt (w.alloc (.cells (hl.cells ++ hr.cells) t)) w.heap.size 0 hl ∧ EhAt (w.alloc (.cells (hl.cells ++ hr.cells) t)) w.heap.size 4 hr := by
  have e := World.alloc_heap_new w (.cells (hl.cells ++ hr.cells) t)
  constructor <;> constructor <;> simp only [World.cell?, e] <;> rfl
/-- the call returned the expression T, and nothing besides -/
def OutE (T : Xp) (w : World) (e : Ending) (w' : World) : Prop := ∃ h, e = .returned (.agg h.cells) ∧ EOx w' w.heap.size w'.heap.size T h ∧ Below w.heap.size w w'

/-- what is held while the two of an operation are asked and an answer's box is written: the box's kind and list, the two headers, all that lay -/
abbrev HeldYx (w : World) (b o : Nat) (h hl hr : Eh) (W : World) : Prop :=
  W.cell? ⟨w.heap.size, 0, none⟩ = some (.int .i64 h.k) ∧ W.cell? ⟨w.heap.size, 3, none⟩ = some (.slice h.A h.m h.cap) ∧
  W.cell? ⟨b, o, none⟩ = some (.int .i64 hl.k) ∧ W.cell? ⟨b, o + 1, none⟩ = some (.int .i64 hl.n) ∧ W.cell? ⟨b, o + 2, none⟩ = some (.string hl.s) ∧ W.cell? ⟨b, o + 3, none⟩ = some (.slice hl.A hl.m hl.cap) ∧
  W.cell? ⟨b, o + 4, none⟩ = some (.int .i64 hr.k) ∧ W.cell? ⟨b, o + 5, none⟩ = some (.int .i64 hr.n) ∧ W.cell? ⟨b, o + 6, none⟩ = some (.string hr.s) ∧ W.cell? ⟨b, o + 7, none⟩ = some (.slice hr.A hr.m hr.cap) ∧ Below w.heap.size w W ∧ w.heap.size < W.heap.size
section
variable {w W w2 : World} {b o : Nat} {h hl hr : Eh}
theorem HeldYx.mk {T : TypeId} (hD : EB T W w.heap.size h) (h1 : EhAt W b o hl) (h2 : EhAt W b (o + 4) hr) (hB : Below w.heap.size w W) : HeldYx w b o h hl hr W :=
  ⟨hD.c0, hD.c3, h1.h0, h1.h1, h1.h2, h1.h3, h2.h0, h2.h1, h2.h2, h2.h3, hB, hD.lt⟩
theorem HeldYx.bel (hh : HeldYx w b o h hl hr W) : Below w.heap.size w W := hh.2.2.2.2.2.2.2.2.2.2.1
theorem HeldYx.drew (hh : HeldYx w b o h hl hr W) : HeldYx w b o h hl hr W.drew :=
  ⟨hh.1, hh.2.1, hh.2.2.1, hh.2.2.2.1, hh.2.2.2.2.1, hh.2.2.2.2.2.1, hh.2.2.2.2.2.2.1, hh.2.2.2.2.2.2.2.1, hh.2.2.2.2.2.2.2.2.1, hh.2.2.2.2.2.2.2.2.2.1, hh.bel.drew, hh.2.2.2.2.2.2.2.2.2.2.2⟩
theorem HeldYx.keep (hh : HeldYx w b o h hl hr W) (hb : b < w.heap.size) (hc : ∀ q x, q ≤ w.heap.size → w2.cell? ⟨q, x, none⟩ = W.cell? ⟨q, x, none⟩) (hB : Below w.heap.size w w2) (hs : w.heap.size < w2.heap.size) : HeldYx w b o h hl hr w2 := by
  obtain ⟨a1, a2, a3, a4, a5, a6, a7, a8, a9, a10, _, _⟩ := hh
  have cD : ∀ x, w2.cell? ⟨w.heap.size, x, none⟩ = W.cell? ⟨w.heap.size, x, none⟩ := fun x => hc _ x (Nat.le_refl _)
  have cb : ∀ x, w2.cell? ⟨b, x, none⟩ = W.cell? ⟨b, x, none⟩ := fun x => hc b x (by omega)
  exact ⟨(cD _).trans a1, (cD _).trans a2, (cb _).trans a3, (cb _).trans a4, (cb _).trans a5, (cb _).trans a6, (cb _).trans a7, (cb _).trans a8, (cb _).trans a9, (cb _).trans a10, hB, hs⟩
theorem HeldYx.step (hh : HeldYx w b o h hl hr W) (hb : b < w.heap.size) (hw : Below W.heap.size W w2) : HeldYx w b o h hl hr w2 := by
  have hs := hh.2.2.2.2.2.2.2.2.2.2.2
  exact hh.keep hb (fun q x hq => hw.cell (p := ⟨q, x, none⟩) (by show q < _; omega)) (hh.bel.trans (hw.mono (by omega))) (Nat.lt_of_lt_of_le hs hw.size)
theorem HeldYx.alloc (hb : b < w.heap.size) (hh : HeldYx w b o h hl hr W) (ob : Obj) : HeldYx w b o h hl hr (W.alloc ob) := hh.step hb ((Below.refl _ _).alloc (Nat.le_refl _) _)
theorem HeldYx.put (hb : b < w.heap.size) (B : Nat) (hB : w.heap.size < B) (u0 u1 u2 u3 : Value) (hh : HeldYx w b o h hl hr W) : HeldYx w b o h hl hr ((((W.setCell ⟨B, 0, none⟩ u0).setCell ⟨B, 1, none⟩ u1).setCell ⟨B, 2, none⟩ u2).setCell ⟨B, 3, none⟩ u3) := by
  refine hh.keep hb (fun q x hq => ?_) ((((hh.bel.setCell (p := ⟨B, 0, none⟩) (by show _ ≤ B; omega) _).setCell (p := ⟨B, 1, none⟩) (by show _ ≤ B; omega) _).setCell (p := ⟨B, 2, none⟩) (by show _ ≤ B; omega) _).setCell (p := ⟨B, 3, none⟩) (by show _ ≤ B; omega) _) (by have := hh.2.2.2.2.2.2.2.2.2.2.2; simpa [World.setCell] using this)
  simp only [World.cell?]
  rw [Below.heap_setCell _ _ _ _ (by show q ≠ B; omega), Below.heap_setCell _ _ _ _ (by show q ≠ B; omega), Below.heap_setCell _ _ _ _ (by show q ≠ B; omega), Below.heap_setCell _ _ _ _ (by show q ≠ B; omega)]
end
/-- EClean answers T with what means something alone -/
def ClS (T : Xp) : Prop := ∀ (h : Eh) (w : World), EIn w w.heap.size T h → Calls Try.prog 44 #[.agg h.cells] w (OutE T.cln w)

set_option maxHeartbeats 2000000 in
theorem cls_leaf (T : Xp) (h : Eh) (w : World) (hT : EIn w w.heap.size T h) (htwo : h.two = false) : Calls Try.prog 44 #[.agg h.cells] w (OutE T.cln w) := by
  have key : ∃ w1, w1 = (w.alloc (.cells h.cells 24)).alloc (.cells Eh.zero.cells 24) ∧ Below w.heap.size w w1 ∧ EB 24 w1 w.heap.size h ∧ EB 24 w1 (w.heap.size + 1) Eh.zero := by
    refine ⟨_, rfl, ((Below.refl _ _).alloc (Nat.le_refl _) _).alloc (by simp) _, (EB.new w _ h).alloc _, ?_⟩
    have := EB.new (w.alloc (.cells h.cells 24)) 24 Eh.zero
    simpa using this
  obtain ⟨w1, hw1, hb1, t1, t2⟩ := key
  have h2 := etwo_any h w1
  rw [htwo] at h2
  have HW : Hid (w1 = (w.alloc (.cells h.cells 24)).alloc (.cells #[.int .i64 0, .int .i64 0, .string ⟨#[]⟩, .slice none 0 0] 24)) := hw1
  have hcs : (h.k = 2 ∧ T.cln = .nam h.s ∧ h.s.size ≤ maxLen) ∨ (h.k = 1 ∧ T.cln = .num h.n ∧ inI h.n) ∨ (h.k ≠ 2 ∧ h.k ≠ 1 ∧ T.cln = .num 0) := by
    cases T with
    | num n => exact .inr (.inl ⟨hT.1, by rw [hT.2.1]; rfl, by rw [hT.2.1]; exact hT.2.2⟩)
    | nam s => exact .inl ⟨hT.1, by rw [hT.2.1]; rfl, by rw [hT.2.1]; exact hT.2.2⟩
    | op k l r => have := hT.two; rw [htwo] at this; cases this
    | nul => exact .inr (.inr ⟨hT.2.1, hT.1, rfl⟩)
  obtain ⟨k, n, s, A', m, cap⟩ := h
  have c0 := t1.c0
  have c1 := t1.c1
  have c2 := t1.c2
  have c3 := t1.c3
  dsimp only at c0 c1 c2 c3 hcs
  obtain ⟨N, hN⟩ : ∃ N, N = T.cln := ⟨_, rfl⟩
  rw [← hN] at hcs ⊢
  clear hw1 htwo hT hN
  go_enter Try.func44, Try.ntmps44
  go_upto_region 1 with fail
  rw [← HW.out]
  go_wp2_with fail
  refine h2.mono ?_
  rintro e w2 ⟨rfl, hb2⟩
  replace t1 := t1.step hb2
  replace t2 := t2.step hb2
  have hB := below_step hb1 hb1.size hb2
  clear hb2 h2 c0 c1 c2 c3
  have c0 := t1.c0
  have c1 := t1.c1
  have c2 := t1.c2
  have z0 := t2.c0
  have z1 := t2.c1
  have z2 := t2.c2
  have z3 := t2.c3
  have f0 := t2.frozen 0
  have f1 := t2.frozen 1
  have f2 := t2.frozen 2
  have f3 := t2.frozen 3
  dsimp only at c0 c1 c2
  have hs := hB.size
  clear hb1 t1
  rcases hcs with ⟨k2, hn, hsl⟩ | ⟨k2, hn, hi⟩ | ⟨k2, k1, hn⟩
  · subst k2
    have HN := Lib.hid hn
    have HSL := Lib.hid hsl
    clear hsl
    have P := Lib.hid (And.intro (t2.put (h' := ⟨2, 0, s, none, 0, 0⟩)) (below_putE hB (show w.heap.size ≤ w.heap.size + 1 by omega) ⟨2, 0, s, none, 0, 0⟩))
    clear hn t2 hB
    go_wp2_with fail
    refine bodyPost_ret (results_cell_row rfl _ _ (w.heap.size + 1) 24 _ (0, 0) _ rfl P.out.1 rfl rfl Try.infoEx) rfl ?_
    rw [HN.out]
    exact ⟨_, rfl, ⟨rfl, rfl, rfl, rfl, HSL.out⟩, P.out.2⟩
  · subst k2
    have HN := Lib.hid hn
    have P := Lib.hid (And.intro (t2.put (h' := ⟨1, n, ByteArray.empty, none, 0, 0⟩)) (below_putE hB (show w.heap.size ≤ w.heap.size + 1 by omega) ⟨1, n, ByteArray.empty, none, 0, 0⟩))
    have HI := Lib.hid hi
    clear hn t2 hB hi
    go_wp2_with fail
    refine bodyPost_ret (results_cell_row rfl _ _ (w.heap.size + 1) 24 _ (0, 0) _ rfl P.out.1 rfl rfl Try.infoEx) rfl ?_
    rw [HN.out]
    exact ⟨_, rfl, ⟨rfl, rfl, HI.out, rfl, rfl⟩, P.out.2⟩
  · have k3 : (k == 2) = false := by simpa using k2
    have k4 : (k == 1) = false := by simpa using k1
    have HN := Lib.hid hn
    have P := Lib.hid (And.intro (t2.put (h' := ⟨1, 0, ByteArray.empty, none, 0, 0⟩)) (below_putE hB (show w.heap.size ≤ w.heap.size + 1 by omega) ⟨1, 0, ByteArray.empty, none, 0, 0⟩))
    clear hn t2 hB k1 k2
    go_wp2_with fail
    refine bodyPost_ret (results_cell_row rfl _ _ (w.heap.size + 1) 24 _ (0, 0) _ rfl P.out.1 rfl rfl Try.infoEx) rfl ?_
    rw [HN.out]
    exact ⟨_, rfl, ⟨rfl, rfl, by unfold inI; omega, rfl, rfl⟩, P.out.2⟩

set_option maxHeartbeats 4000000 in
theorem cls_op {k : Int} {L R : Xp} (hL : ClS L) (hR : ClS R) : ClS (.op k L R) := by
  intro h w hT
  have htwo := hT.two
  have key : ∃ w1, w1 = (w.alloc (.cells h.cells 24)).alloc (.cells Eh.zero.cells 24) ∧ Below w.heap.size w w1 ∧ EB 24 w1 w.heap.size h ∧ EB 24 w1 (w.heap.size + 1) Eh.zero := by
    refine ⟨_, rfl, ((Below.refl _ _).alloc (Nat.le_refl _) _).alloc (by simp) _, (EB.new w _ h).alloc _, ?_⟩
    have := EB.new (w.alloc (.cells h.cells 24)) 24 Eh.zero
    simpa using this
  obtain ⟨w1, hw1, hb1, t1, z1⟩ := key
  have h2 := etwo_any h w1
  rw [htwo] at h2
  dsimp only at h2
  obtain ⟨e1, e2, e3, e4, b, o, gl, gr, e5, e6, e7, e8, e9, e10⟩ := hT
  have HW : Hid (w1 = (w.alloc (.cells h.cells 24)).alloc (.cells #[.int .i64 0, .int .i64 0, .string ⟨#[]⟩, .slice none 0 0] 24)) := hw1
  obtain ⟨hk, n, s, A', m, cap⟩ := h
  dsimp only at e1 e4 e5
  subst e1 e5
  clear hw1 htwo
  go_enter Try.func44, Try.ntmps44
  have c0 := t1.c0
  have c1 := t1.c1
  have c2 := t1.c2
  have c3 := t1.c3
  dsimp only at c0 c1 c2 c3
  go_upto_region 1 with fail
  rw [← HW.out]
  go_wp2_with fail
  refine h2.mono ?_
  rintro e w2 ⟨rfl, hb2⟩
  have hB := below_step hb1 hb1.size hb2
  have hs := hB.size
  have t2 := t1.step hb2
  have z2 := z1.step hb2
  have hx := HeldYx.mk t2 (e7.below hB e6) (e8.below hB e6) hB
  have hbl : b < w2.heap.size := by omega
  obtain ⟨kl, nl, sl, Al, ml, cl⟩ := gl
  obtain ⟨kr, nr, sr, Ar, mr, cr⟩ := gr
  have G1 : Hid (∀ W : World, HeldYx w b o ⟨hk, n, s, some ⟨b, o, none⟩, m, cap⟩ ⟨kl, nl, sl, Al, ml, cl⟩ ⟨kr, nr, sr, Ar, mr, cr⟩ W → Calls Try.prog 44 #[.agg #[.int .i64 kl, .int .i64 nl, .string sl, .slice Al ml cl]] W fun e w' => ∃ x0 x1 x2 x3 x4 x5, e = .returned (.agg #[.int .i64 x0, .int .i64 x1, .string x2, .slice x3 x4 x5]) ∧ EOx w' W.heap.size w'.heap.size L.cln ⟨x0, x1, x2, x3, x4, x5⟩ ∧ Below W.heap.size W w' ∧ HeldYx w b o ⟨hk, n, s, some ⟨b, o, none⟩, m, cap⟩ ⟨kl, nl, sl, Al, ml, cl⟩ ⟨kr, nr, sr, Ar, mr, cr⟩ w') := Lib.hid fun W hW => by
    have hq := hW.bel
    refine (hL ⟨kl, nl, sl, Al, ml, cl⟩ W (e9.step hq)).mono ?_
    rintro e w' ⟨⟨x0, x1, x2, x3, x4, x5⟩, rfl, h1, h2⟩
    exact ⟨x0, x1, x2, x3, x4, x5, rfl, h1, h2, hW.step e6 h2⟩
  have G2 : Hid (∀ W : World, HeldYx w b o ⟨hk, n, s, some ⟨b, o, none⟩, m, cap⟩ ⟨kl, nl, sl, Al, ml, cl⟩ ⟨kr, nr, sr, Ar, mr, cr⟩ W → Calls Try.prog 44 #[.agg #[.int .i64 kr, .int .i64 nr, .string sr, .slice Ar mr cr]] W fun e w' => ∃ x0 x1 x2 x3 x4 x5, e = .returned (.agg #[.int .i64 x0, .int .i64 x1, .string x2, .slice x3 x4 x5]) ∧ EOx w' W.heap.size w'.heap.size R.cln ⟨x0, x1, x2, x3, x4, x5⟩ ∧ Below W.heap.size W w' ∧ HeldYx w b o ⟨hk, n, s, some ⟨b, o, none⟩, m, cap⟩ ⟨kl, nl, sl, Al, ml, cl⟩ ⟨kr, nr, sr, Ar, mr, cr⟩ w') := Lib.hid fun W hW => by
    have hq := hW.bel
    refine (hR ⟨kr, nr, sr, Ar, mr, cr⟩ W (e10.step hq)).mono ?_
    rintro e w' ⟨⟨x0, x1, x2, x3, x4, x5⟩, rfl, h1, h2⟩
    exact ⟨x0, x1, x2, x3, x4, x5, rfl, h1, h2, hW.step e6 h2⟩
  have hH0 := hx
  have hDZ : w.heap.size < w.heap.size + 1 := Nat.lt_succ_self _
  obtain ⟨a1, a2, a3, a4, a5, a6, a7, a8, a9, a10, a11, a12⟩ := hx
  dsimp only at a1 a2 a3 a4 a5 a6 a7 a8 a9 a10
  have HLT := Lib.hid e6
  have Z := Lib.hid z2.drew
  have HE := Lib.hid (And.intro e2 e3)
  clear c0 c1 c2 c3 t1 t2 h2 hb1 hb2 e7 e8 e9 e10 hL hR e6 hbl z1 z2
  have m0 : 0 < m := by omega
  have m1 : 1 < m := by omega
  have m2 : (1 : Int) < (m : Int) := by omega
  have m3 : (0 : Int) < (m : Int) := by omega
  have m4 : ¬ m ≤ 1 := by omega
  go_wp2_with fail
  refine wp_region_held_drew (S := HeldYx w b o ⟨hk, n, s, some ⟨b, o, none⟩, m, cap⟩ ⟨kl, nl, sl, Al, ml, cl⟩ ⟨kr, nr, sr, Ar, mr, cr⟩) (by kernel_rfl) (HeldYx.drew hH0) (fun hHeld => ?_)
  refine wpAnyH_take (i := 0) (oi := { dst := some 6, op := _, type := _, pos := _, after := _, guard := _ }) (v := ?_) rfl (by kernel_rfl) (by kernel_rfl) (by kernel_rfl) (fun _ _ _ h => h) (Or.inl ⟨by rfl, ?_⟩) (by assumption) ?_
  rotate_left
  · intro w hSw; (try dsimp only at hSw); go_simp; (try with_reducible rfl)
  (try simp only [Act.put, List.setIfInBounds_toArray, List.set_cons_zero, List.set_cons_succ])
  refine wpAnyH_take (i := 1) (oi := { dst := some 7, op := _, type := _, pos := _, after := _, guard := _ }) (v := ?_) rfl (by kernel_rfl) (by kernel_rfl) (by kernel_rfl) (fun _ _ _ h => h) (Or.inl ⟨by rfl, ?_⟩) (by assumption) ?_
  rotate_left
  · intro w hSw; (try dsimp only at hSw); go_simp; (try with_reducible rfl)
  (try simp only [Act.put, List.setIfInBounds_toArray, List.set_cons_zero, List.set_cons_succ])
  refine wpAnyH_take (i := 2) (oi := { dst := some 8, op := _, type := _, pos := _, after := _, guard := _ }) (v := ?_) rfl (by kernel_rfl) (by kernel_rfl) (by kernel_rfl) (fun _ _ _ h => h) (Or.inl ⟨by rfl, ?_⟩) (by assumption) ?_
  rotate_left
  · intro w hSw; (try dsimp only at hSw); go_simp; (try with_reducible rfl)
  (try simp only [Act.put, List.setIfInBounds_toArray, List.set_cons_zero, List.set_cons_succ])
  refine wpAnyH_take (i := 3) (oi := { dst := some 9, op := _, type := _, pos := _, after := _, guard := _ }) (v := ?_) rfl (by kernel_rfl) (by kernel_rfl) (by kernel_rfl) (fun _ _ _ h => h) (Or.inl ⟨by rfl, ?_⟩) (by assumption) ?_
  rotate_left
  · intro w hSw; (try dsimp only at hSw); go_simp; (try with_reducible rfl)
  (try simp only [Act.put, List.setIfInBounds_toArray, List.set_cons_zero, List.set_cons_succ])
  refine wpAnyH_take (i := 4) (oi := { dst := some 10, op := _, type := _, pos := _, after := _, guard := _ }) (v := ?_) rfl (by kernel_rfl) (by kernel_rfl) (by kernel_rfl) (fun _ _ _ h => h) (Or.inl ⟨by rfl, ?_⟩) (by assumption) ?_
  rotate_left
  · intro w hSw; (try dsimp only at hSw); go_simp; (try with_reducible rfl)
  (try simp only [Act.put, List.setIfInBounds_toArray, List.set_cons_zero, List.set_cons_succ])
  refine wpAnyH_take (i := 5) (oi := { dst := some 11, op := _, type := _, pos := _, after := _, guard := _ }) (v := ?_) rfl (by kernel_rfl) (by kernel_rfl) (by kernel_rfl) (fun _ _ _ h => h) (Or.inl ⟨by rfl, ?_⟩) (by assumption) ?_
  rotate_left
  · intro w hSw; (try dsimp only at hSw); go_simp; (try with_reducible rfl)
  (try simp only [Act.put, List.setIfInBounds_toArray, List.set_cons_zero, List.set_cons_succ])
  refine wpAnyH_take (i := 7) (oi := { dst := some 13, op := _, type := _, pos := _, after := _, guard := _ }) (v := ?_) rfl (by kernel_rfl) (by kernel_rfl) (by kernel_rfl) (fun _ _ _ h => h) (Or.inl ⟨by rfl, ?_⟩) (by assumption) ?_
  rotate_left
  · intro w hSw; (try dsimp only at hSw); go_simp; (try with_reducible rfl)
  (try simp only [Act.put, List.setIfInBounds_toArray, List.set_cons_zero, List.set_cons_succ])
  refine wpAnyH_take (i := 8) (oi := { dst := some 14, op := _, type := _, pos := _, after := _, guard := _ }) (v := ?_) rfl (by kernel_rfl) (by kernel_rfl) (by kernel_rfl) (fun _ _ _ h => h) (Or.inl ⟨by rfl, ?_⟩) (by assumption) ?_
  rotate_left
  · intro w hSw; (try dsimp only at hSw); go_simp; (try with_reducible rfl)
  (try simp only [Act.put, List.setIfInBounds_toArray, List.set_cons_zero, List.set_cons_succ])
  refine wpAnyH_take (i := 9) (oi := { dst := some 15, op := _, type := _, pos := _, after := _, guard := _ }) (v := ?_) rfl (by kernel_rfl) (by kernel_rfl) (by kernel_rfl) (fun _ _ _ h => h) (Or.inl ⟨by rfl, ?_⟩) (by assumption) ?_
  rotate_left
  · intro w hSw; (try dsimp only at hSw); go_simp; (try with_reducible rfl)
  (try simp only [Act.put, List.setIfInBounds_toArray, List.set_cons_zero, List.set_cons_succ])
  refine wpAnyH_take (i := 10) (oi := { dst := some 16, op := _, type := _, pos := _, after := _, guard := _ }) (v := ?_) rfl (by kernel_rfl) (by kernel_rfl) (by kernel_rfl) (fun _ _ _ h => h) (Or.inl ⟨by rfl, ?_⟩) (by assumption) ?_
  rotate_left
  · intro w hSw; (try dsimp only at hSw); go_simp; (try with_reducible rfl)
  (try simp only [Act.put, List.setIfInBounds_toArray, List.set_cons_zero, List.set_cons_succ])
  refine wpAnyH_ready (rs := [6]) (by kernel_rfl) (by simp) ?_
  refine AllReadyH.cons rfl (fun K hK => ?_) AllReadyH.nil
  go_simp
  refine (G1.out _ hHeld).mono ?_
  rintro e w5 ⟨x0, x1, x2, x3, x4, x5, rfl, hx5, hb5, hq5⟩
  have Z5 := Z.out.step hb5
  dsimp only
  refine hK.out _ _ hq5 (fun hHeld => ?_)
  clear hK K
  (try simp only [Act.put, List.setIfInBounds_toArray, List.set_cons_zero, List.set_cons_succ])
  refine wpAnyH_ready (rs := [11]) (by kernel_rfl) (by simp) ?_
  refine AllReadyH.cons rfl (fun K hK => ?_) AllReadyH.nil
  go_simp
  refine (G2.out _ hHeld).mono ?_
  rintro e w6 ⟨y0, y1, y2, y3, y4, y5, rfl, hy6, hb6, hq6⟩
  have Z6 := Z5.step hb6
  have hx6 := hx5.step hb6
  dsimp only
  refine hK.out _ _ hq6 (fun hHeld => ?_)
  clear hK K
  (try simp only [Act.put, List.setIfInBounds_toArray, List.set_cons_zero, List.set_cons_succ])
  refine wpAnyH_ready (rs := [12]) (by kernel_rfl) (by simp) ?_
  refine AllReadyH.cons rfl (fun K hK => ?_) AllReadyH.nil
  go_simp
  refine hK.out _ _ (HeldYx.alloc HLT.out hHeld _) (fun hHeld => ?_)
  clear hK K
  (try simp only [Act.put, List.setIfInBounds_toArray, List.set_cons_zero, List.set_cons_succ])
  refine wpAnyH_take (i := 13) (oi := { dst := some 19, op := _, type := _, pos := _, after := _, guard := _ }) (v := ?_) rfl (by kernel_rfl) (by kernel_rfl) (by kernel_rfl) (fun _ _ _ h => h) (Or.inl ⟨by rfl, ?_⟩) (by assumption) ?_
  rotate_left
  · intro w hSw; (try dsimp only at hSw); go_simp; (try with_reducible rfl)
  (try simp only [Act.put, List.setIfInBounds_toArray, List.set_cons_zero, List.set_cons_succ])
  refine wpAnyH_ready (rs := [14]) (by kernel_rfl) (by simp) ?_
  refine AllReadyH.cons rfl (fun K hK => ?_) AllReadyH.nil
  have Z7 := Z6.alloc (.cells #[.int .i64 x0, .int .i64 x1, .string x2, .slice x3 x4 x5, .int .i64 y0, .int .i64 y1, .string y2, .slice y3 y4 y5] 24)
  have p0 := Z7.c0
  have p1 := Z7.c1
  have p2 := Z7.c2
  have p3 := Z7.c3
  have f0 := Z7.frozen 0
  have f1 := Z7.frozen 1
  have f2 := Z7.frozen 2
  have f3 := Z7.frozen 3
  go_simp
  refine hK.out _ _ (HeldYx.put HLT.out (w.heap.size + 1) hDZ _ _ _ _ hHeld) (fun hHeld => ?_)
  clear hK K
  (try simp only [Act.put, List.setIfInBounds_toArray, List.set_cons_zero, List.set_cons_succ])
  refine wpAnyH_done (by kernel_rfl) ?_ _
  have P1 := Z7.put (h' := ⟨hk, 0, ByteArray.empty, some ⟨w6.heap.size, 0, none⟩, 2, 2⟩)
  have tn := two_new w6 24 ⟨x0, x1, x2, x3, x4, x5⟩ ⟨y0, y1, y2, y3, y4, y5⟩
  have hal := (Below.refl w6.heap.size w6).alloc (Nat.le_refl _) (.cells #[.int .i64 x0, .int .i64 x1, .string x2, .slice x3 x4 x5, .int .i64 y0, .int .i64 y1, .string y2, .slice y3 y4 y5] 24)
  have hsz : ∀ (Q : World) (u0 u1 u2 u3 : Value), ((((Q.setCell ⟨w.heap.size + 1, 0, none⟩ u0).setCell ⟨w.heap.size + 1, 1, none⟩ u1).setCell ⟨w.heap.size + 1, 2, none⟩ u2).setCell ⟨w.heap.size + 1, 3, none⟩ u3).heap.size = Q.heap.size := fun Q u0 u1 u2 u3 => by simp [World.setCell]
  have lt6 := Z6.lt
  have lt5 := Z5.lt
  have ltz : w.heap.size + 1 < w2.heap.size := Z.out.lt
  have sz6 : (w6.alloc (.cells #[.int .i64 x0, .int .i64 x1, .string x2, .slice x3 x4 x5, .int .i64 y0, .int .i64 y1, .string y2, .slice y3 y4 y5] 24)).heap.size = w6.heap.size + 1 := by simp
  have pc : ∀ q x, q ≠ w.heap.size + 1 → (putEh (w6.alloc (.cells #[.int .i64 x0, .int .i64 x1, .string x2, .slice x3 x4 x5, .int .i64 y0, .int .i64 y1, .string y2, .slice y3 y4 y5] 24)) (w.heap.size + 1) ⟨hk, 0, ByteArray.empty, some ⟨w6.heap.size, 0, none⟩, 2, 2⟩).cell? ⟨q, x, none⟩ = (w6.alloc (.cells #[.int .i64 x0, .int .i64 x1, .string x2, .slice x3 x4 x5, .int .i64 y0, .int .i64 y1, .string y2, .slice y3 y4 y5] 24)).cell? ⟨q, x, none⟩ := fun q x hq => put_cell hq
  have pz : (putEh (w6.alloc (.cells #[.int .i64 x0, .int .i64 x1, .string x2, .slice x3 x4 x5, .int .i64 y0, .int .i64 y1, .string y2, .slice y3 y4 y5] 24)) (w.heap.size + 1) ⟨hk, 0, ByteArray.empty, some ⟨w6.heap.size, 0, none⟩, 2, 2⟩).heap.size = (w6.alloc (.cells #[.int .i64 x0, .int .i64 x1, .string x2, .slice x3 x4 x5, .int .i64 y0, .int .i64 y1, .string y2, .slice y3 y4 y5] 24)).heap.size := hsz _ _ _ _ _
  have hxf : EOx (putEh (w6.alloc (.cells #[.int .i64 x0, .int .i64 x1, .string x2, .slice x3 x4 x5, .int .i64 y0, .int .i64 y1, .string y2, .slice y3 y4 y5] 24)) (w.heap.size + 1) ⟨hk, 0, ByteArray.empty, some ⟨w6.heap.size, 0, none⟩, 2, 2⟩) w.heap.size (putEh (w6.alloc (.cells #[.int .i64 x0, .int .i64 x1, .string x2, .slice x3 x4 x5, .int .i64 y0, .int .i64 y1, .string y2, .slice y3 y4 y5] 24)) (w.heap.size + 1) ⟨hk, 0, ByteArray.empty, some ⟨w6.heap.size, 0, none⟩, 2, 2⟩).heap.size L.cln ⟨x0, x1, x2, x3, x4, x5⟩ := (hx6.step hal).keep (by show w.heap.size ≤ w2.heap.size; omega) (Nat.le_of_eq pz.symm) fun q x hq _ => pc q x (by have : w2.heap.size ≤ q := hq; omega)
  have hyf : EOx (putEh (w6.alloc (.cells #[.int .i64 x0, .int .i64 x1, .string x2, .slice x3 x4 x5, .int .i64 y0, .int .i64 y1, .string y2, .slice y3 y4 y5] 24)) (w.heap.size + 1) ⟨hk, 0, ByteArray.empty, some ⟨w6.heap.size, 0, none⟩, 2, 2⟩) w.heap.size (putEh (w6.alloc (.cells #[.int .i64 x0, .int .i64 x1, .string x2, .slice x3 x4 x5, .int .i64 y0, .int .i64 y1, .string y2, .slice y3 y4 y5] 24)) (w.heap.size + 1) ⟨hk, 0, ByteArray.empty, some ⟨w6.heap.size, 0, none⟩, 2, 2⟩).heap.size R.cln ⟨y0, y1, y2, y3, y4, y5⟩ := (hy6.step hal).keep (by omega) (Nat.le_of_eq pz.symm) fun q x hq _ => pc q x (by have : w5.heap.size ≤ q := hq; omega)
  have tn1 := tn.1.keep fun x => pc w6.heap.size x (by omega)
  have tn2 := tn.2.keep fun x => pc w6.heap.size x (by omega)
  have FIN := Lib.hid (EOx.two (c := 2) HE.out ⟨show w.heap.size ≤ w6.heap.size by omega, by rw [pz]; simp⟩ tn1 tn2 hxf hyf)
  have P1H := Lib.hid P1
  have HBH := Lib.hid hHeld.bel
  clear pc pz P1 tn hal hsz hxf hyf tn1 tn2 hHeld Z7 p0 p1 p2 p3 f0 f1 f2 f3
  go_wp2_with fail
  refine bodyPost_ret (results_cell_row rfl _ _ (w.heap.size + 1) 24 _ (0, 0) _ rfl P1H.out rfl rfl Try.infoEx) rfl ?_
  exact ⟨_, rfl, FIN.out, HBH.out⟩
theorem cls : ∀ T : Xp, ClS T
  | .num n => fun h w hT => cls_leaf (.num n) h w hT hT.two
  | .nam s => fun h w hT => cls_leaf (.nam s) h w hT hT.two
  | .op _ L R => cls_op (cls L) (cls R)
  | .nul => fun h w hT => cls_leaf .nul h w hT hT.two
end Go.Proofs.Ytinbcdadffljhaa
