/-
  Contract of the program's from on makers of expressions, with number, named and operation: what means something alone.
-/
import Derived.Test.YtinbcdadffljhaaExPe
import Derived.Test.YtinbcdadffljhaaExFrN
namespace Go.Proofs.Ytinbcdadffljhaa
open Go.RowKit Go.Shelf
set_option maxRecDepth 100000

theorem HeldG.set4 {D b o n0 B : Nat} {f0 f1 f2 V0 V1 V2 V3 : Value} {h : Eh} {W : World} (hD : D ≠ B) (hb : b ≠ B) (hh : HeldG D b o f0 f1 f2 h n0 W) : HeldG D b o f0 f1 f2 h n0 ((((W.setCell ⟨B, 0, none⟩ V0).setCell ⟨B, 1, none⟩ V1).setCell ⟨B, 2, none⟩ V2).setCell ⟨B, 3, none⟩ V3) := by
  obtain ⟨a1, a2, a3, a4, a5, a6, a7, a8⟩ := hh
  exact ⟨(put_cell hD).trans a1, (put_cell hD).trans a2, (put_cell hD).trans a3, (put_cell hb).trans a4, (put_cell hb).trans a5, (put_cell hb).trans a6, (put_cell hb).trans a7, by simpa [World.setCell] using a8⟩
/-- .. and two boxes besides -/
abbrev HeldH (D b o : Nat) (f0 f1 f2 : Value) (h : Eh) (B C : Nat) (x y : Eh) (n0 : Nat) (W : World) : Prop :=
  W.cell? ⟨D, 0, none⟩ = some f0 ∧ W.cell? ⟨D, 1, none⟩ = some f1 ∧ W.cell? ⟨D, 2, none⟩ = some f2 ∧
  W.cell? ⟨b, o, none⟩ = some (.int .i64 h.k) ∧ W.cell? ⟨b, o + 1, none⟩ = some (.int .i64 h.n) ∧ W.cell? ⟨b, o + 2, none⟩ = some (.string h.s) ∧ W.cell? ⟨b, o + 3, none⟩ = some (.slice h.A h.m h.cap) ∧
  W.cell? ⟨B, 0, none⟩ = some (.int .i64 x.k) ∧ W.cell? ⟨B, 1, none⟩ = some (.int .i64 x.n) ∧ W.cell? ⟨B, 2, none⟩ = some (.string x.s) ∧ W.cell? ⟨B, 3, none⟩ = some (.slice x.A x.m x.cap) ∧
  W.cell? ⟨C, 0, none⟩ = some (.int .i64 y.k) ∧ W.cell? ⟨C, 1, none⟩ = some (.int .i64 y.n) ∧ W.cell? ⟨C, 2, none⟩ = some (.string y.s) ∧ W.cell? ⟨C, 3, none⟩ = some (.slice y.A y.m y.cap) ∧ n0 ≤ W.heap.size
section
variable {D b o n0 B C : Nat} {f0 f1 f2 : Value} {h x y : Eh} {W W2 : World}
theorem HeldH.drew (hh : HeldH D b o f0 f1 f2 h B C x y n0 W) : HeldH D b o f0 f1 f2 h B C x y n0 W.drew := hh
theorem HeldH.keepc (hh : HeldH D b o f0 f1 f2 h B C x y n0 W) (hc : ∀ q i, (q = D ∨ q = b ∨ q = B ∨ q = C) → W2.cell? ⟨q, i, none⟩ = W.cell? ⟨q, i, none⟩) (hs : W.heap.size ≤ W2.heap.size) : HeldH D b o f0 f1 f2 h B C x y n0 W2 := by
  obtain ⟨a1, a2, a3, a4, a5, a6, a7, b0, b1, b2, b3, c0, c1, c2, c3, a8⟩ := hh
  have cD := fun i => hc D i (.inl rfl)
  have cb := fun i => hc b i (.inr (.inl rfl))
  have cB := fun i => hc B i (.inr (.inr (.inl rfl)))
  have cC := fun i => hc C i (.inr (.inr (.inr rfl)))
  exact ⟨(cD _).trans a1, (cD _).trans a2, (cD _).trans a3, (cb _).trans a4, (cb _).trans a5, (cb _).trans a6, (cb _).trans a7, (cB _).trans b0, (cB _).trans b1, (cB _).trans b2, (cB _).trans b3, (cC _).trans c0, (cC _).trans c1, (cC _).trans c2, (cC _).trans c3, Nat.le_trans a8 hs⟩
theorem HeldH.set4 {q : Nat} {V0 V1 V2 V3 : Value} (hq : D ≠ q ∧ b ≠ q ∧ B ≠ q ∧ C ≠ q) (hh : HeldH D b o f0 f1 f2 h B C x y n0 W) : HeldH D b o f0 f1 f2 h B C x y n0 ((((W.setCell ⟨q, 0, none⟩ V0).setCell ⟨q, 1, none⟩ V1).setCell ⟨q, 2, none⟩ V2).setCell ⟨q, 3, none⟩ V3) :=
  hh.keepc (fun r i hr => put_cell (by rcases hr with rfl | rfl | rfl | rfl; exact hq.1; exact hq.2.1; exact hq.2.2.1; exact hq.2.2.2)) (by simp [World.setCell])
end
/-- from answers T, turned -/
def Fra (T : Xp) : Prop :=
  ∀ (h : Eh) (b o : Nat) (W : World), EhAt W b o h → b < W.heap.size → EIn W W.heap.size T h →
    Calls Try.prog 43 #[.agg #[.func (.func 39) #[] #[], .func (.func 40) #[] #[], .func (.func 41) #[] #[]], .pointer (some ⟨b, o, none⟩)] W (OutE (Xp.cln (T)) W)

set_option maxHeartbeats 8000000 in
theorem fra_num (z : Int) : Fra (.num z) := by
  intro h b o W hh hb hT
  have htwo := hT.two
  obtain ⟨k, n, s, A, m, cap⟩ := h
  have key : ∃ w1, w1 = (W.alloc (.cells #[.func (.func 39) #[] #[], .func (.func 40) #[] #[], .func (.func 41) #[] #[]] 69)).alloc (.cells Eh.zero.cells 24) ∧ Below W.heap.size W w1 ∧ w1.heap.size = W.heap.size + 2 ∧ w1.heap[W.heap.size]? = some (.cells #[.func (.func 39) #[] #[], .func (.func 40) #[] #[], .func (.func 41) #[] #[]] 69 (0, 0)) ∧ EB 24 w1 (W.heap.size + 1) Eh.zero := by
    refine ⟨_, rfl, ((Below.refl _ _).alloc (Nat.le_refl _) _).alloc (by simp) _, by simp, ((World.grownBy_alloc _ _ none).block _ (by simp) (by simp)).trans (World.alloc_heap_new _ _), ?_⟩
    have := EB.new (W.alloc (.cells #[.func (.func 39) #[] #[], .func (.func 40) #[] #[], .func (.func 41) #[] #[]] 69)) 24 Eh.zero
    simpa using this
  obtain ⟨w1, hw1, hb1, hs1, e, t1⟩ := key
  have d0 : w1.cell? ⟨W.heap.size, 0, none⟩ = some (.func (.func 39) #[] #[]) := by simp only [World.cell?, e]; rfl
  have d1 : w1.cell? ⟨W.heap.size, 1, none⟩ = some (.func (.func 40) #[] #[]) := by simp only [World.cell?, e]; rfl
  have d2 : w1.cell? ⟨W.heap.size, 2, none⟩ = some (.func (.func 41) #[] #[]) := by simp only [World.cell?, e]; rfl
  have hh1 := hh.below hb1 hb
  have hx : HeldG W.heap.size b o (.func (.func 39) #[] #[]) (.func (.func 40) #[] #[]) (.func (.func 41) #[] #[]) ⟨k, n, s, A, m, cap⟩ w1.heap.size w1 := ⟨d0, d1, d2, hh1.h0, hh1.h1, hh1.h2, hh1.h3, Nat.le_refl _⟩
  have hD : W.heap.size < w1.heap.size := by omega
  have hbD : b < w1.heap.size := by omega
  have HW : Hid (w1 = (W.alloc (.cells #[.func (.func 39) #[] #[], .func (.func 40) #[] #[], .func (.func 41) #[] #[]] 69)).alloc (.cells #[.int .i64 0, .int .i64 0, .string ⟨#[]⟩, .slice none 0 0] 24)) := hw1
  obtain ⟨rfl, rfl, hin⟩ := hT
  show Calls _ _ _ _ (OutE (.num n) W)
  have A0 : Hid (∀ V, HeldG W.heap.size b o (.func (.func 39) #[] #[]) (.func (.func 40) #[] #[]) (.func (.func 41) #[] #[]) ⟨1, n, s, A, m, cap⟩ w1.heap.size V → Below w1.heap.size w1 V → Calls Try.prog 39 #[.int .i64 n] V fun e w' => ∃ y0 y1 y2 y3 y4 y5, e = .returned (.agg #[.int .i64 y0, .int .i64 y1, .string y2, .slice y3 y4 y5]) ∧ HeldG W.heap.size b o (.func (.func 39) #[] #[]) (.func (.func 40) #[] #[]) (.func (.func 41) #[] #[]) ⟨1, n, s, A, m, cap⟩ w1.heap.size w' ∧ EOx w' w1.heap.size w'.heap.size (.num n) ⟨y0, y1, y2, y3, y4, y5⟩ ∧ Below w1.heap.size w1 w') := Lib.hid fun V hV hBV => by
    refine (pnum_any n V hin).mono ?_
    rintro e w' ⟨⟨y0, y1, y2, y3, y4, y5⟩, rfl, h1, h2⟩
    exact ⟨_, _, _, _, _, _, rfl, hV.keep (q := fun _ => True) ⟨hD, trivial⟩ ⟨hbD, trivial⟩ (Keeps.of_below h2 (fun k hk _ => hk)), h1.keep hBV.size (Nat.le_refl _) (fun _ _ _ _ => rfl), below_step hBV hBV.size h2⟩
  have HB1 := Lib.hid hb1
  have HT1 := Lib.hid t1
  have HS := Lib.hid hs1
  have HBL := Lib.hid hb
  clear hb1 t1 hs1 hb
  obtain ⟨a1, a2, a3, a4, a5, a6, a7, a8⟩ := hx
  dsimp only at a4 a5 a6 a7
  clear hw1 e d0 d1 d2 hh hh1 hD hbD htwo
  clear hin
  go_enter Try.func43, Try.ntmps43
  go_upto_region 1 with fail
  rw [← HW.out]
  go_wp2_with fail
  go_region_held3 (HeldG W.heap.size b o (.func (.func 39) #[] #[]) (.func (.func 40) #[] #[]) (.func (.func 41) #[] #[]) ⟨1, n, s, A, m, cap⟩ w1.heap.size)
    (first
      | (go_split_ands; refine ⟨?_, ?_, ?_, ?_, ?_, ?_, ?_, ?_⟩ <;> with_reducible assumption)
      | (go_split_ands; with_reducible exact HeldG.set4 (by have := HS.out; have := HBL.out; first | omega | (simp; omega)) (by have := HS.out; have := HBL.out; first | omega | (simp; omega)) ⟨‹_›, ‹_›, ‹_›, ‹_›, ‹_›, ‹_›, ‹_›, ‹_›⟩)
      | (go_split_ands; with_reducible exact HeldG.drew ⟨‹_›, ‹_›, ‹_›, ‹_›, ‹_›, ‹_›, ‹_›, ‹_›⟩)
      | (go_split_ands; with_reducible exact HeldG.alloc ⟨‹_›, ‹_›, ‹_›, ‹_›, ‹_›, ‹_›, ‹_›, ‹_›⟩ _)
      | (go_split_ands; with_reducible exact HeldG.drew (HeldG.alloc ⟨‹_›, ‹_›, ‹_›, ‹_›, ‹_›, ‹_›, ‹_›, ‹_›⟩ _)))
    (first
      | (go_at_call 39; (with_reducible refine (A0.out _ (by assumption) (by first | exact (Below.refl _ _).drew | exact ((Below.refl _ _).drew).alloc (Nat.le_refl _) _ | exact ((Below.refl _ _).alloc (Nat.le_refl _) _).drew)).mono ?_); rintro e w5 ⟨y0, y1, y2, y3, y4, y5, rfl, hq5, hx5, hb5⟩; have z := HT1.out.step hb5; have z0 := z.c0; have z1 := z.c1; have z2 := z.c2; have z3 := z.c3; have f0 := z.frozen 0; have f1 := z.frozen 1; have f2 := z.frozen 2; have f3 := z.frozen 3))
  all_goals
    have P := Lib.hid (putE_fin (W := W) z hx5 (by omega) (by have := HS.out; omega) (HB1.out.trans (hb5.mono HB1.out.size)))
    clear z z0 z1 z2 z3 f0 f1 f2 f3 hq5 hx5 hb5
    go_wp2_with fail
    refine bodyPost_ret (results_cell_row rfl _ _ (W.heap.size + 1) 24 _ (0, 0) _ rfl P.out.1 rfl rfl Try.infoEx) rfl ?_
    exact ⟨_, rfl, P.out.2⟩

set_option maxHeartbeats 8000000 in
theorem fra_nam (z : ByteArray) : Fra (.nam z) := by
  intro h b o W hh hb hT
  have htwo := hT.two
  obtain ⟨k, n, s, A, m, cap⟩ := h
  have key : ∃ w1, w1 = (W.alloc (.cells #[.func (.func 39) #[] #[], .func (.func 40) #[] #[], .func (.func 41) #[] #[]] 69)).alloc (.cells Eh.zero.cells 24) ∧ Below W.heap.size W w1 ∧ w1.heap.size = W.heap.size + 2 ∧ w1.heap[W.heap.size]? = some (.cells #[.func (.func 39) #[] #[], .func (.func 40) #[] #[], .func (.func 41) #[] #[]] 69 (0, 0)) ∧ EB 24 w1 (W.heap.size + 1) Eh.zero := by
    refine ⟨_, rfl, ((Below.refl _ _).alloc (Nat.le_refl _) _).alloc (by simp) _, by simp, ((World.grownBy_alloc _ _ none).block _ (by simp) (by simp)).trans (World.alloc_heap_new _ _), ?_⟩
    have := EB.new (W.alloc (.cells #[.func (.func 39) #[] #[], .func (.func 40) #[] #[], .func (.func 41) #[] #[]] 69)) 24 Eh.zero
    simpa using this
  obtain ⟨w1, hw1, hb1, hs1, e, t1⟩ := key
  have d0 : w1.cell? ⟨W.heap.size, 0, none⟩ = some (.func (.func 39) #[] #[]) := by simp only [World.cell?, e]; rfl
  have d1 : w1.cell? ⟨W.heap.size, 1, none⟩ = some (.func (.func 40) #[] #[]) := by simp only [World.cell?, e]; rfl
  have d2 : w1.cell? ⟨W.heap.size, 2, none⟩ = some (.func (.func 41) #[] #[]) := by simp only [World.cell?, e]; rfl
  have hh1 := hh.below hb1 hb
  have hx : HeldG W.heap.size b o (.func (.func 39) #[] #[]) (.func (.func 40) #[] #[]) (.func (.func 41) #[] #[]) ⟨k, n, s, A, m, cap⟩ w1.heap.size w1 := ⟨d0, d1, d2, hh1.h0, hh1.h1, hh1.h2, hh1.h3, Nat.le_refl _⟩
  have hD : W.heap.size < w1.heap.size := by omega
  have hbD : b < w1.heap.size := by omega
  have HW : Hid (w1 = (W.alloc (.cells #[.func (.func 39) #[] #[], .func (.func 40) #[] #[], .func (.func 41) #[] #[]] 69)).alloc (.cells #[.int .i64 0, .int .i64 0, .string ⟨#[]⟩, .slice none 0 0] 24)) := hw1
  obtain ⟨rfl, rfl, hsz⟩ := hT
  show Calls _ _ _ _ (OutE (.nam s) W)
  have A0 : Hid (∀ V, HeldG W.heap.size b o (.func (.func 39) #[] #[]) (.func (.func 40) #[] #[]) (.func (.func 41) #[] #[]) ⟨2, n, s, A, m, cap⟩ w1.heap.size V → Below w1.heap.size w1 V → Calls Try.prog 40 #[.string s] V fun e w' => ∃ y0 y1 y2 y3 y4 y5, e = .returned (.agg #[.int .i64 y0, .int .i64 y1, .string y2, .slice y3 y4 y5]) ∧ HeldG W.heap.size b o (.func (.func 39) #[] #[]) (.func (.func 40) #[] #[]) (.func (.func 41) #[] #[]) ⟨2, n, s, A, m, cap⟩ w1.heap.size w' ∧ EOx w' w1.heap.size w'.heap.size (.nam s) ⟨y0, y1, y2, y3, y4, y5⟩ ∧ Below w1.heap.size w1 w') := Lib.hid fun V hV hBV => by
    refine (pnam_any s hsz V).mono ?_
    rintro e w' ⟨⟨y0, y1, y2, y3, y4, y5⟩, rfl, h1, h2⟩
    exact ⟨_, _, _, _, _, _, rfl, hV.keep (q := fun _ => True) ⟨hD, trivial⟩ ⟨hbD, trivial⟩ (Keeps.of_below h2 (fun k hk _ => hk)), h1.keep hBV.size (Nat.le_refl _) (fun _ _ _ _ => rfl), below_step hBV hBV.size h2⟩
  have HB1 := Lib.hid hb1
  have HT1 := Lib.hid t1
  have HS := Lib.hid hs1
  have HBL := Lib.hid hb
  clear hb1 t1 hs1 hb
  obtain ⟨a1, a2, a3, a4, a5, a6, a7, a8⟩ := hx
  dsimp only at a4 a5 a6 a7
  clear hw1 e d0 d1 d2 hh hh1 hD hbD htwo
  clear hsz
  go_enter Try.func43, Try.ntmps43
  go_upto_region 1 with fail
  rw [← HW.out]
  go_wp2_with fail
  go_region_held3 (HeldG W.heap.size b o (.func (.func 39) #[] #[]) (.func (.func 40) #[] #[]) (.func (.func 41) #[] #[]) ⟨2, n, s, A, m, cap⟩ w1.heap.size)
    (first
      | (go_split_ands; refine ⟨?_, ?_, ?_, ?_, ?_, ?_, ?_, ?_⟩ <;> with_reducible assumption)
      | (go_split_ands; with_reducible exact HeldG.set4 (by have := HS.out; have := HBL.out; first | omega | (simp; omega)) (by have := HS.out; have := HBL.out; first | omega | (simp; omega)) ⟨‹_›, ‹_›, ‹_›, ‹_›, ‹_›, ‹_›, ‹_›, ‹_›⟩)
      | (go_split_ands; with_reducible exact HeldG.drew ⟨‹_›, ‹_›, ‹_›, ‹_›, ‹_›, ‹_›, ‹_›, ‹_›⟩)
      | (go_split_ands; with_reducible exact HeldG.alloc ⟨‹_›, ‹_›, ‹_›, ‹_›, ‹_›, ‹_›, ‹_›, ‹_›⟩ _)
      | (go_split_ands; with_reducible exact HeldG.drew (HeldG.alloc ⟨‹_›, ‹_›, ‹_›, ‹_›, ‹_›, ‹_›, ‹_›, ‹_›⟩ _)))
    (first
      | (go_at_call 40; (with_reducible refine (A0.out _ (by assumption) (by first | exact (Below.refl _ _).drew | exact ((Below.refl _ _).drew).alloc (Nat.le_refl _) _ | exact ((Below.refl _ _).alloc (Nat.le_refl _) _).drew)).mono ?_); rintro e w5 ⟨y0, y1, y2, y3, y4, y5, rfl, hq5, hx5, hb5⟩; have z := HT1.out.step hb5; have z0 := z.c0; have z1 := z.c1; have z2 := z.c2; have z3 := z.c3; have f0 := z.frozen 0; have f1 := z.frozen 1; have f2 := z.frozen 2; have f3 := z.frozen 3))
  all_goals
    have P := Lib.hid (putE_fin (W := W) z hx5 (by omega) (by have := HS.out; omega) (HB1.out.trans (hb5.mono HB1.out.size)))
    clear z z0 z1 z2 z3 f0 f1 f2 f3 hq5 hx5 hb5
    go_wp2_with fail
    refine bodyPost_ret (results_cell_row rfl _ _ (W.heap.size + 1) 24 _ (0, 0) _ rfl P.out.1 rfl rfl Try.infoEx) rfl ?_
    exact ⟨_, rfl, P.out.2⟩

set_option maxHeartbeats 8000000 in
theorem fra_nul : Fra .nul := by
  intro h b o W hh hb hT
  have htwo := hT.two
  obtain ⟨k, n, s, A, m, cap⟩ := h
  have key : ∃ w1, w1 = (W.alloc (.cells #[.func (.func 39) #[] #[], .func (.func 40) #[] #[], .func (.func 41) #[] #[]] 69)).alloc (.cells Eh.zero.cells 24) ∧ Below W.heap.size W w1 ∧ w1.heap.size = W.heap.size + 2 ∧ w1.heap[W.heap.size]? = some (.cells #[.func (.func 39) #[] #[], .func (.func 40) #[] #[], .func (.func 41) #[] #[]] 69 (0, 0)) ∧ EB 24 w1 (W.heap.size + 1) Eh.zero := by
    refine ⟨_, rfl, ((Below.refl _ _).alloc (Nat.le_refl _) _).alloc (by simp) _, by simp, ((World.grownBy_alloc _ _ none).block _ (by simp) (by simp)).trans (World.alloc_heap_new _ _), ?_⟩
    have := EB.new (W.alloc (.cells #[.func (.func 39) #[] #[], .func (.func 40) #[] #[], .func (.func 41) #[] #[]] 69)) 24 Eh.zero
    simpa using this
  obtain ⟨w1, hw1, hb1, hs1, e, t1⟩ := key
  have d0 : w1.cell? ⟨W.heap.size, 0, none⟩ = some (.func (.func 39) #[] #[]) := by simp only [World.cell?, e]; rfl
  have d1 : w1.cell? ⟨W.heap.size, 1, none⟩ = some (.func (.func 40) #[] #[]) := by simp only [World.cell?, e]; rfl
  have d2 : w1.cell? ⟨W.heap.size, 2, none⟩ = some (.func (.func 41) #[] #[]) := by simp only [World.cell?, e]; rfl
  have hh1 := hh.below hb1 hb
  have hx : HeldG W.heap.size b o (.func (.func 39) #[] #[]) (.func (.func 40) #[] #[]) (.func (.func 41) #[] #[]) ⟨k, n, s, A, m, cap⟩ w1.heap.size w1 := ⟨d0, d1, d2, hh1.h0, hh1.h1, hh1.h2, hh1.h3, Nat.le_refl _⟩
  have hD : W.heap.size < w1.heap.size := by omega
  have hbD : b < w1.heap.size := by omega
  have HW : Hid (w1 = (W.alloc (.cells #[.func (.func 39) #[] #[], .func (.func 40) #[] #[], .func (.func 41) #[] #[]] 69)).alloc (.cells #[.int .i64 0, .int .i64 0, .string ⟨#[]⟩, .slice none 0 0] 24)) := hw1
  obtain ⟨k1, k2, _⟩ := hT
  unfold Eh.two at htwo
  dsimp only at k1 k2 htwo
  have k11 : (k == 1) = false := by simpa using k1
  have k22 : (k == 2) = false := by simpa using k2
  have A0 : Hid (∀ V, Calls Try.prog 39 #[.int .i64 0] V (OutE (.num 0) V)) := Lib.hid fun V => pnum_any 0 V (by unfold inI; omega)
  show Calls _ _ _ _ (OutE (.num 0) W)
  have HB1 := Lib.hid hb1
  have HT1 := Lib.hid t1
  have HS := Lib.hid hs1
  have HBL := Lib.hid hb
  clear hb1 t1 hs1 hb
  obtain ⟨a1, a2, a3, a4, a5, a6, a7, a8⟩ := hx
  dsimp only at a4 a5 a6 a7
  obtain ⟨q, hq⟩ : ∃ q, q = (decide (3 ≤ k) && decide (k ≤ 9)) := ⟨_, rfl⟩
  rw [← hq] at htwo
  have B5 : Hid ((decide (3 ≤ k) && decide (k ≤ 9)) = q) := Lib.hid hq.symm
  have hm : q = true → decide ((2 : Int) ≤ (m : Int)) = false := fun h => by rw [h] at htwo; simp at htwo ⊢; omega
  clear hq
  clear hw1 e d0 d1 d2 hh hh1 hD hbD htwo
  clear k1 k2
  cases q with
  | false =>
    clear hm
    go_enter Try.func43, Try.ntmps43
    go_upto_region 1 with fail
    rw [← HW.out]
    go_wp2_with fail
    refine (isop_any k w1).mono ?_
    rintro e w4 ⟨rfl, rfl⟩
    rw [B5.out]
    go_wp2_with fail
    refine (A0.out w4).mono ?_
    rintro e w5 ⟨⟨y0, y1, y2, y3, y4, y5⟩, rfl, hx5, hb5⟩
    have z := HT1.out.step hb5
    have z0 := z.c0; have z1 := z.c1; have z2 := z.c2; have z3 := z.c3; have f0 := z.frozen 0; have f1 := z.frozen 1; have f2 := z.frozen 2; have f3 := z.frozen 3
    have P := Lib.hid (putE_fin (W := W) z hx5 (by omega) (by have := HS.out; omega) (HB1.out.trans (hb5.mono HB1.out.size)))
    clear z hx5 hb5
    dsimp only [Eh.cells]
    go_wp2_with fail
    refine bodyPost_ret (results_cell_row rfl _ _ (W.heap.size + 1) 24 _ (0, 0) _ rfl P.out.1 rfl rfl Try.infoEx) rfl ?_
    exact ⟨_, rfl, P.out.2⟩
  | true =>
    have hm2 := hm rfl
    clear hm
    go_enter Try.func43, Try.ntmps43
    go_upto_region 1 with fail
    rw [← HW.out]
    go_wp2_with fail
    refine (isop_any k w1).mono ?_
    rintro e w4 ⟨rfl, rfl⟩
    rw [B5.out]
    go_wp2_with fail
    refine (A0.out w4).mono ?_
    rintro e w5 ⟨⟨y0, y1, y2, y3, y4, y5⟩, rfl, hx5, hb5⟩
    have z := HT1.out.step hb5
    have z0 := z.c0; have z1 := z.c1; have z2 := z.c2; have z3 := z.c3; have f0 := z.frozen 0; have f1 := z.frozen 1; have f2 := z.frozen 2; have f3 := z.frozen 3
    have P := Lib.hid (putE_fin (W := W) z hx5 (by omega) (by have := HS.out; omega) (HB1.out.trans (hb5.mono HB1.out.size)))
    clear z hx5 hb5
    dsimp only [Eh.cells]
    go_wp2_with fail
    refine bodyPost_ret (results_cell_row rfl _ _ (W.heap.size + 1) 24 _ (0, 0) _ rfl P.out.1 rfl rfl Try.infoEx) rfl ?_
    exact ⟨_, rfl, P.out.2⟩

set_option maxHeartbeats 8000000 in
theorem fra_op {k0 : Int} {L R : Xp} (hL : Fra L) (hR0 : Fra R) : Fra (.op k0 L R) := by
  intro h b o W hh hb hT
  have htwo := hT.two
  obtain ⟨k, n, s, A, m, cap⟩ := h
  have key : ∃ w1, w1 = (W.alloc (.cells #[.func (.func 39) #[] #[], .func (.func 40) #[] #[], .func (.func 41) #[] #[]] 69)).alloc (.cells Eh.zero.cells 24) ∧ Below W.heap.size W w1 ∧ w1.heap.size = W.heap.size + 2 ∧ w1.heap[W.heap.size]? = some (.cells #[.func (.func 39) #[] #[], .func (.func 40) #[] #[], .func (.func 41) #[] #[]] 69 (0, 0)) ∧ EB 24 w1 (W.heap.size + 1) Eh.zero := by
    refine ⟨_, rfl, ((Below.refl _ _).alloc (Nat.le_refl _) _).alloc (by simp) _, by simp, ((World.grownBy_alloc _ _ none).block _ (by simp) (by simp)).trans (World.alloc_heap_new _ _), ?_⟩
    have := EB.new (W.alloc (.cells #[.func (.func 39) #[] #[], .func (.func 40) #[] #[], .func (.func 41) #[] #[]] 69)) 24 Eh.zero
    simpa using this
  obtain ⟨w1, hw1, hb1, hs1, e, t1⟩ := key
  have d0 : w1.cell? ⟨W.heap.size, 0, none⟩ = some (.func (.func 39) #[] #[]) := by simp only [World.cell?, e]; rfl
  have d1 : w1.cell? ⟨W.heap.size, 1, none⟩ = some (.func (.func 40) #[] #[]) := by simp only [World.cell?, e]; rfl
  have d2 : w1.cell? ⟨W.heap.size, 2, none⟩ = some (.func (.func 41) #[] #[]) := by simp only [World.cell?, e]; rfl
  have hh1 := hh.below hb1 hb
  have hx : HeldG W.heap.size b o (.func (.func 39) #[] #[]) (.func (.func 40) #[] #[]) (.func (.func 41) #[] #[]) ⟨k, n, s, A, m, cap⟩ w1.heap.size w1 := ⟨d0, d1, d2, hh1.h0, hh1.h1, hh1.h2, hh1.h3, Nat.le_refl _⟩
  have hD : W.heap.size < w1.heap.size := by omega
  have hbD : b < w1.heap.size := by omega
  have HW : Hid (w1 = (W.alloc (.cells #[.func (.func 39) #[] #[], .func (.func 40) #[] #[], .func (.func 41) #[] #[]] 69)).alloc (.cells #[.int .i64 0, .int .i64 0, .string ⟨#[]⟩, .slice none 0 0] 24)) := hw1
  obtain ⟨rfl, k3, k9, m2, b1, o1, gl, gr, hA, e6, e7, e8, e9, e10⟩ := hT
  dsimp only at hA m2 k3 k9
  subst hA

  have A6 : Hid (∀ V, HeldG W.heap.size b o (.func (.func 39) #[] #[]) (.func (.func 40) #[] #[]) (.func (.func 41) #[] #[]) ⟨k, n, s, some ⟨b1, o1, none⟩, m, cap⟩ w1.heap.size V → Below w1.heap.size w1 V → Calls Try.prog 43 #[.agg #[.func (.func 39) #[] #[], .func (.func 40) #[] #[], .func (.func 41) #[] #[]], .pointer (some ⟨b1, o1, none⟩)] V fun e w' => ∃ y0 y1 y2 y3 y4 y5, e = .returned (.agg #[.int .i64 y0, .int .i64 y1, .string y2, .slice y3 y4 y5]) ∧ HeldG W.heap.size b o (.func (.func 39) #[] #[]) (.func (.func 40) #[] #[]) (.func (.func 41) #[] #[]) ⟨k, n, s, some ⟨b1, o1, none⟩, m, cap⟩ w1.heap.size w' ∧ EOx w' V.heap.size w'.heap.size (Xp.cln (L)) ⟨y0, y1, y2, y3, y4, y5⟩ ∧ Below V.heap.size V w' ∧ Below w1.heap.size w1 w') := Lib.hid fun V hV hBV => by
    have hbV := hb1.trans (hBV.mono hb1.size)
    refine (hL gl b1 (o1) V (e7.below hbV e6) (by have := hbV.size; omega) (e9.step hbV)).mono ?_
    rintro e w' ⟨⟨y0, y1, y2, y3, y4, y5⟩, rfl, h1, h2⟩
    exact ⟨_, _, _, _, _, _, rfl, hV.keep (q := fun _ => True) ⟨hD, trivial⟩ ⟨hbD, trivial⟩ (Keeps.of_below h2 (fun k hk _ => hk)), h1, h2, below_step hBV hBV.size h2⟩
  have A7 : Hid (∀ V, HeldG W.heap.size b o (.func (.func 39) #[] #[]) (.func (.func 40) #[] #[]) (.func (.func 41) #[] #[]) ⟨k, n, s, some ⟨b1, o1, none⟩, m, cap⟩ w1.heap.size V → Below w1.heap.size w1 V → Calls Try.prog 43 #[.agg #[.func (.func 39) #[] #[], .func (.func 40) #[] #[], .func (.func 41) #[] #[]], .pointer (some ⟨b1, o1 + 4, none⟩)] V fun e w' => ∃ y0 y1 y2 y3 y4 y5, e = .returned (.agg #[.int .i64 y0, .int .i64 y1, .string y2, .slice y3 y4 y5]) ∧ HeldG W.heap.size b o (.func (.func 39) #[] #[]) (.func (.func 40) #[] #[]) (.func (.func 41) #[] #[]) ⟨k, n, s, some ⟨b1, o1, none⟩, m, cap⟩ w1.heap.size w' ∧ EOx w' V.heap.size w'.heap.size (Xp.cln (R)) ⟨y0, y1, y2, y3, y4, y5⟩ ∧ Below V.heap.size V w' ∧ Below w1.heap.size w1 w') := Lib.hid fun V hV hBV => by
    have hbV := hb1.trans (hBV.mono hb1.size)
    refine (hR0 gr b1 (o1 + 4) V (e8.below hbV e6) (by have := hbV.size; omega) (e10.step hbV)).mono ?_
    rintro e w' ⟨⟨y0, y1, y2, y3, y4, y5⟩, rfl, h1, h2⟩
    exact ⟨_, _, _, _, _, _, rfl, hV.keep (q := fun _ => True) ⟨hD, trivial⟩ ⟨hbD, trivial⟩ (Keeps.of_below h2 (fun k hk _ => hk)), h1, h2, below_step hBV hBV.size h2⟩
  have hfin : (Xp.cln (Xp.op k L R)) = Xp.op k (Xp.cln (L)) (Xp.cln (R)) := rfl
  obtain ⟨TT, hTT⟩ : ∃ TT, TT = Xp.op k (Xp.cln (L)) (Xp.cln (R)) := ⟨_, rfl⟩
  have A8 : Hid (∀ V lo x y, lo ≤ V.heap.size → EOx V lo V.heap.size (Xp.cln (L)) x → EOx V lo V.heap.size (Xp.cln (R)) y → Calls Try.prog 41 #[.int .i64 k, .agg x.cells, .agg y.cells] V fun e w' => ∃ h', e = .returned (.agg h'.cells) ∧ EOx w' lo w'.heap.size TT h' ∧ Below V.heap.size V w') := Lib.hid fun V lo x y hlo h1 h2 => by
    rw [hTT]
    exact pop_any k ⟨k3, k9⟩ _ _ _ _ _ V (by omega) h1 h2
  show Calls _ _ _ _ (OutE (Xp.cln (Xp.op k L R)) W)
  rw [hfin, ← hTT]
  have B5 : Hid ((decide (3 ≤ k) && decide (k ≤ 9)) = true) := Lib.hid (by simp [k3, k9])
  have k11 : (k == 1) = false := by simp; omega
  have k22 : (k == 2) = false := by simp; omega
  have m0 : 0 < m := by omega
  have m1 : 1 < m := by omega
  have m3 : (1 : Int) < (m : Int) := by omega
  have m4 : (0 : Int) < (m : Int) := by omega
  have m5 : ¬ m ≤ 1 := by omega
  have m6 : decide ((2 : Int) ≤ (m : Int)) = true := by simp; omega
  have HB1 := Lib.hid hb1
  have HT1 := Lib.hid t1
  have HS := Lib.hid hs1
  have HBL := Lib.hid hb
  clear hb1 t1 hs1 hb
  obtain ⟨a1, a2, a3, a4, a5, a6, a7, a8⟩ := hx
  dsimp only at a4 a5 a6 a7
  clear hw1 e d0 d1 d2 hh hh1 hD hbD htwo
  clear hL hR0 e6 e7 e8 e9 e10 k3 k9 hfin hTT
  go_enter Try.func43, Try.ntmps43
  go_upto_region 1 with fail
  rw [← HW.out]
  go_wp2_with fail
  refine (isop_any k w1).mono ?_
  rintro e w5 ⟨rfl, rfl⟩
  rw [B5.out]
  go_upto_region 6 with fail
  go_cut [5] from 47 to 53 (fun t wx => ∃ ba x, t = .pointer (some ⟨ba, 0, none⟩) ∧ EB 24 wx ba x ∧ EOx wx w5.heap.size wx.heap.size (Xp.cln (L)) x ∧ HeldG W.heap.size b o (.func (.func 39) #[] #[]) (.func (.func 40) #[] #[]) (.func (.func 41) #[] #[]) ⟨k, n, s, some ⟨b1, o1, none⟩, m, cap⟩ w5.heap.size wx ∧ Below w5.heap.size w5 wx ∧ w5.heap.size ≤ ba)
  case first =>
    go_region_held3 (HeldG W.heap.size b o (.func (.func 39) #[] #[]) (.func (.func 40) #[] #[]) (.func (.func 41) #[] #[]) ⟨k, n, s, some ⟨b1, o1, none⟩, m, cap⟩ w5.heap.size)
      (first
        | (go_split_ands; refine ⟨?_, ?_, ?_, ?_, ?_, ?_, ?_, ?_⟩ <;> with_reducible assumption)
        | (go_split_ands; with_reducible exact HeldG.set4 (by have := HS.out; have := HBL.out; first | omega | (simp; omega)) (by have := HS.out; have := HBL.out; first | omega | (simp; omega)) ⟨‹_›, ‹_›, ‹_›, ‹_›, ‹_›, ‹_›, ‹_›, ‹_›⟩)
        | (go_split_ands; with_reducible exact HeldG.drew ⟨‹_›, ‹_›, ‹_›, ‹_›, ‹_›, ‹_›, ‹_›, ‹_›⟩)
        | (go_split_ands; with_reducible exact HeldG.alloc ⟨‹_›, ‹_›, ‹_›, ‹_›, ‹_›, ‹_›, ‹_›, ‹_›⟩ _)
        | (go_split_ands; with_reducible exact HeldG.drew (HeldG.alloc ⟨‹_›, ‹_›, ‹_›, ‹_›, ‹_›, ‹_›, ‹_›, ‹_›⟩ _)))
      (first
        | (go_at_call 43; (with_reducible refine (A6.out ((w5.alloc (.cells #[.int .i64 0, .int .i64 0, .string ⟨#[]⟩, .slice none 0 0] 24)).drew) (by assumption) (by first | exact (Below.refl _ _).drew | exact ((Below.refl _ _).drew).alloc (Nat.le_refl _) _ | exact ((Below.refl _ _).alloc (Nat.le_refl _) _).drew)).mono ?_); rintro e w6 ⟨y0, y1, y2, y3, y4, y5, rfl, hq6, hx6, hb6, hb16⟩; have z : EB 24 w6 w5.heap.size Eh.zero := EB.step (EB.drew (EB.new w5 24 Eh.zero)) hb6; have hzb : Below w5.heap.size w5 w6 := ((Below.refl w5.heap.size w5).alloc (Nat.le_refl _) _).drew.trans (hb6.mono (by simp)); have hzx : EOx w6 (w5.heap.size + 1) w6.heap.size (Xp.cln (L)) ⟨y0, y1, y2, y3, y4, y5⟩ := hx6.keep (by simp) (Nat.le_refl _) (fun _ _ _ _ => rfl); have P := Lib.hid (And.intro (putE_fin z hzx (Nat.le_refl _) (Nat.lt_succ_self _) hzb) (HeldG.set4 (B := w5.heap.size) (V0 := .int .i64 y0) (V1 := .int .i64 y1) (V2 := .string y2) (V3 := .slice y3 y4 y5) (by have := HS.out; have := HBL.out; omega) (by have := HS.out; have := HBL.out; omega) hq6)); have z0 := z.c0; have z1 := z.c1; have z2 := z.c2; have z3 := z.c3; have f0 := z.frozen 0; have f1 := z.frozen 1; have f2 := z.frozen 2; have f3 := z.frozen 3)
        | (go_at_call 43; (with_reducible refine (A6.out w5.drew (by assumption) (by first | exact (Below.refl _ _).drew | exact ((Below.refl _ _).drew).alloc (Nat.le_refl _) _ | exact ((Below.refl _ _).alloc (Nat.le_refl _) _).drew)).mono ?_); rintro e w6 ⟨y0, y1, y2, y3, y4, y5, rfl, hq6, hx6, hb6, hb16⟩; have P : Hid (EB 24 (w6.alloc (.cells #[.int .i64 y0, .int .i64 y1, .string y2, .slice y3 y4 y5] 24)) w6.heap.size ⟨y0, y1, y2, y3, y4, y5⟩ ∧ EOx (w6.alloc (.cells #[.int .i64 y0, .int .i64 y1, .string y2, .slice y3 y4 y5] 24)) w5.heap.size (w6.alloc (.cells #[.int .i64 y0, .int .i64 y1, .string y2, .slice y3 y4 y5] 24)).heap.size (Xp.cln (L)) ⟨y0, y1, y2, y3, y4, y5⟩ ∧ HeldG W.heap.size b o (.func (.func 39) #[] #[]) (.func (.func 40) #[] #[]) (.func (.func 41) #[] #[]) ⟨k, n, s, some ⟨b1, o1, none⟩, m, cap⟩ w5.heap.size (w6.alloc (.cells #[.int .i64 y0, .int .i64 y1, .string y2, .slice y3 y4 y5] 24)) ∧ Below w5.heap.size w5 (w6.alloc (.cells #[.int .i64 y0, .int .i64 y1, .string y2, .slice y3 y4 y5] 24)) ∧ w5.heap.size ≤ w6.heap.size) := Lib.hid ⟨EB.new w6 _ ⟨y0, y1, y2, y3, y4, y5⟩, hx6.step ((Below.refl _ _).alloc (Nat.le_refl _) _), hq6.alloc _, ((Below.refl w5.heap.size w5).drew.trans hb6).alloc hb6.size _, hb6.size⟩))
    all_goals
      clear hb6 hb16 hx6 hq6
      go_wp2_with fail
      go_meet
      case rel =>
        first
          | (with_reducible exact ⟨w6.heap.size, ⟨y0, y1, y2, y3, y4, y5⟩, rfl, P.out⟩)
          | exact ⟨w5.heap.size, ⟨y0, y1, y2, y3, y4, y5⟩, rfl, P.out.1.1, P.out.1.2.1, P.out.2, P.out.1.2.2, Nat.le_refl _⟩
  case rest =>
    obtain ⟨ba6, ⟨x0, x1, x2, x3, x4, x5⟩, rfl, hz6, hx6, hq6, hB6, hle6⟩ := hcut
    obtain ⟨wa, rfl⟩ : ∃ wa : World, wa = wc := ⟨_, rfl⟩
    have H6 := Lib.hid (And.intro hz6 (And.intro hx6 (And.intro hB6 hle6)))
    clear hz6 hx6 hB6 hle6 a1 a2 a3 a4 a5 a6 a7 a8
    obtain ⟨a1, a2, a3, a4, a5, a6, a7, a8⟩ := hq6
    dsimp only at a4 a5 a6 a7
    go_upto_region 7 with fail
    go_cut [6] from 54 to 60 (fun t wx => ∃ ba x, t = .pointer (some ⟨ba, 0, none⟩) ∧ EB 24 wx ba x ∧ EOx wx wa.heap.size wx.heap.size (Xp.cln (R)) x ∧ HeldG W.heap.size b o (.func (.func 39) #[] #[]) (.func (.func 40) #[] #[]) (.func (.func 41) #[] #[]) ⟨k, n, s, some ⟨b1, o1, none⟩, m, cap⟩ w5.heap.size wx ∧ Below wa.heap.size wa wx ∧ wa.heap.size ≤ ba)
    case first =>
      go_region_held3 (HeldG W.heap.size b o (.func (.func 39) #[] #[]) (.func (.func 40) #[] #[]) (.func (.func 41) #[] #[]) ⟨k, n, s, some ⟨b1, o1, none⟩, m, cap⟩ w5.heap.size)
        (first
          | (go_split_ands; refine ⟨?_, ?_, ?_, ?_, ?_, ?_, ?_, ?_⟩ <;> with_reducible assumption)
          | (go_split_ands; with_reducible exact HeldG.set4 (by have := HS.out; have := HBL.out; first | omega | (simp; omega)) (by have := HS.out; have := HBL.out; first | omega | (simp; omega)) ⟨‹_›, ‹_›, ‹_›, ‹_›, ‹_›, ‹_›, ‹_›, ‹_›⟩)
          | (go_split_ands; with_reducible exact HeldG.drew ⟨‹_›, ‹_›, ‹_›, ‹_›, ‹_›, ‹_›, ‹_›, ‹_›⟩)
          | (go_split_ands; with_reducible exact HeldG.alloc ⟨‹_›, ‹_›, ‹_›, ‹_›, ‹_›, ‹_›, ‹_›, ‹_›⟩ _)
          | (go_split_ands; with_reducible exact HeldG.drew (HeldG.alloc ⟨‹_›, ‹_›, ‹_›, ‹_›, ‹_›, ‹_›, ‹_›, ‹_›⟩ _)))
        (first
          | (go_at_call 43; (with_reducible refine (A7.out ((wa.alloc (.cells #[.int .i64 0, .int .i64 0, .string ⟨#[]⟩, .slice none 0 0] 24)).drew) (by assumption) (below_step H6.out.2.2.1 H6.out.2.2.1.size (by first | exact (Below.refl _ _).drew | exact ((Below.refl _ _).drew).alloc (Nat.le_refl _) _ | exact ((Below.refl _ _).alloc (Nat.le_refl _) _).drew))).mono ?_); rintro e w6 ⟨y0, y1, y2, y3, y4, y5, rfl, hq6, hx6, hb6, hb16⟩; have z : EB 24 w6 wa.heap.size Eh.zero := EB.step (EB.drew (EB.new wa 24 Eh.zero)) hb6; have hzb : Below wa.heap.size wa w6 := ((Below.refl wa.heap.size wa).alloc (Nat.le_refl _) _).drew.trans (hb6.mono (by simp)); have hzx : EOx w6 (wa.heap.size + 1) w6.heap.size (Xp.cln (R)) ⟨y0, y1, y2, y3, y4, y5⟩ := hx6.keep (by simp) (Nat.le_refl _) (fun _ _ _ _ => rfl); have P := Lib.hid (And.intro (putE_fin z hzx (Nat.le_refl _) (Nat.lt_succ_self _) hzb) (HeldG.set4 (B := wa.heap.size) (V0 := .int .i64 y0) (V1 := .int .i64 y1) (V2 := .string y2) (V3 := .slice y3 y4 y5) (by have := HS.out; have := HBL.out; have := H6.out.2.2.1.size; omega) (by have := HS.out; have := HBL.out; have := H6.out.2.2.1.size; omega) hq6)); have z0 := z.c0; have z1 := z.c1; have z2 := z.c2; have z3 := z.c3; have f0 := z.frozen 0; have f1 := z.frozen 1; have f2 := z.frozen 2; have f3 := z.frozen 3)
          | (go_at_call 43; (with_reducible refine (A7.out wa.drew (by assumption) (below_step H6.out.2.2.1 H6.out.2.2.1.size (by first | exact (Below.refl _ _).drew | exact ((Below.refl _ _).drew).alloc (Nat.le_refl _) _ | exact ((Below.refl _ _).alloc (Nat.le_refl _) _).drew))).mono ?_); rintro e w6 ⟨y0, y1, y2, y3, y4, y5, rfl, hq6, hx6, hb6, hb16⟩; have P : Hid (EB 24 (w6.alloc (.cells #[.int .i64 y0, .int .i64 y1, .string y2, .slice y3 y4 y5] 24)) w6.heap.size ⟨y0, y1, y2, y3, y4, y5⟩ ∧ EOx (w6.alloc (.cells #[.int .i64 y0, .int .i64 y1, .string y2, .slice y3 y4 y5] 24)) wa.heap.size (w6.alloc (.cells #[.int .i64 y0, .int .i64 y1, .string y2, .slice y3 y4 y5] 24)).heap.size (Xp.cln (R)) ⟨y0, y1, y2, y3, y4, y5⟩ ∧ HeldG W.heap.size b o (.func (.func 39) #[] #[]) (.func (.func 40) #[] #[]) (.func (.func 41) #[] #[]) ⟨k, n, s, some ⟨b1, o1, none⟩, m, cap⟩ w5.heap.size (w6.alloc (.cells #[.int .i64 y0, .int .i64 y1, .string y2, .slice y3 y4 y5] 24)) ∧ Below wa.heap.size wa (w6.alloc (.cells #[.int .i64 y0, .int .i64 y1, .string y2, .slice y3 y4 y5] 24)) ∧ wa.heap.size ≤ w6.heap.size) := Lib.hid ⟨EB.new w6 _ ⟨y0, y1, y2, y3, y4, y5⟩, hx6.step ((Below.refl _ _).alloc (Nat.le_refl _) _), hq6.alloc _, ((Below.refl wa.heap.size wa).drew.trans hb6).alloc hb6.size _, hb6.size⟩))
      all_goals
        clear hb6 hb16 hx6 hq6
        go_wp2_with fail
        go_meet
        case rel =>
          first
            | (with_reducible exact ⟨w6.heap.size, ⟨y0, y1, y2, y3, y4, y5⟩, rfl, P.out⟩)
            | exact ⟨wa.heap.size, ⟨y0, y1, y2, y3, y4, y5⟩, rfl, P.out.1.1, P.out.1.2.1, P.out.2, P.out.1.2.2, Nat.le_refl _⟩
    case rest =>
      obtain ⟨ba7, ⟨u0, u1, u2, u3, u4, u5⟩, rfl, hz7, hx7, hq7, hB7, hle7⟩ := hcut
      obtain ⟨wb, rfl⟩ : ∃ wb : World, wb = wc := ⟨_, rfl⟩
      have hza := H6.out.1.step hB7
      have hxa := H6.out.2.1.step hB7
      have hxb := hx7.keep H6.out.2.2.1.size (Nat.le_refl _) (fun _ _ _ _ => rfl)
      have hBb := below_step H6.out.2.2.1 H6.out.2.2.1.size hB7
      have hsa := H6.out.2.2.1.size
      have hle6 := H6.out.2.2.2
      have t2 := HT1.out.step hBb
      have hS := HS.out
      have hbl := HBL.out
      have hq : HeldH W.heap.size b o (.func (.func 39) #[] #[]) (.func (.func 40) #[] #[]) (.func (.func 41) #[] #[]) ⟨k, n, s, some ⟨b1, o1, none⟩, m, cap⟩ ba6 ba7 ⟨x0, x1, x2, x3, x4, x5⟩ ⟨u0, u1, u2, u3, u4, u5⟩ w5.heap.size wb := ⟨hq7.1, hq7.2.1, hq7.2.2.1, hq7.2.2.2.1, hq7.2.2.2.2.1, hq7.2.2.2.2.2.1, hq7.2.2.2.2.2.2.1, hza.c0, hza.c1, hza.c2, hza.c3, hz7.c0, hz7.c1, hz7.c2, hz7.c3, hq7.2.2.2.2.2.2.2⟩
      have hltb : ba6 < wb.heap.size ∧ ba7 < wb.heap.size ∧ W.heap.size < wb.heap.size ∧ b < wb.heap.size := ⟨hza.lt, hz7.lt, by have := hBb.size; omega, by have := hBb.size; omega⟩
      have G8 : Hid (∀ V, HeldH W.heap.size b o (.func (.func 39) #[] #[]) (.func (.func 40) #[] #[]) (.func (.func 41) #[] #[]) ⟨k, n, s, some ⟨b1, o1, none⟩, m, cap⟩ ba6 ba7 ⟨x0, x1, x2, x3, x4, x5⟩ ⟨u0, u1, u2, u3, u4, u5⟩ w5.heap.size V → Below wb.heap.size wb V → Calls Try.prog 41 #[.int .i64 k, .agg #[.int .i64 x0, .int .i64 x1, .string x2, .slice x3 x4 x5], .agg #[.int .i64 u0, .int .i64 u1, .string u2, .slice u3 u4 u5]] V fun e w' => ∃ y0 y1 y2 y3 y4 y5, e = .returned (.agg #[.int .i64 y0, .int .i64 y1, .string y2, .slice y3 y4 y5]) ∧ HeldH W.heap.size b o (.func (.func 39) #[] #[]) (.func (.func 40) #[] #[]) (.func (.func 41) #[] #[]) ⟨k, n, s, some ⟨b1, o1, none⟩, m, cap⟩ ba6 ba7 ⟨x0, x1, x2, x3, x4, x5⟩ ⟨u0, u1, u2, u3, u4, u5⟩ w5.heap.size w' ∧ EOx w' w5.heap.size w'.heap.size TT ⟨y0, y1, y2, y3, y4, y5⟩ ∧ Below wb.heap.size wb w') := Lib.hid fun V hV hBV => by
        refine (A8.out V w5.heap.size ⟨x0, x1, x2, x3, x4, x5⟩ ⟨u0, u1, u2, u3, u4, u5⟩ (by have := hBb.size; have := hBV.size; omega) (hxa.step hBV) (hxb.step hBV)).mono ?_
        rintro e w' ⟨⟨y0, y1, y2, y3, y4, y5⟩, rfl, h1, h2⟩
        exact ⟨_, _, _, _, _, _, rfl, hV.keepc (fun q i hq => h2.cell (p := ⟨q, i, none⟩) (by have := hBV.size; show q < _; rcases hq with rfl | rfl | rfl | rfl <;> omega)) h2.size, h1, below_step hBV hBV.size h2⟩
      have H8 := Lib.hid (And.intro t2 hBb)
      have HLE := Lib.hid (And.intro hle6 (And.intro hle7 hsa))
      clear hza hxa hxb hBb t2 hz7 hx7 hq7 hB7 hsa hle6 hle7 hS hbl hltb a1 a2 a3 a4 a5 a6 a7 a8
      obtain ⟨a1, a2, a3, a4, a5, a6, a7, b0, b1', b2, b3, c0, c1, c2, c3, a8⟩ := hq
      dsimp only at a4 a5 a6 a7 b0 b1' b2 b3 c0 c1 c2 c3
      go_wp2_with fail
      go_region_held3 (HeldH W.heap.size b o (.func (.func 39) #[] #[]) (.func (.func 40) #[] #[]) (.func (.func 41) #[] #[]) ⟨k, n, s, some ⟨b1, o1, none⟩, m, cap⟩ ba6 ba7 ⟨x0, x1, x2, x3, x4, x5⟩ ⟨u0, u1, u2, u3, u4, u5⟩ w5.heap.size)
        (first
          | (go_split_ands; refine ⟨?_, ?_, ?_, ?_, ?_, ?_, ?_, ?_, ?_, ?_, ?_, ?_, ?_, ?_, ?_, ?_⟩ <;> with_reducible assumption)
          | (go_split_ands; with_reducible exact HeldH.set4 (by have := HS.out; have := HBL.out; obtain ⟨g1, g2, g3⟩ := HLE.out; omega) ⟨‹_›, ‹_›, ‹_›, ‹_›, ‹_›, ‹_›, ‹_›, ‹_›, ‹_›, ‹_›, ‹_›, ‹_›, ‹_›, ‹_›, ‹_›, ‹_›⟩)
          | (go_split_ands; with_reducible exact HeldH.drew ⟨‹_›, ‹_›, ‹_›, ‹_›, ‹_›, ‹_›, ‹_›, ‹_›, ‹_›, ‹_›, ‹_›, ‹_›, ‹_›, ‹_›, ‹_›, ‹_›⟩))
        (first
          | (go_at_call 41; (with_reducible refine (G8.out wb.drew (by assumption) (Below.refl _ _).drew).mono ?_); rintro e w8 ⟨y0, y1, y2, y3, y4, y5, rfl, hq8, hx8, hb8⟩; have z := H8.out.1.step hb8; have z0 := z.c0; have z1 := z.c1; have z2 := z.c2; have z3 := z.c3; have f0 := z.frozen 0; have f1 := z.frozen 1; have f2 := z.frozen 2; have f3 := z.frozen 3))
      all_goals
        have P := Lib.hid (putE_fin (W := W) z hx8 (by omega) (by have := HS.out; omega) ((HB1.out.trans (H8.out.2.mono HB1.out.size)).trans (hb8.mono (Nat.le_trans HB1.out.size H8.out.2.size))))
        clear z z0 z1 z2 z3 f0 f1 f2 f3 hq8 hx8 hb8
        go_wp2_with fail
        refine bodyPost_ret (results_cell_row rfl _ _ (W.heap.size + 1) 24 _ (0, 0) _ rfl P.out.1 rfl rfl Try.infoEx) rfl ?_
        exact ⟨_, rfl, P.out.2⟩

theorem fra : ∀ T : Xp, Fra T
  | .num z => fra_num z
  | .nam z => fra_nam z
  | .op _ L R => fra_op (fra L) (fra R)
  | .nul => fra_nul
end Go.Proofs.Ytinbcdadffljhaa
