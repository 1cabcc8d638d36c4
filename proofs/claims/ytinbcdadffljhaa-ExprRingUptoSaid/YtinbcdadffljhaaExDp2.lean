/-
  Contracts of the program's Put and Fold, for every expression.
-/
import Derived.Test.YtinbcdadffljhaaExFrB
import Derived.Test.YtinbcdadffljhaaExFrC
namespace Go.Proofs.Ytinbcdadffljhaa
open Go.RowKit Go.Shelf
set_option maxRecDepth 100000

set_option maxHeartbeats 4000000 in
theorem dfold (T : Xp) (h : Eh) (w : World) (hT : EIn w w.heap.size T h) (_ : T.nl ≤ 2097152) : Calls Try.prog 17 #[.agg h.cells] w (OutE T.fold w) := by
  have key : ∃ w1, w1 = (w.alloc (.cells h.cells 24)).alloc (.cells Eh.zero.cells 24) ∧ Below w.heap.size w w1 ∧ EB 24 w1 w.heap.size h ∧ EB 24 w1 (w.heap.size + 1) Eh.zero ∧ w1.heap.size = w.heap.size + 2 := by
    refine ⟨_, rfl, ((Below.refl _ _).alloc (Nat.le_refl _) _).alloc (by simp) _, (EB.new w _ h).alloc _, ?_, by simp⟩
    have := EB.new (w.alloc (.cells h.cells 24)) 24 Eh.zero
    simpa using this
  obtain ⟨w1, hw1, hb1, t1, u1, z1⟩ := key
  have HW : Hid (w1 = (w.alloc (.cells h.cells 24)).alloc (.cells #[.int .i64 0, .int .i64 0, .string ⟨#[]⟩, .slice none 0 0] 24)) := hw1
  have hT1 := hT.step hb1
  have hb2 : Below w1.heap.size w1 (w1.alloc (.cells #[.func (.func 39) #[] #[], .func (.func 40) #[] #[], .func (.func 45) #[] #[]] 69)) := (Below.refl _ _).alloc (Nat.le_refl _) _
  have e2 := World.alloc_heap_new w1 (.cells #[.func (.func 39) #[] #[], .func (.func 40) #[] #[], .func (.func 45) #[] #[]] 69)
  obtain ⟨w2, hw2⟩ : ∃ w2, w2 = w1.alloc (.cells #[.func (.func 39) #[] #[], .func (.func 40) #[] #[], .func (.func 45) #[] #[]] 69) := ⟨_, rfl⟩
  rw [← hw2] at hb2 e2
  have d0 : w2.cell? ⟨w1.heap.size, 0, none⟩ = some (.func (.func 39) #[] #[]) := by simp only [World.cell?, e2]; rfl
  have d1 : w2.cell? ⟨w1.heap.size, 1, none⟩ = some (.func (.func 40) #[] #[]) := by simp only [World.cell?, e2]; rfl
  have d2 : w2.cell? ⟨w1.heap.size, 2, none⟩ = some (.func (.func 45) #[] #[]) := by simp only [World.cell?, e2]; rfl
  have hF := frc T h w.heap.size 0 w2 (t1.step hb2).at (by have := hb2.size; omega) (hT1.step hb2)
  have HF := Lib.hid hF
  have HB := Lib.hid (below_step hb1 hb1.size hb2)
  have HU := Lib.hid (u1.step hb2)
  have HZ := Lib.hid z1
  have HS2 := Lib.hid hb2.size
  have HW2 := Lib.hid hw2
  obtain ⟨k, n, s, A', m, cap⟩ := h
  clear hF hw1 hb1 t1 u1 z1 hT hT1 hb2 e2 hw2
  go_enter Try.func17, Try.ntmps17
  go_upto_region 1 with fail
  rw [← HW.out]
  go_upto_region 2 with fail
  rw [← HW2.out]
  go_wp2_with fail
  refine HF.out.mono ?_
  rintro e w5 ⟨⟨y0, y1, y2, y3, y4, y5⟩, rfl, hx5, hb5⟩
  have z := HU.out.step hb5
  have z0 := z.c0; have z1 := z.c1; have z2 := z.c2; have z3 := z.c3; have f0 := z.frozen 0; have f1 := z.frozen 1; have f2 := z.frozen 2; have f3 := z.frozen 3
  have P := Lib.hid (putE_fin (W := w) z hx5 (by omega) (by have := HZ.out; have := HS2.out; omega) (HB.out.trans (hb5.mono HB.out.size)))
  clear z hx5 hb5
  dsimp only [Eh.cells]
  go_wp2_with fail
  refine bodyPost_ret (results_cell_row rfl _ _ (w.heap.size + 1) 24 _ (0, 0) _ rfl P.out.1 rfl rfl Try.infoEx) rfl ?_
  exact ⟨_, rfl, P.out.2⟩
set_option maxHeartbeats 4000000 in
theorem dput (T : Xp) (h : Eh) (name : ByteArray) (Y : Xp) (g : Eh) (w : World) (hT : EIn w w.heap.size T h) (hY : EIn w w.heap.size Y g) : Calls Try.prog 15 #[.agg h.cells, .string name, .agg g.cells] w (OutE (Xp.put name Y T) w) := by
  have key : ∃ w1, w1 = (((w.alloc (.cells h.cells 24)).alloc (.cells #[.string name] 9)).alloc (.cells g.cells 24)).alloc (.cells Eh.zero.cells 24) ∧ Below w.heap.size w w1 ∧ EB 24 w1 w.heap.size h ∧ w1.cell? ⟨w.heap.size + 1, 0, none⟩ = some (.string name) ∧ EB 24 w1 (w.heap.size + 1 + 1) g ∧ EB 24 w1 (w.heap.size + 1 + 1 + 1) Eh.zero ∧ w1.heap.size = w.heap.size + 4 := by
    refine ⟨_, rfl, ((((Below.refl _ _).alloc (Nat.le_refl _) _).alloc (by simp) _).alloc (by simp; omega) _).alloc (by simp; omega) _, (((EB.new w _ h).alloc _).alloc _).alloc _, ?_, ?_, ?_, by simp⟩
    · have h1 : ((w.alloc (.cells h.cells 24)).alloc (.cells #[.string name] 9)).cell? ⟨w.heap.size + 1, 0, none⟩ = some (.string name) := by
        have e := World.alloc_heap_new (w.alloc (.cells h.cells 24)) (.cells #[.string name] 9)
        rw [show (w.alloc (.cells h.cells 24)).heap.size = w.heap.size + 1 by simp] at e
        simp only [World.cell?, e]
        rfl
      have h2 := (World.cell?_alloc_some _ _ (.cells g.cells 24) (by rw [h1]; rfl)).trans h1
      exact (World.cell?_alloc_some _ _ _ (by rw [h2]; rfl)).trans h2
    · have := (EB.new ((w.alloc (.cells h.cells 24)).alloc (.cells #[.string name] 9)) 24 g).alloc (.cells Eh.zero.cells 24)
      simpa using this
    · have := EB.new (((w.alloc (.cells h.cells 24)).alloc (.cells #[.string name] 9)).alloc (.cells g.cells 24)) 24 Eh.zero
      simpa using this
  obtain ⟨w1, hw1, hb1, t1, n1, g1, u1, z1⟩ := key
  have HW : Hid (w1 = (((w.alloc (.cells h.cells 24)).alloc (.cells #[.string name] 9)).alloc (.cells g.cells 24)).alloc (.cells #[.int .i64 0, .int .i64 0, .string ⟨#[]⟩, .slice none 0 0] 24)) := hw1
  have hT1 := hT.step hb1
  have hY1 := hY.step hb1
  -- the plain maker, and a copy of it
  have hb2 : Below w1.heap.size w1 (w1.alloc (.cells #[.func (.func 39) #[] #[], .func (.func 40) #[] #[], .func (.func 41) #[] #[]] 69)) := (Below.refl _ _).alloc (Nat.le_refl _) _
  have e2 := World.alloc_heap_new w1 (.cells #[.func (.func 39) #[] #[], .func (.func 40) #[] #[], .func (.func 41) #[] #[]] 69)
  have s2 : (w1.alloc (.cells #[.func (.func 39) #[] #[], .func (.func 40) #[] #[], .func (.func 41) #[] #[]] 69)).heap.size = w1.heap.size + 1 := by simp
  obtain ⟨w2, hw2⟩ : ∃ w2, w2 = w1.alloc (.cells #[.func (.func 39) #[] #[], .func (.func 40) #[] #[], .func (.func 41) #[] #[]] 69) := ⟨_, rfl⟩
  rw [← hw2] at hb2 e2 s2
  have p0 : w2.cell? ⟨w1.heap.size, 0, none⟩ = some (.func (.func 39) #[] #[]) := by simp only [World.cell?, e2]; rfl
  have p1 : w2.cell? ⟨w1.heap.size, 1, none⟩ = some (.func (.func 40) #[] #[]) := by simp only [World.cell?, e2]; rfl
  have p2 : w2.cell? ⟨w1.heap.size, 2, none⟩ = some (.func (.func 41) #[] #[]) := by simp only [World.cell?, e2]; rfl
  have hb3 : Below w2.heap.size w2 (w2.alloc (.cells #[.func (.func 39) #[] #[], .func (.func 40) #[] #[], .func (.func 41) #[] #[]] 69)) := (Below.refl _ _).alloc (Nat.le_refl _) _
  have e3 := World.alloc_heap_new w2 (.cells #[.func (.func 39) #[] #[], .func (.func 40) #[] #[], .func (.func 41) #[] #[]] 69)
  have s3 : (w2.alloc (.cells #[.func (.func 39) #[] #[], .func (.func 40) #[] #[], .func (.func 41) #[] #[]] 69)).heap.size = w2.heap.size + 1 := by simp
  obtain ⟨w3, hw3⟩ : ∃ w3, w3 = w2.alloc (.cells #[.func (.func 39) #[] #[], .func (.func 40) #[] #[], .func (.func 41) #[] #[]] 69) := ⟨_, rfl⟩
  rw [← hw3] at hb3 e3 s3
  have q1 : w3.cell? ⟨w2.heap.size, 1, none⟩ = some (.func (.func 40) #[] #[]) := by simp only [World.cell?, e3]; rfl
  have qf : w3.frozen? ⟨w2.heap.size, 1, none⟩ = false := by simp [World.frozen?, e3]
  have e4 := heap_set_inE (i := 1) e3 (.func (.func 42) #[] #[.pointer (some ⟨w.heap.size + 1, 0, none⟩), .pointer (some ⟨w1.heap.size, 0, none⟩), .pointer (some ⟨w.heap.size + 1 + 1, 0, none⟩)])
  have hb4 : Below w2.heap.size w2 (w3.setCell ⟨w2.heap.size, 1, none⟩ (.func (.func 42) #[] #[.pointer (some ⟨w.heap.size + 1, 0, none⟩), .pointer (some ⟨w1.heap.size, 0, none⟩), .pointer (some ⟨w.heap.size + 1 + 1, 0, none⟩)])) := hb3.setCell (p := ⟨w2.heap.size, 1, none⟩) (Nat.le_refl _) _
  have s4 : (w3.setCell ⟨w2.heap.size, 1, none⟩ (.func (.func 42) #[] #[.pointer (some ⟨w.heap.size + 1, 0, none⟩), .pointer (some ⟨w1.heap.size, 0, none⟩), .pointer (some ⟨w.heap.size + 1 + 1, 0, none⟩)])).heap.size = w3.heap.size := by simp [World.setCell]
  obtain ⟨w4, hw4⟩ : ∃ w4, w4 = w3.setCell ⟨w2.heap.size, 1, none⟩ (.func (.func 42) #[] #[.pointer (some ⟨w.heap.size + 1, 0, none⟩), .pointer (some ⟨w1.heap.size, 0, none⟩), .pointer (some ⟨w.heap.size + 1 + 1, 0, none⟩)]) := ⟨_, rfl⟩
  rw [← hw4] at hb4 e4 s4
  have d0 : w4.cell? ⟨w2.heap.size, 0, none⟩ = some (.func (.func 39) #[] #[]) := by simp only [World.cell?, e4]; rfl
  have d1 : w4.cell? ⟨w2.heap.size, 1, none⟩ = some (.func (.func 42) #[] #[.pointer (some ⟨w.heap.size + 1, 0, none⟩), .pointer (some ⟨w1.heap.size, 0, none⟩), .pointer (some ⟨w.heap.size + 1 + 1, 0, none⟩)]) := by simp only [World.cell?, e4]; rfl
  have d2 : w4.cell? ⟨w2.heap.size, 2, none⟩ = some (.func (.func 41) #[] #[]) := by simp only [World.cell?, e4]; rfl
  have hb24 := below_step hb2 hb2.size hb4
  have c : ∀ {q i : Nat} {v : Value}, w2.cell? ⟨q, i, none⟩ = some v → w4.cell? ⟨q, i, none⟩ = some v := fun {q i v} hq => (hb4.cell (p := ⟨q, i, none⟩) (World.block_lt_of_cell? _ _ hq)).trans hq
  have hPI : PI (w.heap.size + 1) w1.heap.size (w.heap.size + 1 + 1) name Y g w4 :=
    ⟨(hb24.cell (p := ⟨w.heap.size + 1, 0, none⟩) (by show w.heap.size + 1 < _; omega)).trans n1, c p0, c p1, c p2, (g1.step hb24).at, hY1.step hb24⟩
  have hF := frb (nb := w.heap.size + 1) (pb := w1.heap.size) (bb := w.heap.size + 1 + 1) (name := name) (Y := Y) (g := g) T h w.heap.size 0 w4 (t1.step hb24).at (by omega) (hT1.step hb24) hPI
  have HF := Lib.hid hF
  have HB := Lib.hid (below_step hb1 hb1.size hb24)
  have HU := Lib.hid (u1.step hb24)
  have HZ := Lib.hid z1
  have HS2 := Lib.hid hb24.size
  have HW2 := Lib.hid hw2
  have HW3 := Lib.hid hw3
  have HW4 := Lib.hid hw4
  obtain ⟨k, n, s, A', m, cap⟩ := h
  obtain ⟨gk, gn, gs, gA, gm, gc⟩ := g
  clear hF hw1 hb1 t1 u1 n1 g1 z1 hT hT1 hY hY1 hb2 e2 s2 hw2 hb3 e3 s3 hw3 e4 hb4 s4 hw4 hb24 c hPI
  go_enter Try.func15, Try.ntmps15
  go_upto_region 1 with fail
  rw [← HW.out]
  go_upto_region 2 with fail
  rw [← HW2.out]
  go_upto_region 3 with fail
  rw [← HW3.out]
  go_upto_region 4 with fail
  rw [← HW4.out]
  go_wp2_with fail
  refine HF.out.mono ?_
  rintro e w5 ⟨⟨y0, y1, y2, y3, y4, y5⟩, rfl, hx5, hb5⟩
  have z := HU.out.step hb5
  have z0 := z.c0; have z1 := z.c1; have z2 := z.c2; have z3 := z.c3; have f0 := z.frozen 0; have f1 := z.frozen 1; have f2 := z.frozen 2; have f3 := z.frozen 3
  have P := Lib.hid (putE_fin (W := w) z hx5 (by omega) (by have := HZ.out; have := HS2.out; omega) (HB.out.trans (hb5.mono HB.out.size)))
  clear z hx5 hb5
  dsimp only [Eh.cells]
  go_wp2_with fail
  refine bodyPost_ret (results_cell_row rfl _ _ (w.heap.size + 1 + 1 + 1) 24 _ (0, 0) _ rfl P.out.1 rfl rfl Try.infoEx) rfl ?_
  exact ⟨_, rfl, P.out.2⟩
end Go.Proofs.Ytinbcdadffljhaa
