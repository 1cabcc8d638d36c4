/-
  Contracts of the laws' num, nam and both: a number, a name, an operation on two, new in memory.
-/
import Derived.Test.YtinbcdadffljhaaExX
namespace Go.Proofs.Ytinbcdadffljhaa
open Go.RowKit Go.Shelf
set_option maxRecDepth 100000

set_option maxHeartbeats 1000000 in
theorem num_any (n : Int) (w : World) (hn : inI n) : Calls Try.prog 22 #[.int .i64 n] w (OutE (.num n) w) := by
  have key : ∃ w1, w1 = w.alloc (.cells Eh.zero.cells 24) ∧ Below w.heap.size w w1 ∧ EB 24 w1 w.heap.size Eh.zero := ⟨_, rfl, (Below.refl _ _).alloc (Nat.le_refl _) _, EB.new _ _ _⟩
  obtain ⟨w1, hw1, hb1, t1⟩ := key
  have HW : Hid (w1 = w.alloc (.cells #[.int .i64 0, .int .i64 0, .string ⟨#[]⟩, .slice none 0 0] 24)) := hw1
  have P := Lib.hid (And.intro (t1.put (h' := ⟨1, n, ByteArray.empty, none, 0, 0⟩)) (below_putE hb1 (Nat.le_refl w.heap.size) ⟨1, n, ByteArray.empty, none, 0, 0⟩))
  clear hw1
  go_enter Try.func22, Try.ntmps22
  go_upto_region 1 with fail
  rw [← HW.out]
  have z0 := t1.c0
  have z1 := t1.c1
  have z2 := t1.c2
  have z3 := t1.c3
  have f0 := t1.frozen 0
  have f1 := t1.frozen 1
  have f2 := t1.frozen 2
  have f3 := t1.frozen 3
  clear t1 hb1
  go_wp2_with fail
  refine bodyPost_ret (results_cell_row rfl _ _ w.heap.size 24 _ (0, 0) _ rfl P.out.1 rfl rfl Try.infoEx) rfl ?_
  exact ⟨_, rfl, ⟨rfl, rfl, hn, rfl, rfl⟩, P.out.2⟩
set_option maxHeartbeats 1000000 in
theorem nam_any (s : ByteArray) (hs : s.size ≤ maxLen) (w : World) : Calls Try.prog 23 #[.string s] w (OutE (.nam s) w) := by
  have key : ∃ w1, w1 = w.alloc (.cells Eh.zero.cells 24) ∧ Below w.heap.size w w1 ∧ EB 24 w1 w.heap.size Eh.zero := ⟨_, rfl, (Below.refl _ _).alloc (Nat.le_refl _) _, EB.new _ _ _⟩
  obtain ⟨w1, hw1, hb1, t1⟩ := key
  have HSL := Lib.hid hs
  clear hs
  have HW : Hid (w1 = w.alloc (.cells #[.int .i64 0, .int .i64 0, .string ⟨#[]⟩, .slice none 0 0] 24)) := hw1
  have P := Lib.hid (And.intro (t1.put (h' := ⟨2, 0, s, none, 0, 0⟩)) (below_putE hb1 (Nat.le_refl w.heap.size) ⟨2, 0, s, none, 0, 0⟩))
  clear hw1
  go_enter Try.func23, Try.ntmps23
  go_upto_region 1 with fail
  rw [← HW.out]
  have z0 := t1.c0
  have z1 := t1.c1
  have z2 := t1.c2
  have z3 := t1.c3
  have f0 := t1.frozen 0
  have f1 := t1.frozen 1
  have f2 := t1.frozen 2
  have f3 := t1.frozen 3
  clear t1 hb1
  go_wp2_with fail
  refine bodyPost_ret (results_cell_row rfl _ _ w.heap.size 24 _ (0, 0) _ rfl P.out.1 rfl rfl Try.infoEx) rfl ?_
  exact ⟨_, rfl, ⟨rfl, rfl, rfl, rfl, HSL.out⟩, P.out.2⟩
set_option maxHeartbeats 4000000 in
theorem bothX_any (k : Int) (hk : 3 ≤ k ∧ k ≤ 9) (L R : Xp) (h g : Eh) (w : World) (hL : EIn w w.heap.size L h) (hR : EIn w w.heap.size R g) : Calls Try.prog 26 #[.int .i64 k, .agg h.cells, .agg g.cells] w fun e w' => ∃ h', e = .returned (.agg h'.cells) ∧ EIn w' w'.heap.size (.op k L R) h' ∧ Below w.heap.size w w' := by
  have key : ∃ w1, w1 = ((w.alloc (.cells h.cells 24)).alloc (.cells g.cells 24)).alloc (.cells Eh.zero.cells 24) ∧ Below w.heap.size w w1 ∧ EB 24 w1 w.heap.size h ∧ EB 24 w1 (w.heap.size + 1) g ∧ EB 24 w1 (w.heap.size + 1 + 1) Eh.zero := by
    refine ⟨_, rfl, (((Below.refl _ _).alloc (Nat.le_refl _) _).alloc (by simp) _).alloc (by simp; omega) _, ((EB.new w _ h).alloc _).alloc _, ?_, ?_⟩
    · have := (EB.new (w.alloc (.cells h.cells 24)) 24 g).alloc (.cells Eh.zero.cells 24)
      simpa using this
    · have := EB.new ((w.alloc (.cells h.cells 24)).alloc (.cells g.cells 24)) 24 Eh.zero
      simpa using this
  obtain ⟨w1, hw1, hb1, t1, u1, z1⟩ := key
  have HW : Hid (w1 = ((w.alloc (.cells h.cells 24)).alloc (.cells g.cells 24)).alloc (.cells #[.int .i64 0, .int .i64 0, .string ⟨#[]⟩, .slice none 0 0] 24)) := hw1
  have hlz := z1.lt
  have hb2 := hb1.alloc hb1.size (.cells (h.cells ++ g.cells) 24)
  have hz2 := z1.alloc (.cells (h.cells ++ g.cells) 24)
  obtain ⟨n1, n2⟩ := two_new w1 24 h g
  have hnf : (w1.alloc (.cells (h.cells ++ g.cells) 24)).heap.size = w1.heap.size + 1 := by simp
  obtain ⟨w2, hw2⟩ : ∃ w2, w2 = w1.alloc (.cells (h.cells ++ g.cells) 24) := ⟨_, rfl⟩
  rw [← hw2] at hb2 hz2 n1 n2 hnf
  have HW2 := Lib.hid hw2
  have X2 := Lib.hid (And.intro hb2 (And.intro n1 n2))
  have P := Lib.hid (And.intro (hz2.put (h' := ⟨k, 0, ByteArray.empty, some ⟨w1.heap.size, 0, none⟩, 2, 2⟩)) (below_putE hb2 (show w.heap.size ≤ w.heap.size + 1 + 1 by omega) ⟨k, 0, ByteArray.empty, some ⟨w1.heap.size, 0, none⟩, 2, 2⟩))
  have hfin : EIn (putEh w2 (w.heap.size + 1 + 1) ⟨k, 0, ByteArray.empty, some ⟨w1.heap.size, 0, none⟩, 2, 2⟩) (putEh w2 (w.heap.size + 1 + 1) ⟨k, 0, ByteArray.empty, some ⟨w1.heap.size, 0, none⟩, 2, 2⟩).heap.size (.op k L R) ⟨k, 0, ByteArray.empty, some ⟨w1.heap.size, 0, none⟩, 2, 2⟩ := by
    have hp := P.out.2
    have hsz : (putEh w2 (w.heap.size + 1 + 1) ⟨k, 0, ByteArray.empty, some ⟨w1.heap.size, 0, none⟩, 2, 2⟩).heap.size = w1.heap.size + 1 := by unfold putEh; simp [World.setCell]; exact hnf
    refine ⟨rfl, hk.1, hk.2, Nat.le_refl 2, w1.heap.size, 0, h, g, rfl, by omega, n1.keep fun x => put_cell (by omega), n2.keep fun x => put_cell (by omega), hL.step hp, hR.step hp⟩
  have XF := Lib.hid hfin
  clear hfin hw1 hw2 n1 n2 hb2 hb1 hnf hL hR
  obtain ⟨kl, nl, sl, Al, ml, cl⟩ := h
  obtain ⟨kr, nr, sr, Ar, mr, cr⟩ := g
  go_enter Try.func26, Try.ntmps26
  go_upto_region 1 with fail
  rw [← HW.out]
  have c0 := t1.c0
  have c1 := t1.c1
  have c2 := t1.c2
  have c3 := t1.c3
  have d0 := u1.c0
  have d1 := u1.c1
  have d2 := u1.c2
  have d3 := u1.c3
  dsimp only at c0 c1 c2 c3 d0 d1 d2 d3
  have z0 := hz2.c0
  have z1' := hz2.c1
  have z2 := hz2.c2
  have z3 := hz2.c3
  have f0 := hz2.frozen 0
  have f1 := hz2.frozen 1
  have f2 := hz2.frozen 2
  have f3 := hz2.frozen 3
  have hw3 : w1.alloc (.cells #[.int .i64 kl, .int .i64 nl, .string sl, .slice Al ml cl, .int .i64 kr, .int .i64 nr, .string sr, .slice Ar mr cr] 24) = w2 := HW2.out.symm
  clear t1 u1 z1 hz2 HW2
  go_wp2_with fail
  refine bodyPost_ret (results_cell_row rfl _ _ (w.heap.size + 1 + 1) 24 _ (0, 0) _ rfl P.out.1 rfl rfl Try.infoEx) rfl ?_
  exact ⟨_, rfl, XF.out, P.out.2⟩
end Go.Proofs.Ytinbcdadffljhaa
