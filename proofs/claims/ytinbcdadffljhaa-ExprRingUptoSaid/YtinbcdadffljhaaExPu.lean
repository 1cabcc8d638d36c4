/-
  The closure of the program's Put that meets a name: another expression in its place.
-/
import Derived.Test.YtinbcdadffljhaaExFrA
import Derived.Laws.EntriesVeiled
namespace Go.Proofs.Ytinbcdadffljhaa
open Go.RowKit Go.Shelf
set_option maxRecDepth 100000

/-- what Put's closure reads: the name, the plain maker, what is put in its place -/
structure PI (nb pb bb : Nat) (name : ByteArray) (Y : Xp) (g : Eh) (W : World) : Prop where
  n0 : W.cell? ⟨nb, 0, none⟩ = some (.string name)
  p0 : W.cell? ⟨pb, 0, none⟩ = some (.func (.func 39) #[] #[])
  p1 : W.cell? ⟨pb, 1, none⟩ = some (.func (.func 40) #[] #[])
  p2 : W.cell? ⟨pb, 2, none⟩ = some (.func (.func 41) #[] #[])
  by' : EhAt W bb 0 g
  inn : EIn W W.heap.size Y g
theorem PI.step {nb pb bb : Nat} {name : ByteArray} {Y : Xp} {g : Eh} {W W' : World} (h : PI nb pb bb name Y g W) (hb : Below W.heap.size W W') : PI nb pb bb name Y g W' := by
  have c : ∀ {q i : Nat} {v : Value}, W.cell? ⟨q, i, none⟩ = some v → W'.cell? ⟨q, i, none⟩ = some v := fun {q i v} hq => (hb.cell (p := ⟨q, i, none⟩) (World.block_lt_of_cell? _ _ hq)).trans hq
  exact ⟨c h.n0, c h.p0, c h.p1, c h.p2, ⟨c h.by'.h0, c h.by'.h1, c h.by'.h2, c h.by'.h3⟩, h.inn.step hb⟩

set_option maxHeartbeats 4000000 in
theorem put1_any {nb pb bb : Nat} {name : ByteArray} {Y : Xp} {g : Eh} (s : ByteArray) (V : World) (hsz : s.size ≤ maxLen) (hI : PI nb pb bb name Y g V) :
    Calls Try.prog 42 #[.string s, .pointer (some ⟨nb, 0, none⟩), .pointer (some ⟨pb, 0, none⟩), .pointer (some ⟨bb, 0, none⟩)] V (OutE (Xp.put name Y (.nam s)) V) := by
  have key : ∃ w1, w1 = V.alloc (.cells Eh.zero.cells 24) ∧ Below V.heap.size V w1 ∧ EB 24 w1 V.heap.size Eh.zero ∧ w1.heap.size = V.heap.size + 1 := ⟨_, rfl, (Below.refl _ _).alloc (Nat.le_refl _) _, EB.new _ _ _, by simp⟩
  obtain ⟨w1, hw1, hb1, t1, z1⟩ := key
  have HW : Hid (w1 = V.alloc (.cells #[.int .i64 0, .int .i64 0, .string ⟨#[]⟩, .slice none 0 0] 24)) := hw1
  have i1 := hI.step hb1
  have n0 := i1.n0
  have p0 := i1.p0
  have p1 := i1.p1
  have p2 := i1.p2
  have HB := Lib.hid hb1
  have HT := Lib.hid t1
  have HZ := Lib.hid z1
  by_cases hn : s = name
  · subst hn
    have hR : Xp.put s Y (.nam s) = Y.cln := if_pos rfl
    have A0 := Lib.hid (fra Y g bb 0 w1 i1.by' (World.block_lt_of_cell? _ _ i1.by'.h0) i1.inn)
    rw [hR]
    clear hI hw1 hb1 t1 z1 hR i1 hsz
    go_enter Try.func42, Try.ntmps42
    go_upto_region 1 with fail
    rw [← HW.out]
    go_wp2_with fail
    refine A0.out.mono ?_
    rintro e w5 ⟨⟨y0, y1, y2, y3, y4, y5⟩, rfl, hx5, hb5⟩
    have z := HT.out.step hb5
    have z0 := z.c0; have z1 := z.c1; have z2 := z.c2; have z3 := z.c3; have f0 := z.frozen 0; have f1 := z.frozen 1; have f2 := z.frozen 2; have f3 := z.frozen 3
    have P := Lib.hid (putE_fin (W := V) z hx5 (Nat.le_refl _) (by have := HZ.out; omega) (HB.out.trans (hb5.mono HB.out.size)))
    clear z hx5 hb5
    dsimp only [Eh.cells]
    go_wp2_with fail
    refine bodyPost_ret (results_cell_row rfl _ _ V.heap.size 24 _ (0, 0) _ rfl P.out.1 rfl rfl Try.infoEx) rfl ?_
    exact ⟨_, rfl, P.out.2⟩
  · have hR : Xp.put name Y (.nam s) = .nam s := if_neg hn
    have A0 := Lib.hid (pnam_any s hsz w1)
    have hn1 := str_no hn
    rw [hR]
    clear hI hw1 hb1 t1 z1 hR i1 hsz hn
    go_enter Try.func42, Try.ntmps42
    go_upto_region 1 with fail
    rw [← HW.out]
    go_wp2_with fail
    refine A0.out.mono ?_
    rintro e w5 ⟨⟨y0, y1, y2, y3, y4, y5⟩, rfl, hx5, hb5⟩
    have z := HT.out.step hb5
    have z0 := z.c0; have z1 := z.c1; have z2 := z.c2; have z3 := z.c3; have f0 := z.frozen 0; have f1 := z.frozen 1; have f2 := z.frozen 2; have f3 := z.frozen 3
    have P := Lib.hid (putE_fin (W := V) z hx5 (Nat.le_refl _) (by have := HZ.out; omega) (HB.out.trans (hb5.mono HB.out.size)))
    clear z hx5 hb5
    dsimp only [Eh.cells]
    go_wp2_with fail
    refine bodyPost_ret (results_cell_row rfl _ _ V.heap.size 24 _ (0, 0) _ rfl P.out.1 rfl rfl Try.infoEx) rfl ?_
    exact ⟨_, rfl, P.out.2⟩
end Go.Proofs.Ytinbcdadffljhaa
