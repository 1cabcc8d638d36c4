/-
  Contract of the program's Names, for every expression of at most 2^21 names.
-/
import Derived.Test.YtinbcdadffljhaaExFrN
namespace Go.Proofs.Ytinbcdadffljhaa
open Go.RowKit Go.Maps Go.WideMaps
set_option maxRecDepth 100000

set_option maxHeartbeats 4000000 in
theorem dnames (T : Xp) (h : Eh) (w : World) (hT : EIn w w.heap.size T h) (hl : T.nl ≤ 2097152) : Calls Try.prog 12 #[.agg h.cells] w (OutN w.heap.size T.names w) := by
  have hmm := @run_makeMap Try.prog
  have key : ∃ w1, w1 = w.alloc (.cells h.cells 24) ∧ Below w.heap.size w w1 ∧ EB 24 w1 w.heap.size h ∧ w1.heap.size = w.heap.size + 1 := ⟨_, rfl, (Below.refl _ _).alloc (Nat.le_refl _) _, EB.new _ _ _, by simp⟩
  obtain ⟨w1, hw1, hb1, t1, z1⟩ := key
  have hT1 := hT.step hb1
  have hb4 : Below w1.heap.size w1 (((w1.alloc (.cells #[.slice none 0 0] 29)).alloc (.map #[] 0)).alloc (.cells #[.map (some (w1.heap.size + 1))] 57)) := (((Below.refl _ _).alloc (Nat.le_refl _) _).alloc (by simp) _).alloc (by simp; omega) _
  obtain ⟨w4, hw4⟩ : ∃ w4, w4 = ((w1.alloc (.cells #[.slice none 0 0] 29)).alloc (.map #[] 0)).alloc (.cells #[.map (some (w1.heap.size + 1))] 57) := ⟨_, rfl⟩
  rw [← hw4] at hb4
  have e0 : w4.heap[w1.heap.size]? = some (.cells #[.slice none 0 0] 29 (0, 0)) := by
    rw [hw4]
    exact (((World.grownBy_alloc _ _ none).block _ (by simp; omega) (by simp)).trans ((World.grownBy_alloc _ _ none).block _ (by simp) (by simp))).trans (World.alloc_heap_new w1 _)
  have e1 : w4.ownsMap (H := Unit) Try.prog 9 unitElem (w1.heap.size + 1) 0 (.map []) := by
    rw [hw4]
    have := World.ownsMap_made (H := Unit) (w1.alloc (.cells #[.slice none 0 0] 29)) Try.prog 9 unitElem
    have h2 := this.alloc (.cells #[.map (some (w1.heap.size + 1))] 57)
    simpa using h2
  have e2 : w4.heap[w1.heap.size + 1 + 1]? = some (.cells #[.map (some (w1.heap.size + 1))] 57 (0, 0)) := by
    rw [hw4]
    have := World.alloc_heap_new ((w1.alloc (.cells #[.slice none 0 0] 29)).alloc (.map #[] 0)) (.cells #[.map (some (w1.heap.size + 1))] 57)
    simpa using this
  have z4 : w4.heap.size = w1.heap.size + 3 := by rw [hw4]; simp
  have hNS : NS w1.heap.size w1.heap.size (w1.heap.size + 1) (w1.heap.size + 1 + 1) [] (fun k => k = w1.heap.size ∨ k = w1.heap.size + 1 ∨ (Value.slice none 0 0).ownBlock = some k) w4 :=
    ⟨by omega, ⟨_, e0, World.ownsRow_nil _ _ _ _, fun _ => Iff.rfl⟩, e2, ⟨0, _, e1, Nat.le_refl _, NMap.start⟩⟩
  have hb5 : Below w4.heap.size w4 (w4.alloc (.cells #[.func (.func 34) #[] #[], .func (.func 35) #[] #[.pointer (some ⟨w1.heap.size + 1 + 1, 0, none⟩), .pointer (some ⟨w1.heap.size, 0, none⟩)], .func (.func 36) #[] #[]] 65)) := (Below.refl _ _).alloc (Nat.le_refl _) _
  have e5 := World.alloc_heap_new w4 (.cells #[.func (.func 34) #[] #[], .func (.func 35) #[] #[.pointer (some ⟨w1.heap.size + 1 + 1, 0, none⟩), .pointer (some ⟨w1.heap.size, 0, none⟩)], .func (.func 36) #[] #[]] 65)
  obtain ⟨w5, hw5⟩ : ∃ w5, w5 = w4.alloc (.cells #[.func (.func 34) #[] #[], .func (.func 35) #[] #[.pointer (some ⟨w1.heap.size + 1 + 1, 0, none⟩), .pointer (some ⟨w1.heap.size, 0, none⟩)], .func (.func 36) #[] #[]] 65) := ⟨_, rfl⟩
  rw [← hw5] at hb5 e5
  have d0 : w5.cell? ⟨w4.heap.size, 0, none⟩ = some (.func (.func 34) #[] #[]) := by simp only [World.cell?, e5]; rfl
  have d1 : w5.cell? ⟨w4.heap.size, 1, none⟩ = some (.func (.func 35) #[] #[.pointer (some ⟨w1.heap.size + 1 + 1, 0, none⟩), .pointer (some ⟨w1.heap.size, 0, none⟩)]) := by simp only [World.cell?, e5]; rfl
  have d2 : w5.cell? ⟨w4.heap.size, 2, none⟩ = some (.func (.func 36) #[] #[]) := by simp only [World.cell?, e5]; rfl
  have hb15 := below_step hb4 hb4.size hb5
  have hz15 := hb15.size
  have hF := frn T h w.heap.size 0 [] _ w5 (t1.step hb15).at (by omega) (hT1.below hb15 (Nat.le_refl _)) (by omega) (hNS.step hb5) (by simp; omega)
  rw [mrg_names] at hF
  have HF := Lib.hid hF
  have HB := Lib.hid (below_step hb1 hb1.size hb15)
  have HNS := Lib.hid (hNS.step hb5)
  have HW := Lib.hid hw1
  have HW4 := Lib.hid hw4
  have HW5 := Lib.hid hw5
  have HZ := Lib.hid z1
  obtain ⟨k, n, s, A', m, cap⟩ := h
  clear hF hNS hb4 hb5 e0 e1 e2 e5 hw1 hw4 hw5 hb1 hb15 t1 hT hT1 hl z1
  clear z4
  go_enter Try.func12, Try.ntmps12
  go_upto_region 1 with fail
  rw [show w.alloc _ = w1 from HW.out.symm]
  go_upto_region 3 with fail
  rw [← HW4.out]
  go_upto_region 4 with fail
  rw [← HW5.out]
  go_wp2_with fail
  refine HF.out.mono ?_
  rintro e w6 ⟨rfl, O', h6, k6⟩
  obtain ⟨v, hbx, ho, _⟩ := h6.box
  have hfin : Below w.heap.size w w6 := HB.out.trans (k6.keeps.below (by have := HB.out.size; omega) fun k hk hO => by
    have := HNS.out.low' hO
    have := HZ.out
    omega)
  have hown : w6.ownsRow w.heap.size 9 1 v T.names.length (nVals T.names) := own_moreR ho (by have := HZ.out; omega)
  have c0 : w6.cell? ⟨w1.heap.size, 0, none⟩ = some v := by simp only [World.cell?, hbx]; rfl
  obtain ⟨A8, c8, rfl⟩ := own_any hown
  have HF := Lib.hid (And.intro hown hfin)
  clear hown hfin hbx ho h6 k6
  go_wp2_with fail
  go_ret
  exact ⟨_, rfl, HF.out⟩
end Go.Proofs.Ytinbcdadffljhaa
