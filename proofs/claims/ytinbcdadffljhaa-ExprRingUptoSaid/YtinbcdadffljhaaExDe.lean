/-
  Contract of the program's Eval, for every expression and every slice of at most 2^20 + 1 bindings.
-/
import Derived.Test.YtinbcdadffljhaaExVa
import Derived.Laws.EntriesVeiled
namespace Go.Proofs.Ytinbcdadffljhaa
open Go.RowKit Go.Maps Go.WideMaps
set_option maxRecDepth 100000

set_option maxHeartbeats 4000000 in
theorem values_any (A : Option Addr) (c : Nat) (env : List (ByteArray × Int)) (w : World) (he : RdB w w.heap.size A env) (hc : env.length ≤ c) :
    Calls Try.prog 29 #[.slice A env.length c] w fun e w' => ∃ D g p, e = .returned (.func (.func 47) #[] #[.pointer (some ⟨p, 0, none⟩), .pointer (some ⟨D, 0, none⟩)]) ∧ VI w.heap.size D g p A env env.length w' ∧ Below w.heap.size w w' := by
  have hmm := @run_makeMap Try.prog
  obtain ⟨w3, hw3⟩ : ∃ w3, w3 = ((w.alloc (.cells #[.slice A env.length c] 25)).alloc (.map #[] 0)).alloc (.cells #[.map (some (w.heap.size + 1))] 72) := ⟨_, rfl⟩
  have hb : Below w.heap.size w w3 := by
    rw [hw3]
    exact (((Below.refl _ _).alloc (Nat.le_refl _) _).alloc (by simp) _).alloc (by simp; omega) _
  have e0 : w3.heap[w.heap.size]? = some (.cells #[.slice A env.length c] 25 (0, 0)) := by
    rw [hw3]
    refine (((World.grownBy_alloc _ _ none).block _ (by simp; omega) (by simp)).trans ((World.grownBy_alloc _ _ none).block _ (by simp) (by simp))).trans (World.alloc_heap_new w _)
  have e1 : w3.ownsMap (H := Unit) Try.prog 9 (plainElem Try.prog 3) (w.heap.size + 1) 0 (.map []) := by
    rw [hw3]
    have := World.ownsMap_made (H := Unit) (w.alloc (.cells #[.slice A env.length c] 25)) Try.prog 9 (plainElem Try.prog 3)
    have h2 := this.alloc (.cells #[.map (some (w.heap.size + 1))] 72)
    simpa using h2
  have e2 : w3.heap[w.heap.size + 1 + 1]? = some (.cells #[.map (some (w.heap.size + 1))] 72 (0, 0)) := by
    rw [hw3]
    have := World.alloc_heap_new ((w.alloc (.cells #[.slice A env.length c] 25)).alloc (.map #[] 0)) (.cells #[.map (some (w.heap.size + 1))] 72)
    simpa using this
  have hV : VI w.heap.size w.heap.size (w.heap.size + 1) (w.heap.size + 1 + 1) A env env.length w3 :=
    ⟨Nat.le_refl _, by omega, ⟨c, hc, e0⟩, e2, ⟨0, _, e1, by omega, by rw [List.drop_length]; exact VMap.start⟩, he.below hb⟩
  have HV := Lib.hid (And.intro hV hb)
  have HW := Lib.hid hw3
  clear hw3 hb e0 e1 e2 hV he
  go_enter Try.func29, Try.ntmps29
  go_upto_region 2 with fail
  rw [← HW.out]
  go_wp2_with fail
  go_ret
  exact ⟨_, _, _, rfl, HV.out.1, HV.out.2⟩

set_option maxHeartbeats 4000000 in
theorem deval (T : Xp) (h : Eh) (A : Option Addr) (c : Nat) (env : List (ByteArray × Int)) (w : World) (hT : EIn w w.heap.size T h) (he : RdB w w.heap.size A env) (hl : env.length ≤ 1048577) (hc : env.length ≤ c) :
    Calls Try.prog 9 #[.agg h.cells, .slice A env.length c] w fun e w' => e = .returned (.int .i64 (T.ev env)) ∧ Below w.heap.size w w' := by
  have key : ∃ w1, w1 = w.alloc (.cells h.cells 24) ∧ Below w.heap.size w w1 ∧ EB 24 w1 w.heap.size h ∧ w1.heap.size = w.heap.size + 1 := ⟨_, rfl, (Below.refl _ _).alloc (Nat.le_refl _) _, EB.new _ _ _, by simp⟩
  obtain ⟨w1, hw1, hb1, t1, z1⟩ := key
  have h1 := values_any A c env w1 (he.step hb1) hc
  have hint := he.int
  have hT1 := hT.step hb1
  have HW := Lib.hid hw1
  have HC : Hid (h.cells = h.cells) := Lib.hid rfl
  obtain ⟨k, n, s, A', m, cap⟩ := h
  obtain ⟨V, hV⟩ : ∃ V, V = T.ev env := ⟨_, rfl⟩
  have HV := Lib.hid hV
  rw [← hV]
  clear hw1 hT he hV
  go_enter Try.func9, Try.ntmps9
  go_upto_region 1 with fail
  rw [show w.alloc _ = w1 from HW.out.symm]
  go_wp2_with fail
  refine h1.mono ?_
  rintro e w2 ⟨D, g, p, rfl, hVI, hb2⟩
  have hlow := hVI.low
  have hI := VI.inv w1.heap.size D g p A env ⟨hlow.1, hlow.2.1⟩
  have hb3 : Below w2.heap.size w2 (w2.alloc (.cells #[.func (.func 28) #[] #[], .func (.func 47) #[] #[.pointer (some ⟨p, 0, none⟩), .pointer (some ⟨D, 0, none⟩)], .func (.func 30) #[] #[]] 53)) := (Below.refl _ _).alloc (Nat.le_refl _) _
  have e3 := World.alloc_heap_new w2 (.cells #[.func (.func 28) #[] #[], .func (.func 47) #[] #[.pointer (some ⟨p, 0, none⟩), .pointer (some ⟨D, 0, none⟩)], .func (.func 30) #[] #[]] 53)
  obtain ⟨w3, hw3⟩ : ∃ w3, w3 = w2.alloc (.cells #[.func (.func 28) #[] #[], .func (.func 47) #[] #[.pointer (some ⟨p, 0, none⟩), .pointer (some ⟨D, 0, none⟩)], .func (.func 30) #[] #[]] 53) := ⟨_, rfl⟩
  rw [← hw3] at hb3 e3
  have d0 : w3.cell? ⟨w2.heap.size, 0, none⟩ = some (.func (.func 28) #[] #[]) := by simp only [World.cell?, e3]; rfl
  have d1 : w3.cell? ⟨w2.heap.size, 1, none⟩ = some (.func (.func 47) #[] #[.pointer (some ⟨p, 0, none⟩), .pointer (some ⟨D, 0, none⟩)]) := by simp only [World.cell?, e3]; rfl
  have d2 : w3.cell? ⟨w2.heap.size, 2, none⟩ = some (.func (.func 30) #[] #[]) := by simp only [World.cell?, e3]; rfl
  have hb13 := below_step hb2 hb2.size hb3
  have hz13 := hb13.size
  have hF := fri (p1 := .pointer (some ⟨p, 0, none⟩)) (p2 := .pointer (some ⟨D, 0, none⟩)) hI env (fun s W hs hW => vals_any hl s W hs hW) (fun T hT => T.ev_in hint hT) T ⟨k, n, s, A', m, cap⟩ w.heap.size 0 w3 (t1.step hb13).at (by omega) (hT1.below hb13 (Nat.le_refl _)) (by omega) ⟨_, hVI.step hb3⟩
  have HF := Lib.hid hF
  have HB := Lib.hid (below_step hb1 hb1.size hb13)
  have HI := Lib.hid hI
  have HW3 := Lib.hid hw3
  clear hF h1 hVI hb2 hb3 e3 hw3 hlow hI hb1 hb13 t1 hT1 hint
  go_wp2_with fail
  go_upto_region 2 with fail
  rw [← HW3.out]
  go_wp2_with fail
  refine HF.out.mono ?_
  rintro e w4 ⟨rfl, _, h4⟩
  go_wp2_with fail
  go_ret
  refine ⟨ret_n HV.out.symm, HB.out.trans ((h4.below (n := w.heap.size) (by omega) fun k hk hO => ?_))⟩
  have := HI.out.low k hO
  omega
end Go.Proofs.Ytinbcdadffljhaa
