/-
  The law GraphCloses: graph.Closure and Core answer what the reference answers.
-/
import Derived.Test.YtgfbjlmpofbnnaaDoorGrBc
namespace Go.Proofs.YtgfbjlmpofbnnaaDoor
open Go.RowKit Go.Shelf
set_option maxRecDepth 100000

set_option maxHeartbeats 8000000 in
theorem closesLaw_any (A : Option Addr) (c : Nat) (N : Int) (es : List (Int × Int)) (w : World) (he : RdE w w.heap.size A es) (_hl : es.length ≤ 1048576) (hT : Tab w) :
    Calls Tryd.prog 5 #[.agg #[.int .i64 N, .slice A es.length c]] w fun e w' => e = .returned (.bool true) ∧ Below w.heap.size w w' := by
  have f1 := fun (W : World) (h : RdE W W.heap.size A es) (hT : Tab W) => closure_any A c N es W h hT
  have f2 := fun (W : World) (h : RdE W W.heap.size A es) => bclosure_any A c N es false W h
  have f3 := fun (W : World) (h : RdE W W.heap.size A es) (hT : Tab W) => core_any A c N es W h hT
  have f4 := fun (W : World) (h : RdE W W.heap.size A es) => bclosure_any A c N es true W h
  simp only [bcG_false] at f2
  simp only [bcG_true] at f4
  obtain ⟨nn, hn⟩ : ∃ nn, nn = nG N es := ⟨_, rfl⟩
  obtain ⟨C, hC⟩ : ∃ C, C = clsG N es := ⟨_, rfl⟩
  obtain ⟨K, hK⟩ : ∃ K, K = corG N es := ⟨_, rfl⟩
  obtain ⟨E, hE⟩ : ∃ E, E = errn N es := ⟨_, rfl⟩
  simp only [← hn, ← hC, ← hE] at f1 f2
  simp only [← hn, ← hK, ← hE] at f3 f4
  have F1 := Lib.hid f1
  have F2 := Lib.hid f2
  have F3 := Lib.hid f3
  have F4 := Lib.hid f4
  clear f1 f2 f3 f4 hn hC hK hE
  go_enter Tryd.func5, Tryd.ntmps5
  go_wp2_with fail
  have g1 := GB.new w 24 N (.slice A es.length c)
  have hB := below_alloc w (.cells #[.int .i64 N, .slice A es.length c] 24)
  obtain ⟨w1, hw1⟩ : ∃ w1, w1 = w.alloc (.cells #[.int .i64 N, .slice A es.length c] 24) := ⟨_, rfl⟩
  rw [← hw1] at g1 hB ⊢
  have hs := hB.size
  have r1 := he.step hB
  replace hT := hT.step hB
  clear hw1 he
  refine (F1.out _ r1 hT).mono ?_
  rintro e w3 ⟨A3, c3, rfl, r3, hb⟩
  replace g1 := g1.step hb
  replace r1 := r1.step hb
  replace hT := hT.step hb
  replace hB := below_step hB hs hb
  replace hs := hB.size
  clear hb
  have g3 := GB.new w3 24 nn (.slice A3 C.length c3)
  have hb := below_alloc w3 (.cells #[.int .i64 nn, .slice A3 C.length c3] 24)
  replace g1 := g1.step hb
  replace r1 := r1.step hb
  replace r3 := r3.step hb
  replace hT := hT.step hb
  replace hB := below_step hB hs hb
  replace hs := hB.size
  clear hb
  have n1 := g1.n
  have e1 := g1.e
  have n3 := g3.n
  have e3 := g3.e
  go_wp2_with fail
  refine (F2.out _ r1).mono ?_
  rintro e w4 ⟨A4, c4, rfl, r4, hb⟩
  clear n1 e1 n3 e3
  replace g1 := g1.step hb
  replace g3 := g3.step hb
  replace r1 := r1.step hb
  replace r3 := r3.step hb
  replace hT := hT.step hb
  replace hB := below_step hB hs hb
  replace hs := hB.size
  clear hb
  have g5 := GB.new w4 24 nn (.slice A4 C.length c4)
  have hb := below_alloc w4 (.cells #[.int .i64 nn, .slice A4 C.length c4] 24)
  replace g1 := g1.step hb
  replace g3 := g3.step hb
  replace r1 := r1.step hb
  replace r3 := r3.step hb
  replace r4 := r4.step hb
  replace hT := hT.step hb
  replace hB := below_step hB hs hb
  replace hs := hB.size
  clear hb
  have n1 := g1.n
  have e1 := g1.e
  have n3 := g3.n
  have e3 := g3.e
  have n5 := g5.n
  have e5 := g5.e
  go_wp2_with fail
  refine (F3.out _ r1 hT).mono ?_
  rintro e w5 ⟨A5, c5, rfl, r5, hb⟩
  clear n1 e1 n3 e3 n5 e5
  replace g1 := g1.step hb
  replace g3 := g3.step hb
  replace g5 := g5.step hb
  replace r1 := r1.step hb
  replace r3 := r3.step hb
  replace r4 := r4.step hb
  replace hT := hT.step hb
  replace hB := below_step hB hs hb
  replace hs := hB.size
  clear hb
  have g7 := GB.new w5 24 nn (.slice A5 K.length c5)
  have hb := below_alloc w5 (.cells #[.int .i64 nn, .slice A5 K.length c5] 24)
  replace g1 := g1.step hb
  replace g3 := g3.step hb
  replace g5 := g5.step hb
  replace r1 := r1.step hb
  replace r3 := r3.step hb
  replace r4 := r4.step hb
  replace r5 := r5.step hb
  replace hT := hT.step hb
  replace hB := below_step hB hs hb
  replace hs := hB.size
  clear hb
  have n1 := g1.n
  have e1 := g1.e
  have n3 := g3.n
  have e3 := g3.e
  have n5 := g5.n
  have e5 := g5.e
  have n7 := g7.n
  have e7 := g7.e
  go_wp2_with fail
  refine (F4.out _ r1).mono ?_
  rintro e w6 ⟨A6, c6, rfl, r6, hb⟩
  clear n1 e1 n3 e3 n5 e5 n7 e7
  replace g1 := g1.step hb
  replace g3 := g3.step hb
  replace g5 := g5.step hb
  replace g7 := g7.step hb
  replace r1 := r1.step hb
  replace r3 := r3.step hb
  replace r4 := r4.step hb
  replace r5 := r5.step hb
  replace hT := hT.step hb
  replace hB := below_step hB hs hb
  replace hs := hB.size
  clear hb
  have g9 := GB.new w6 24 nn (.slice A6 K.length c6)
  have hb := below_alloc w6 (.cells #[.int .i64 nn, .slice A6 K.length c6] 24)
  replace g1 := g1.step hb
  replace g3 := g3.step hb
  replace g5 := g5.step hb
  replace g7 := g7.step hb
  replace r1 := r1.step hb
  replace r3 := r3.step hb
  replace r4 := r4.step hb
  replace r5 := r5.step hb
  replace r6 := r6.step hb
  replace hT := hT.step hb
  replace hB := below_step hB hs hb
  replace hs := hB.size
  clear hb
  have n3 := g3.n
  have e3 := g3.e
  have n5 := g5.n
  have e5 := g5.e
  have n7 := g7.n
  have e7 := g7.e
  have n9 := g9.n
  have e9 := g9.e
  go_wp2_with fail
  refine (sameGraph_same A3 A4 c3 c4 nn C _ r3 r4).mono ?_
  rintro e w7 ⟨rfl, hb⟩
  clear n3 e3 n5 e5 n7 e7 n9 e9
  replace g3 := g3.step hb
  replace g5 := g5.step hb
  replace g7 := g7.step hb
  replace g9 := g9.step hb
  replace r5 := r5.step hb
  replace r6 := r6.step hb
  replace hT := hT.step hb
  replace hB := below_step hB hs hb
  replace hs := hB.size
  clear hb
  have n3 := g3.n
  have e3 := g3.e
  have n5 := g5.n
  have e5 := g5.e
  have n7 := g7.n
  have e7 := g7.e
  have n9 := g9.n
  have e9 := g9.e
  go_wp2_with fail
  refine (sameGraph_same A5 A6 c5 c6 nn K _ r5 r6).mono ?_
  rintro e w8 ⟨rfl, hb⟩
  replace hB := below_step hB hs hb
  go_wp2
  go_ret
  exact ⟨rfl, hB⟩
end Go.Proofs.YtgfbjlmpofbnnaaDoor
