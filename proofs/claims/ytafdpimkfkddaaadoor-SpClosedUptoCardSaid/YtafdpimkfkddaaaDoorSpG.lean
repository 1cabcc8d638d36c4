/-
  Contract of sp.Graph.
-/
import Derived.Test.YtafdpimkfkddaaaDoorSpLi
import Derived.Test.YtafdpimkfkddaaaDoorSpEd
namespace Go.Proofs.YtafdpimkfkddaaaDoor
open Go.RowKit
set_option maxRecDepth 100000

theorem results_gr {fn : Func} {p u : Tmp} (h : fn.results = #[.cell p 29, .tmp u]) (tmps : Array Value) (w : World) (g : Nat) (x : Int) (v : Value)
    (hp : tmps.getD p undef = .pointer (some ⟨g, 0, none⟩)) (hg : GrB w g x v) :
    (results fn tmps).run Tryd.prog w = .ok (.tuple #[.agg #[.int .i64 x, v], tmps.getD u undef]) w := by
  have hp' : tmps[p]?.getD undef = .pointer (some ⟨g, 0, none⟩) := by simpa using hp
  have hi : (Tryd.prog.info? 29).map (·.size) = some (#[Value.int .i64 x, v] : Array Value).size := by kernel_rfl
  simp [results, h, hp', asAddr, run_loadVar_row w g 29 29 #[.int .i64 x, v] (0, 0) _ hg Tryd.underlying29 rfl hi]

set_option maxHeartbeats 1000000 in
theorem graph_many (T : Tm) (h : Hd) (w : World) (hT : TIn w w.heap.size T h) (hs : T.sz ≤ 1048576) (hbig : 200 < T.sz) :
    Calls Tryd.prog 6 #[.agg h.cells] w fun e w' => e = .returned (.tuple #[.agg #[.int .i64 0, .slice none 0 0], .int .i64 2]) ∧ Below w.heap.size w w' := by
  have key : ∃ w1, w1 = (((w.alloc (.cells h.cells 26)).alloc (.cells #[.int .i64 0, .slice none 0 0] 29)).alloc (.cells #[] 50)) ∧ Below w.heap.size w w1 ∧ TB 26 w1 w.heap.size h ∧ GrB w1 (w.heap.size + 1) 0 (.slice none 0 0) ∧ LimI (w.heap.size + 1 + 1) w1 := by
    refine ⟨_, rfl, (((Below.refl _ _).alloc (Nat.le_refl _) _).alloc (by simp) _).alloc (by simp; omega) _, ((TB.new _ _ _).alloc _).alloc _, ?_, ?_⟩
    · have : GrB ((w.alloc (.cells h.cells 26)).alloc (.cells #[.int .i64 0, .slice none 0 0] 29)) (w.heap.size + 1) 0 (.slice none 0 0) := by
        have := World.alloc_heap_new (w.alloc (.cells h.cells 26)) (.cells #[.int .i64 0, .slice none 0 0] 29)
        rw [World.size_alloc] at this
        exact this
      exact this.alloc _
    · have := World.alloc_heap_new ((w.alloc (.cells h.cells 26)).alloc (.cells #[.int .i64 0, .slice none 0 0] 29)) (.cells #[] 50)
      rw [World.size_alloc, World.size_alloc] at this
      exact this
  obtain ⟨w1, hw1, hb1, ht1, hg1, hI1⟩ := key
  have hT1 : TIn w1 (w.heap.size + 1 + 1) T h := (hT.below hb1 (Nat.le_refl _)).more (by omega)
  have hc := read_any (limR (w.heap.size + 1 + 1)) T w1 w.heap.size 0 h () 0 ht1.at (by omega) hT1 hI1 (by omega)
  rw [(told_lim T 0 (by omega)).2 (by omega)] at hc
  dsimp only at hc
  have HC : Hid (Calls Tryd.prog 15 #[.pointer (some ⟨w.heap.size, 0, none⟩), .int .i64 0, .iface 46 (.pointer (some ⟨w.heap.size + 1 + 1, 0, none⟩))] w1 _) := Lib.hid hc
  obtain ⟨k, c, x, l, A, m, cap⟩ := h
  dsimp only [Hd.cells] at hw1 ⊢
  have hlt : w.heap.size + 1 < w.heap.size + 1 + 1 := by omega
  have HG := Lib.hid hg1
  clear hc hT1 hT ht1 hI1 hg1
  go_enter Tryd.func6, Tryd.ntmps6
  go_wp2_with (first
    | (rw [← hw1]; refine HC.out.mono ?_; rintro e w2 ⟨rfl, _, hb2⟩; have hg2 : GrB w2 (w.heap.size + 1) 0 (.slice none 0 0) := (hb2.block _ hlt).trans HG.out; have g0 := hg2.n; have g1 := hg2.e; have gf := hg2.frozen)
    | fail)
  have hg3 := (hg2.set0 0).set (.slice none 0 0)
  refine bodyPost_ret (results_gr rfl _ _ (w.heap.size + 1) _ _ rfl hg3) rfl ⟨rfl, ?_⟩
  exact (((hb1.trans (hb2.mono (by omega))).setCell (p := ⟨w.heap.size + 1, 0, none⟩) (by dsimp only; omega) _).setCell (p := ⟨w.heap.size + 1, 1, none⟩) (by dsimp only; omega) _)
end Go.Proofs.YtafdpimkfkddaaaDoor
