/-
  The laws' own example, alive5, is alive.
-/
import Derived.Test.YtidgibkiacbgfaaSnL
import Derived.Test.YtidgibkiacbgfaaSnW
namespace Go.Proofs.Ytidgibkiacbgfaa
open Go.RowKit
set_option maxRecDepth 100000

theorem T4_sn : T4.sn = 2 := by decide
theorem T4_wd : T4.wd = 2 := by decide

set_option maxHeartbeats 4000000 in
theorem alive5_any (w : World) :
    Calls Try.prog 12 #[] w fun e w' => e = .returned (.bool true) ∧ Below w.heap.size w w' := by
  have HL := Lib.hid (fun n w => leafK_any n w)
  go_enter Try.func12, Try.ntmps12
  go_wp2_with (first
    | (go_at_call_of 18 (Value.int IntKind.i64 1); refine (HL.out _ _).mono ?_; rintro e w1 ⟨rfl, hb1⟩)
    | (go_at_call_of 18 (Value.int IntKind.i64 2); refine (HL.out _ _).mono ?_; rintro e w2 ⟨rfl, hb2⟩)
    | (go_at_call_of 18 (Value.int IntKind.i64 3); refine (HL.out _ _).mono ?_; rintro e w3 ⟨rfl, hb3⟩)
    | fail)
  obtain ⟨W, hW, hTi, hTb, hbW⟩ := T4_in w2 w3 hb3
  dsimp only [two5, hPar, hTop, h1', h2', h3', Hd.cells] at hW
  rw [← hW]
  have hb : Below w.heap.size w W := hb1.trans ((hb2.trans (hbW.mono hb2.size)).mono hb1.size)
  clear hb3 hW hbW hb1 hb2 HL
  have hs := T4_sz
  have t0 := hTb.c0
  have t1 := hTb.c1
  have t2 := hTb.c2
  have t3 := hTb.c3
  have t4 := hTb.c4
  refine (work_any T4 _ _ hTi (by rw [hs]; omega)).mono ?_
  rintro e w4 ⟨rfl, hb4⟩
  rw [hs]
  replace hTi := (hTi.below hb4 (Nat.le_refl _)).more hb4.size
  replace hTb : TB 26 _ _ _ := (hb4.block _ hTb.lt).trans hTb
  replace hb := hb.trans (hb4.mono hb.size)
  clear t0 t1 t2 t3 t4 hb4
  have t0 := hTb.c0
  have t1 := hTb.c1
  have t2 := hTb.c2
  have t3 := hTb.c3
  have t4 := hTb.c4
  dsimp only [hTop] at t0 t1 t2 t3 t4
  go_wp2_with fail
  refine (span_any T4 _ _ hTi (by rw [hs]; omega)).mono ?_
  rintro e w5 ⟨rfl, hb5⟩
  rw [T4_sn]
  replace hTi := (hTi.below hb5 (Nat.le_refl _)).more hb5.size
  replace hTb : TB 26 _ _ _ := (hb5.block _ hTb.lt).trans hTb
  replace hb := hb.trans (hb5.mono hb.size)
  clear t0 t1 t2 t3 t4 hb5
  have t0 := hTb.c0
  have t1 := hTb.c1
  have t2 := hTb.c2
  have t3 := hTb.c3
  have t4 := hTb.c4
  dsimp only [hTop] at t0 t1 t2 t3 t4
  go_wp2_with fail
  refine (width_any T4 _ _ hTi (by rw [hs]; omega)).mono ?_
  rintro e w6 ⟨rfl, hb6⟩
  rw [T4_wd]
  replace hb := hb.trans (hb6.mono hb.size)
  go_wp2_with fail
  go_ret
  exact ⟨rfl, hb⟩
end Go.Proofs.Ytidgibkiacbgfaa
