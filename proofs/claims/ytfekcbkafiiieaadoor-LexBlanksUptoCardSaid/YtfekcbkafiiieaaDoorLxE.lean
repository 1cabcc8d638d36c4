/-
  slices.Equal of tokens that are the same.
-/
import Derived.Test.YtfekcbkafiiieaaDoorLxI
import Derived.Test.YtfekcbkafiiieaaDoorBsEqI
import Derived.Laws.StructEq
import Derived.BigQuiet
namespace Go.Proofs.YtfekcbkafiiieaaDoor
open Go.RowKit
set_option maxRecDepth 100000

theorem tk_fs : Tryd.prog.underlying 28 = some (.struct (Tryd.prog.fieldsOf 28)) := by kernel_rfl
theorem tk_held : Tryd.prog.stoodInHeld 28 = false := by kernel_rfl
theorem tk_gd : Tryd.prog.eqGuardType Tryd.prog.depth 28 = false := by kernel_rfl
theorem tk_same (K P : Int) (S : ByteArray) (W : World) : (binOp .neq 28 (.agg #[.int .i64 K, .int .i64 P, .string S]) (.agg #[.int .i64 K, .int .i64 P, .string S])).run Tryd.prog W = .ok (.bool false) W := by
  rw [run_neq_struct, run_equalIn_agg W _ _ _ _ tk_fs tk_held]
  unfold Program.fieldsOf
  rw [Tryd.underlying28]
  simp only [Op.eqFields]
  go_simp
set_option maxHeartbeats 1000000 in
theorem equalT_same (A A' : Option Addr) (c c' : Nat) (ts : List RTk) (w : World) (hx : RdT w w.heap.size A ts) (hy : RdT w w.heap.size A' ts) (hl : ts.length ≤ 1073741824) :
    Calls Tryd.prog 10 #[.slice A ts.length c, .slice A' ts.length c'] w fun e w' => e = .returned (.bool true) ∧ Below w.heap.size w w' := by
  have hl2 : ((ts.length : Int) != (ts.length : Int)) = false := by simp
  go_enter Tryd.func10, Tryd.ntmps10
  go_wp2
  go_loopw [13] (fun i wr => ∃ k n : Nat, k ≤ ts.length ∧ i = .int .i64 k ∧ wr = w.drewN n) (fun i _ => ts.length - (intOf i).toNat)
  case atStart => exact ⟨0, 0, Nat.zero_le _, rfl, rfl⟩
  case round =>
    obtain ⟨k, n, hk, rfl, rfl⟩ := hrel
    by_cases hlt : k < ts.length
    · obtain ⟨b, off, rfl, _, hc⟩ := hx.rd (by omega)
      obtain ⟨b', off', rfl, _, hc'⟩ := hy.rd (by omega)
      obtain ⟨a0, a1, a2⟩ := hc k hlt
      obtain ⟨d0, d1, d2⟩ := hc' k hlt
      obtain ⟨⟨K, P, S⟩, hT⟩ : ∃ T, T = rtk ts k := ⟨_, rfl⟩
      rw [← hT] at a0 a1 a2 d0 d1 d2
      dsimp only at a0 a1 a2 d0 d1 d2
      have hq := fun W => tk_same K P S W
      clear hc hc' hT
      go_wp2
      go_quiet (fail)
      go_wp2
      go_roundw
      case rel => exact ⟨k + 1, _, by omega, by go_num, rfl⟩
      case measure => simp [intOf]; omega
    · go_wp2
      go_ret
      exact ⟨rfl, below_drewN' (Below.refl _ _) n⟩
end Go.Proofs.YtfekcbkafiiieaaDoor
