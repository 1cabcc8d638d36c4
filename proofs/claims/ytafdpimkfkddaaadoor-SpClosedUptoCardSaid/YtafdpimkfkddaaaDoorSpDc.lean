/-
  Contract of the reference's dchoose.
-/
import Derived.Test.YtafdpimkfkddaaaDoorSpMg
import Derived.Deep.RegionHeld3
namespace Go.Proofs.YtafdpimkfkddaaaDoor
open Go.RowKit
set_option maxRecDepth 100000

theorem tz_call2 (y : Nat) (w : World) (h0 : 0 < y) (hy : y < 2097152) (hT : Tab w) :
    Calls Tryd.prog 29 #[.int .u64 (y : Int)] w fun e w' => e = .returned (.int .i64 (tz y : Int)) ∧ w = w' := tz_any y w (by omega) (by omega) hT
theorem shr_od (y : Nat) (h0 : 0 < y) (hy : y < 2097152) : (y : Int) / 2 ^ min (tz y) 64 = ((od y : Nat) : Int) := by
  have h := tz_spec y h0 (by omega)
  rw [Nat.min_eq_left (by omega)]
  unfold od
  simp
theorem od_lt (y : Nat) (hy : y < 2097152) : od y < 2097152 := Nat.lt_of_le_of_lt (Nat.div_le_self _ _) hy

theorem hM64 : (18446744073709551616 : Int) = ((18446744073709551616 : Nat) : Int) := rfl

theorem dchoose_fin {A B C e u : Nat} (h : A * 2 ^ e = B * C) (hv : B * u % 18446744073709551616 = 1 % 18446744073709551616) :
    Ending.returned (.int .u64 (IntKind.u64.wrap (((A * u % 18446744073709551616 : Nat) : Int) * 2 ^ min e 64))) = .returned (.int .u64 ((C % 18446744073709551616 : Nat) : Int)) := by
  have h2 : ∀ k : Nat, (2 : Int) ^ k = ((2 ^ k : Nat) : Int) := fun k => by simp
  rw [u64_wrap, hM64, h2, ← Int.natCast_mul, ← Int.natCast_emod, pow_min, mod_fin h hv]

set_option maxHeartbeats 1000000 in
theorem dchoose_any (n m : Nat) (w : World) (hl : n + m ≤ 1048576) (hT : Tab w) :
    Calls Tryd.prog 21 #[.int .i64 n, .int .i64 m] w fun e w' => e = .returned (.int .u64 ((ch n m % 18446744073709551616 : Nat) : Int)) ∧ Below w.heap.size w w' := by
  have HT := Lib.hid hT
  have HW := Lib.hid (Below.refl w.heap.size w)
  clear hT
  go_enter Tryd.func21, Tryd.ntmps21
  go_wp2_with fail
  go_loopw [5, 6, 7] (fun ou tw i wr => ∃ t z : Nat, t ≤ m ∧ i = .int .i64 ((t + 1 : Nat) : Int) ∧ ou = .int .u64 (z : Int) ∧ tw = .int .i64 ((suA n t - suA 0 t : Nat) : Int) ∧ Hid (∃ u : Nat, prA 0 t * u % 18446744073709551616 = 1 % 18446744073709551616 ∧ z = prA n t * u % 18446744073709551616) ∧ Hid (Below w.heap.size w wr)) (fun _ _ i _ => m + 1 - (intOf i).toNat)
  case atStart => exact ⟨0, 1, Nat.zero_le _, rfl, rfl, rfl, Lib.hid ⟨1, rfl, rfl⟩, HW⟩
  case round =>
    obtain ⟨t, z, ht, rfl, rfl, rfl, hu, hbr⟩ := hrel
    obtain ⟨q, hq⟩ : ∃ q, q = t + 1 := ⟨_, rfl⟩
    rw [← hq]
    by_cases hlt : q ≤ m
    · have n1 : (q : Int) ≤ (m : Int) := by omega
      have c1 : IntKind.i64.wrap ((n : Int) + (q : Int)) = ((n + q : Nat) : Int) := by rw [IntKind.wrap_i64]; omega
      have c2 : IntKind.u64.wrap ((n + q : Nat) : Int) = ((n + q : Nat) : Int) := by rw [u64_wrap]; omega
      have c3 : IntKind.u64.wrap (q : Int) = (q : Int) := by rw [u64_wrap]; omega
      obtain ⟨a, ha⟩ : ∃ a, a = n + q := ⟨_, rfl⟩
      have HAQ := Lib.hid ha
      have ha1 : a < 2097152 := by omega
      have ha0 : 0 < a := by omega
      rw [← ha] at c1 c2
      clear ha
      have c4 := shr_od a ha0 ha1
      have c5 := shr_od q (by omega) (by omega)
      have hod : od q % 2 = 1 := (tz_spec q (by omega) (by omega)).2.1
      have hol : od q < 18446744073709551616 := by have := od_lt q (by omega); omega
      have HI := Lib.hid (fun w' => rinv_any (od q) w' hod hol)
      have HA := Lib.hid (fun w' (h : Tab w') => tz_call2 a w' ha0 ha1 h)
      have HB := Lib.hid (fun w' (h : Tab w') => tz_call2 q w' (by omega) (by omega) h)
      have HTW2 := Lib.hid (HT.out.step hbr.out)
      have htz1 : (0 : Int) ≤ (tz a : Int) := by omega
      have htz2 : (0 : Int) ≤ (tz q : Int) := by omega
      obtain ⟨tw, htw⟩ : ∃ tw, tw = suA n t - suA 0 t := ⟨_, rfl⟩
      rw [← htw]
      have HTW := Lib.hid htw
      have HQ := Lib.hid hq
      clear htw hq hod hol
      go_wp2_with (first
        | (go_at_call 29; (first | (with_reducible refine (HA.out _ HTW2.out).mono ?_; rintro e w' ⟨rfl, rfl⟩) | (with_reducible refine (HB.out _ HTW2.out).mono ?_; rintro e w' ⟨rfl, rfl⟩)))
        | fail)
      go_region_held3 (fun W => Below w.heap.size w W)
        (first | assumption | exact hbr.out | exact hbr.out.drew)
        (first
          | (go_at_call 30; refine (HI.out _).mono ?_; rintro e w' ⟨⟨v, rfl, hv0, hv1, hv2⟩, rfl⟩)
          | fail)
      have hbd : Below w.heap.size w wr.drew := hbr.out.drew
      have HBD := Lib.hid hbd
      clear hbd
      go_wp2_with fail
      go_roundw
      case rel =>
        have hq := HQ.out
        have haq := HAQ.out
        obtain ⟨vn, rfl⟩ : ∃ vn : Nat, v = (vn : Int) := ⟨v.toNat, by omega⟩
        obtain ⟨u, hu1, hu2⟩ := hu.out
        refine ⟨q, z * od a % 18446744073709551616 * vn % 18446744073709551616, hlt, by first | rfl | (congr 1), ?_, ?_, Lib.hid ⟨u * vn, ?_, ?_⟩, HBD⟩
        · rw [u64_wrap, u64_wrap, hM64, ← Int.natCast_mul, ← Int.natCast_emod, ← Int.natCast_mul, ← Int.natCast_emod]
        · rw [HTW.out, haq, hq]
          exact tw_step _ _ (by omega)
        · rw [hM64, ← Int.natCast_mul, ← Int.natCast_emod] at hv2
          have hv3 : od q * vn % 18446744073709551616 = 1 := by omega
          rw [hq, prA, Nat.zero_add, ← hq, Nat.mul_assoc (prA 0 t), Nat.mul_left_comm (od q), ← Nat.mul_assoc (prA 0 t), Nat.mul_mod, hu1, hv3]
        · rw [hu2, hq, prA, show n + t + 1 = a by omega, Nat.mod_mul_mod, Nat.mul_assoc (prA n t * u % 18446744073709551616), Nat.mod_mul_mod, Nat.mul_mul_mul_comm]
      case measure => simp [intOf]; omega
    · obtain rfl : t = m := by omega
      have htn : (0 : Int) ≤ ((suA n t - suA 0 t : Nat) : Int) := by omega
      go_wp2_with fail
      go_ret
      refine ⟨?_, hbr.out⟩
      obtain ⟨u, hu1, hu2⟩ := hu.out
      rw [hu2]
      exact dchoose_fin (pr_fin n t (by omega)) hu1
end Go.Proofs.YtafdpimkfkddaaaDoor
