/-
  math/bits.TrailingZeros64 answers the place of the lowest one, for every word, where the library's table holds its own numbers.
  Contracts of the two inverse functions: the number that gives 1 modulo 2^64.
  Contracts of sp.merges and of the reference's dchoose.
  Contract of the reference's dchoose.
-/
import Derived.Test.YtidgibkiacbgfaaDoorPk04
import Derived.Shelf.Spec.TrailingZeros
import Derived.Test.YtidgibkiacbgfaaDoorPk03
import Derived.Test.YtidgibkiacbgfaaDoorPk01
import Derived.Deep.RegionHeld3
namespace Go.Proofs.YtidgibkiacbgfaaDoor
open Go.RowKit
set_option maxRecDepth 100000

/-- the library's table lies in its variable -/
def Tab (w : World) : Prop := ∀ j, j < 64 → w.cell? ⟨0, j, none⟩ = some (.int .u8 (Lib.deBruijn64tab.getD j 0))
theorem Tab.pos {w : World} (h : Tab w) : 0 < w.heap.size := by
  have h0 := h 0 (by omega)
  rcases Nat.lt_or_ge 0 w.heap.size with hlt | hge
  · exact hlt
  · simp [World.cell?, Array.getElem?_eq_none hge] at h0
theorem Tab.below {w w' : World} {B : Nat} (h : Tab w) (hB : 0 < B) (hb : Below B w w') : Tab w' := fun j hj => (hb.cell (p := ⟨0, j, none⟩) hB).trans (h j hj)
theorem Tab.step {w w' : World} (h : Tab w) (hb : Below w.heap.size w w') : Tab w' := h.below h.pos hb

theorem tz_core (x k idx : Nat) (w : World) (hz : ((x : Int) == 0) = false)
    (key : IntKind.u64.wrap (bits .and .u64 (x : Int) (IntKind.u64.wrap (-(x : Int))) * 285870213051353865) / 288230376151711744 = (idx : Int))
    (hi : idx < 64) (hcell : w.cell? ⟨0, idx, none⟩ = some (.int .u8 (k : Int))) (hk : k < 64) :
    Calls Tryd.prog 58 #[.int .u64 (x : Int)] w fun e w' => e = .returned (.int .i64 (k : Int)) ∧ w = w' := by
  go_enter Tryd.func58, Tryd.ntmps58
  go_wp2_with (simp only [key])
  go_ret
  exact ⟨rfl, rfl⟩
theorem tz_any (x : Nat) (w : World) (hx : x < 18446744073709551616) (hx0 : x ≠ 0) (hT : Tab w) :
    Calls Tryd.prog 58 #[.int .u64 (x : Int)] w fun e w' => e = .returned (.int .i64 (Lib.ctz 64 x : Int)) ∧ w = w' := by
  obtain ⟨hlow, hk⟩ := Lib.lowest_bit 64 x hx0 hx
  obtain ⟨hi, htab⟩ := Lib.deBruijn64_at _ hk
  have hcell := hT _ hi
  rw [htab] at hcell
  exact tz_core x _ _ w (by simp; omega) (tz64_key x _ hx hx0 hlow) hi hcell hk
end Go.Proofs.YtidgibkiacbgfaaDoor

namespace Go.Proofs.YtidgibkiacbgfaaDoor
open Go.RowKit
set_option maxRecDepth 100000

theorem u64_wrap (x : Int) : IntKind.u64.wrap x = x % 18446744073709551616 := by simp [IntKind.wrap, IntKind.signed, IntKind.bits]

theorem inv_any (x : Nat) (w : World) (h : x % 2 = 1) (hx : x < 18446744073709551616) :
    Calls Tryd.prog 83 #[.int .u64 (x : Int)] w fun e w' => (∃ v : Int, e = .returned (.int .u64 v) ∧ 0 ≤ v ∧ v < 18446744073709551616 ∧ ((x : Int) * v) % 18446744073709551616 = 1) ∧ w = w' := by
  have h0 := odd_start x h
  have H0 := Lib.hid h0
  clear h0
  go_enter Tryd.func83, Tryd.ntmps83
  go_wp2_with fail
  go_loopw [3, 5] (fun v i wr => ∃ (k : Nat) (z : Int), k ≤ 5 ∧ i = .int .i64 k ∧ v = .int .u64 z ∧ Hid (0 ≤ z ∧ z < 18446744073709551616) ∧ Hid (((2 : Int) ^ ek k) ∣ (x : Int) * z - 1) ∧ wr = w) (fun _ i _ => 5 - (intOf i).toNat)
  case atStart => exact ⟨0, (x : Int), by omega, rfl, rfl, Lib.hid ⟨by omega, by omega⟩, H0, rfl⟩
  case round =>
    obtain ⟨k, z, hk, rfl, rfl, hz, hd, rfl⟩ := hrel
    by_cases hlt : k < 5
    · have n1 : (k : Int) < 5 := by omega
      go_wp2_with fail
      go_roundw
      case rel =>
        refine ⟨k + 1, _, by omega, by go_num, rfl, Lib.hid ⟨?_, ?_⟩, Lib.hid ?_, trivial⟩
        · rw [u64_wrap]; omega
        · rw [u64_wrap]; omega
        · rw [u64_wrap, u64_wrap, u64_wrap]
          obtain ⟨s, hs⟩ := newton_mod (x : Int) z 18446744073709551616
          exact newton hd.out (ek_step k).1 (ek_step k).2 hs
      case measure => simp [intOf]; omega
    · obtain rfl : k = 5 := by omega
      go_wp2_with fail
      go_ret
      exact ⟨⟨z, rfl, hz.out.1, hz.out.2, inv_end 5 (Nat.le_refl _) hd.out⟩, rfl⟩
end Go.Proofs.YtidgibkiacbgfaaDoor

namespace Go.Proofs.YtidgibkiacbgfaaDoor
open Go.RowKit
set_option maxRecDepth 100000

theorem tz_call (y : Nat) (w : World) (h0 : 0 < y) (hy : y < 2097152) (hT : Tab w) :
    Calls Tryd.prog 58 #[.int .u64 (y : Int)] w fun e w' => e = .returned (.int .i64 (tz y : Int)) ∧ w = w' := tz_any y w (by omega) (by omega) hT

theorem u64_step (P n t : Nat) (h0 : n + t < 2097152) (h : P = prA n t) : Value.int .u64 (IntKind.u64.wrap (((P % 18446744073709551616 : Nat) : Int) * (((n + (t + 1) : Nat) : Int) / 2 ^ min (tz (n + (t + 1))) 64))) = Value.int .u64 ((prA n (t + 1) % 18446744073709551616 : Nat) : Int) := by
  have ht := tz_spec (n + (t + 1)) (by omega) (by omega)
  rw [Nat.min_eq_left (by omega), u64_wrap, prA, ← h]
  have e : (((n + (t + 1) : Nat) : Int) / 2 ^ tz (n + (t + 1))) = ((od (n + (t + 1)) : Nat) : Int) := by
    unfold od
    simp
  rw [e, ← Int.natCast_mul, show (18446744073709551616 : Int) = ((18446744073709551616 : Nat) : Int) from rfl, ← Int.natCast_emod, Nat.mod_mul_mod]
  rfl

theorem suA_bound (n t : Nat) : suA n t ≤ 64 * t ∨ 2097152 ≤ n + t := by
  induction t with
  | zero => simp [suA]
  | succ t ih =>
    by_cases h : 2097152 ≤ n + (t + 1)
    · exact .inr h
    · have h2 := tz_spec (n + t + 1) (by omega) (by omega)
      simp only [suA]
      omega
theorem tw_step (n t : Nat) (h : n + t + 1 < 2097152) : Value.int .i64 (wrap64 (((suA n t - suA 0 t : Nat) : Int) + wrap64 ((tz (n + (t + 1)) : Int) - (tz (t + 1) : Int)))) = Value.int .i64 ((suA n (t + 1) - suA 0 (t + 1) : Nat) : Int) := by
  have h1 := tz_spec (n + (t + 1)) (by omega) (by omega)
  have h2 := tz_spec (t + 1) (by omega) (by omega)
  have h3 := suA_le n t (by omega)
  have h4 := suA_le n (t + 1) (by omega)
  have h5 := suA_bound n t
  simp only [suA] at h4 ⊢
  rw [Nat.zero_add] at h4 ⊢
  rw [show n + t + 1 = n + (t + 1) by omega] at *
  unfold wrap64
  congr 1
  omega

theorem pow_min (x e : Nat) : x * 2 ^ min e 64 % 18446744073709551616 = x * 2 ^ e % 18446744073709551616 := by
  rcases Nat.le_total e 64 with h | h
  · rw [Nat.min_eq_left h]
  · rw [Nat.min_eq_right h]
    obtain ⟨d, rfl⟩ : ∃ d, e = 64 + d := ⟨e - 64, by omega⟩
    rw [Nat.pow_add, ← Nat.mul_assoc]
    have : (2 : Nat) ^ 64 = 18446744073709551616 := by decide
    rw [this, Nat.mul_mod_left, Nat.mul_right_comm, Nat.mul_mod_left]
theorem merge_fin {A B C e : Nat} {v : Int} (h : A * 2 ^ e = B * C) (hv : (((B % 18446744073709551616 : Nat) : Int) * v) % 18446744073709551616 = 1) (hv0 : 0 ≤ v) :
    Ending.returned (.int .u64 (IntKind.u64.wrap (IntKind.u64.wrap (((A % 18446744073709551616 : Nat) : Int) * v) * 2 ^ min e 64))) = .returned (.int .u64 ((C % 18446744073709551616 : Nat) : Int)) := by
  obtain ⟨u, rfl⟩ : ∃ u : Nat, v = (u : Int) := ⟨v.toNat, by omega⟩
  have hM : (18446744073709551616 : Int) = ((18446744073709551616 : Nat) : Int) := rfl
  have h2 : ∀ k : Nat, (2 : Int) ^ k = ((2 ^ k : Nat) : Int) := fun k => by simp
  rw [hM, ← Int.natCast_mul, ← Int.natCast_emod] at hv
  have hv' : B * u % 18446744073709551616 = 1 % 18446744073709551616 := by
    rw [Nat.mod_mul_mod] at hv
    omega
  rw [u64_wrap, u64_wrap, hM, h2, ← Int.natCast_mul, ← Int.natCast_emod, ← Int.natCast_mul, ← Int.natCast_emod, pow_min, Nat.mod_mul_mod A u, mod_fin h hv']

set_option maxHeartbeats 1000000 in
theorem merges_lt (few many : Nat) (w : World) (hlt0 : (few : Int) < (many : Int)) (hfm : few + many ≤ 1048576) (hT : Tab w) :
    Calls Tryd.prog 82 #[.int .i64 (few : Nat), .int .i64 (many : Nat)] w fun e w' => e = .returned (.int .u64 ((ch many few % 18446744073709551616 : Nat) : Int)) ∧ w = w' := by
  have HT := Lib.hid hT
  clear hT
  go_enter Tryd.func82, Tryd.ntmps82
  go_wp2_with fail
  go_loopw [7, 8, 9, 10] (fun tw ab be i wr => ∃ t : Nat, t ≤ few ∧ i = .int .i64 ((t + 1 : Nat) : Int) ∧ ab = .int .u64 ((prA many t % 18446744073709551616 : Nat) : Int) ∧ be = .int .u64 ((prA 0 t % 18446744073709551616 : Nat) : Int) ∧ tw = .int .i64 ((suA many t - suA 0 t : Nat) : Int) ∧ wr = w) (fun _ _ _ i _ => few + 1 - (intOf i).toNat)
  case atStart => exact ⟨0, Nat.zero_le _, rfl, rfl, rfl, rfl, rfl⟩
  case round =>
    obtain ⟨t, ht, rfl, rfl, rfl, rfl, rfl⟩ := hrel
    obtain ⟨q, hq⟩ : ∃ q, q = t + 1 := ⟨_, rfl⟩
    rw [← hq]
    by_cases hlt : q ≤ few
    · have n1 : (q : Int) ≤ (few : Int) := by omega
      have c1 : IntKind.i64.wrap ((many : Int) + (q : Int)) = ((many + q : Nat) : Int) := by rw [IntKind.wrap_i64]; omega
      have c2 : IntKind.u64.wrap ((many + q : Nat) : Int) = ((many + q : Nat) : Int) := by rw [u64_wrap]; omega
      have c3 : IntKind.u64.wrap (q : Int) = (q : Int) := by rw [u64_wrap]; omega
      obtain ⟨a, ha⟩ : ∃ a, a = many + q := ⟨_, rfl⟩
      have HAQ := Lib.hid ha
      have ha1 : a < 2097152 := by omega
      have ha0 : 0 < a := by omega
      rw [← ha] at c1 c2
      clear ha
      have HA := Lib.hid (fun w' (h : Tab w') => tz_call a w' ha0 ha1 h)
      have HB := Lib.hid (fun w' (h : Tab w') => tz_call q w' (by omega) (by omega) h)
      obtain ⟨ab, hab⟩ : ∃ ab, ab = prA many t % 18446744073709551616 := ⟨_, rfl⟩
      obtain ⟨be, hbe⟩ : ∃ be, be = prA 0 t % 18446744073709551616 := ⟨_, rfl⟩
      obtain ⟨tw, htw⟩ : ∃ tw, tw = suA many t - suA 0 t := ⟨_, rfl⟩
      rw [← hab, ← hbe, ← htw]
      have HAB := Lib.hid hab
      have HBE := Lib.hid hbe
      have HTW := Lib.hid htw
      have HQ := Lib.hid hq
      clear hab hbe htw hq
      go_wp2_with (first
        | (go_at_call 58; (first | (with_reducible refine (HA.out _ HT.out).mono ?_; rintro e w' ⟨rfl, rfl⟩) | (with_reducible refine (HB.out _ HT.out).mono ?_; rintro e w' ⟨rfl, rfl⟩)))
        | fail)
      go_roundw
      case rel =>
        have hq := HQ.out
        have haq := HAQ.out
        refine ⟨q, hlt, by first | rfl | (congr 1), ?_, ?_, ?_, trivial⟩
        · rw [HAB.out, haq, hq]
          exact u64_step _ _ _ (by omega) rfl
        · rw [HBE.out, hq]
          have := u64_step (prA 0 t) 0 t (by omega) rfl
          rw [Nat.zero_add] at this
          exact this
        · rw [HTW.out, hq, haq, hq]
          exact tw_step _ _ (by omega)
      case measure => simp [intOf]; omega
    · obtain rfl : t = few := by omega
      have hodd : (prA 0 t % 18446744073709551616) % 2 = 1 := by have := prA_odd 0 t (by omega); omega
      have HI := Lib.hid (fun w' => inv_any (prA 0 t % 18446744073709551616) w' hodd (Nat.mod_lt _ (by omega)))
      have HF := Lib.hid (pr_fin many t (by omega))
      have htwb := suA_bound many t
      obtain ⟨ab, hab⟩ : ∃ ab, ab = prA many t % 18446744073709551616 := ⟨_, rfl⟩
      obtain ⟨be, hbe⟩ : ∃ be, be = prA 0 t % 18446744073709551616 := ⟨_, rfl⟩
      obtain ⟨tw, htw⟩ : ∃ tw, tw = suA many t - suA 0 t := ⟨_, rfl⟩
      rw [← hbe] at HI
      rw [← hab, ← hbe, ← htw]
      have htn : (0 : Int) ≤ (tw : Int) := by omega
      have HAB := Lib.hid hab
      have HBE := Lib.hid hbe
      have HTW := Lib.hid htw
      clear hab hbe htw hq hodd
      go_wp2_with (first
        | (go_at_call 83; with_reducible refine (HI.out _).mono ?_; rintro e w' ⟨⟨v, rfl, hv0, hv1, hv2⟩, rfl⟩)
        | fail)
      go_ret
      refine ⟨?_, rfl⟩
      rw [HAB.out, HTW.out]
      exact merge_fin HF.out (by rw [HBE.out] at hv2; exact hv2) hv0

set_option maxHeartbeats 1000000 in
theorem merges_gt (few many : Nat) (w : World) (hlt0 : (few : Int) < (many : Int)) (hfm : few + many ≤ 1048576) (hT : Tab w) :
    Calls Tryd.prog 82 #[.int .i64 (many : Nat), .int .i64 (few : Nat)] w fun e w' => e = .returned (.int .u64 ((ch many few % 18446744073709551616 : Nat) : Int)) ∧ w = w' := by
  have HT := Lib.hid hT
  clear hT
  go_enter Tryd.func82, Tryd.ntmps82
  go_wp2_with fail
  go_loopw [7, 8, 9, 10] (fun tw ab be i wr => ∃ t : Nat, t ≤ few ∧ i = .int .i64 ((t + 1 : Nat) : Int) ∧ ab = .int .u64 ((prA many t % 18446744073709551616 : Nat) : Int) ∧ be = .int .u64 ((prA 0 t % 18446744073709551616 : Nat) : Int) ∧ tw = .int .i64 ((suA many t - suA 0 t : Nat) : Int) ∧ wr = w) (fun _ _ _ i _ => few + 1 - (intOf i).toNat)
  case atStart => exact ⟨0, Nat.zero_le _, rfl, rfl, rfl, rfl, rfl⟩
  case round =>
    obtain ⟨t, ht, rfl, rfl, rfl, rfl, rfl⟩ := hrel
    obtain ⟨q, hq⟩ : ∃ q, q = t + 1 := ⟨_, rfl⟩
    rw [← hq]
    by_cases hlt : q ≤ few
    · have n1 : (q : Int) ≤ (few : Int) := by omega
      have c1 : IntKind.i64.wrap ((many : Int) + (q : Int)) = ((many + q : Nat) : Int) := by rw [IntKind.wrap_i64]; omega
      have c2 : IntKind.u64.wrap ((many + q : Nat) : Int) = ((many + q : Nat) : Int) := by rw [u64_wrap]; omega
      have c3 : IntKind.u64.wrap (q : Int) = (q : Int) := by rw [u64_wrap]; omega
      obtain ⟨a, ha⟩ : ∃ a, a = many + q := ⟨_, rfl⟩
      have HAQ := Lib.hid ha
      have ha1 : a < 2097152 := by omega
      have ha0 : 0 < a := by omega
      rw [← ha] at c1 c2
      clear ha
      have HA := Lib.hid (fun w' (h : Tab w') => tz_call a w' ha0 ha1 h)
      have HB := Lib.hid (fun w' (h : Tab w') => tz_call q w' (by omega) (by omega) h)
      obtain ⟨ab, hab⟩ : ∃ ab, ab = prA many t % 18446744073709551616 := ⟨_, rfl⟩
      obtain ⟨be, hbe⟩ : ∃ be, be = prA 0 t % 18446744073709551616 := ⟨_, rfl⟩
      obtain ⟨tw, htw⟩ : ∃ tw, tw = suA many t - suA 0 t := ⟨_, rfl⟩
      rw [← hab, ← hbe, ← htw]
      have HAB := Lib.hid hab
      have HBE := Lib.hid hbe
      have HTW := Lib.hid htw
      have HQ := Lib.hid hq
      clear hab hbe htw hq
      go_wp2_with (first
        | (go_at_call 58; (first | (with_reducible refine (HA.out _ HT.out).mono ?_; rintro e w' ⟨rfl, rfl⟩) | (with_reducible refine (HB.out _ HT.out).mono ?_; rintro e w' ⟨rfl, rfl⟩)))
        | fail)
      go_roundw
      case rel =>
        have hq := HQ.out
        have haq := HAQ.out
        refine ⟨q, hlt, by first | rfl | (congr 1), ?_, ?_, ?_, trivial⟩
        · rw [HAB.out, haq, hq]
          exact u64_step _ _ _ (by omega) rfl
        · rw [HBE.out, hq]
          have := u64_step (prA 0 t) 0 t (by omega) rfl
          rw [Nat.zero_add] at this
          exact this
        · rw [HTW.out, hq, haq, hq]
          exact tw_step _ _ (by omega)
      case measure => simp [intOf]; omega
    · obtain rfl : t = few := by omega
      have hodd : (prA 0 t % 18446744073709551616) % 2 = 1 := by have := prA_odd 0 t (by omega); omega
      have HI := Lib.hid (fun w' => inv_any (prA 0 t % 18446744073709551616) w' hodd (Nat.mod_lt _ (by omega)))
      have HF := Lib.hid (pr_fin many t (by omega))
      have htwb := suA_bound many t
      obtain ⟨ab, hab⟩ : ∃ ab, ab = prA many t % 18446744073709551616 := ⟨_, rfl⟩
      obtain ⟨be, hbe⟩ : ∃ be, be = prA 0 t % 18446744073709551616 := ⟨_, rfl⟩
      obtain ⟨tw, htw⟩ : ∃ tw, tw = suA many t - suA 0 t := ⟨_, rfl⟩
      rw [← hbe] at HI
      rw [← hab, ← hbe, ← htw]
      have htn : (0 : Int) ≤ (tw : Int) := by omega
      have HAB := Lib.hid hab
      have HBE := Lib.hid hbe
      have HTW := Lib.hid htw
      clear hab hbe htw hq hodd
      go_wp2_with (first
        | (go_at_call 83; with_reducible refine (HI.out _).mono ?_; rintro e w' ⟨⟨v, rfl, hv0, hv1, hv2⟩, rfl⟩)
        | fail)
      go_ret
      refine ⟨?_, rfl⟩
      rw [HAB.out, HTW.out]
      exact merge_fin HF.out (by rw [HBE.out] at hv2; exact hv2) hv0

set_option maxHeartbeats 1000000 in
theorem merges_eq (few : Nat) (w : World)  (hfm : few + few ≤ 1048576) (hT : Tab w) :
    Calls Tryd.prog 82 #[.int .i64 (few : Nat), .int .i64 (few : Nat)] w fun e w' => e = .returned (.int .u64 ((ch few few % 18446744073709551616 : Nat) : Int)) ∧ w = w' := by
  have HT := Lib.hid hT
  clear hT
  go_enter Tryd.func82, Tryd.ntmps82
  go_wp2_with fail
  go_loopw [7, 8, 9, 10] (fun tw ab be i wr => ∃ t : Nat, t ≤ few ∧ i = .int .i64 ((t + 1 : Nat) : Int) ∧ ab = .int .u64 ((prA few t % 18446744073709551616 : Nat) : Int) ∧ be = .int .u64 ((prA 0 t % 18446744073709551616 : Nat) : Int) ∧ tw = .int .i64 ((suA few t - suA 0 t : Nat) : Int) ∧ wr = w) (fun _ _ _ i _ => few + 1 - (intOf i).toNat)
  case atStart => exact ⟨0, Nat.zero_le _, rfl, rfl, rfl, rfl, rfl⟩
  case round =>
    obtain ⟨t, ht, rfl, rfl, rfl, rfl, rfl⟩ := hrel
    obtain ⟨q, hq⟩ : ∃ q, q = t + 1 := ⟨_, rfl⟩
    rw [← hq]
    by_cases hlt : q ≤ few
    · have n1 : (q : Int) ≤ (few : Int) := by omega
      have c1 : IntKind.i64.wrap ((few : Int) + (q : Int)) = ((few + q : Nat) : Int) := by rw [IntKind.wrap_i64]; omega
      have c2 : IntKind.u64.wrap ((few + q : Nat) : Int) = ((few + q : Nat) : Int) := by rw [u64_wrap]; omega
      have c3 : IntKind.u64.wrap (q : Int) = (q : Int) := by rw [u64_wrap]; omega
      obtain ⟨a, ha⟩ : ∃ a, a = few + q := ⟨_, rfl⟩
      have HAQ := Lib.hid ha
      have ha1 : a < 2097152 := by omega
      have ha0 : 0 < a := by omega
      rw [← ha] at c1 c2
      clear ha
      have HA := Lib.hid (fun w' (h : Tab w') => tz_call a w' ha0 ha1 h)
      have HB := Lib.hid (fun w' (h : Tab w') => tz_call q w' (by omega) (by omega) h)
      obtain ⟨ab, hab⟩ : ∃ ab, ab = prA few t % 18446744073709551616 := ⟨_, rfl⟩
      obtain ⟨be, hbe⟩ : ∃ be, be = prA 0 t % 18446744073709551616 := ⟨_, rfl⟩
      obtain ⟨tw, htw⟩ : ∃ tw, tw = suA few t - suA 0 t := ⟨_, rfl⟩
      rw [← hab, ← hbe, ← htw]
      have HAB := Lib.hid hab
      have HBE := Lib.hid hbe
      have HTW := Lib.hid htw
      have HQ := Lib.hid hq
      clear hab hbe htw hq
      go_wp2_with (first
        | (go_at_call 58; (first | (with_reducible refine (HA.out _ HT.out).mono ?_; rintro e w' ⟨rfl, rfl⟩) | (with_reducible refine (HB.out _ HT.out).mono ?_; rintro e w' ⟨rfl, rfl⟩)))
        | fail)
      go_roundw
      case rel =>
        have hq := HQ.out
        have haq := HAQ.out
        refine ⟨q, hlt, by first | rfl | (congr 1), ?_, ?_, ?_, trivial⟩
        · rw [HAB.out, haq, hq]
          exact u64_step _ _ _ (by omega) rfl
        · rw [HBE.out, hq]
          have := u64_step (prA 0 t) 0 t (by omega) rfl
          rw [Nat.zero_add] at this
          exact this
        · rw [HTW.out, hq, haq, hq]
          exact tw_step _ _ (by omega)
      case measure => simp [intOf]; omega
    · obtain rfl : t = few := by omega
      have hodd : (prA 0 t % 18446744073709551616) % 2 = 1 := by have := prA_odd 0 t (by omega); omega
      have HI := Lib.hid (fun w' => inv_any (prA 0 t % 18446744073709551616) w' hodd (Nat.mod_lt _ (by omega)))
      have HF := Lib.hid (pr_fin t t (by omega))
      have htwb := suA_bound t t
      obtain ⟨ab, hab⟩ : ∃ ab, ab = prA t t % 18446744073709551616 := ⟨_, rfl⟩
      obtain ⟨be, hbe⟩ : ∃ be, be = prA 0 t % 18446744073709551616 := ⟨_, rfl⟩
      obtain ⟨tw, htw⟩ : ∃ tw, tw = suA t t - suA 0 t := ⟨_, rfl⟩
      rw [← hbe] at HI
      rw [← hab, ← hbe, ← htw]
      have htn : (0 : Int) ≤ (tw : Int) := by omega
      have HAB := Lib.hid hab
      have HBE := Lib.hid hbe
      have HTW := Lib.hid htw
      clear hab hbe htw hq hodd
      go_wp2_with (first
        | (go_at_call 83; with_reducible refine (HI.out _).mono ?_; rintro e w' ⟨⟨v, rfl, hv0, hv1, hv2⟩, rfl⟩)
        | fail)
      go_ret
      refine ⟨?_, rfl⟩
      rw [HAB.out, HTW.out]
      exact merge_fin HF.out (by rw [HBE.out] at hv2; exact hv2) hv0

theorem merges_any (l r : Nat) (w : World) (hl : l + r ≤ 1048576) (hT : Tab w) :
    Calls Tryd.prog 82 #[.int .i64 (l : Nat), .int .i64 (r : Nat)] w fun e w' => e = .returned (.int .u64 ((ch l r % 18446744073709551616 : Nat) : Int)) ∧ w = w' := by
  rcases Nat.lt_trichotomy l r with h | rfl | h
  · rw [ch_comm]
    exact merges_lt l r w (by omega) (by omega) hT
  · exact merges_eq l w (by omega) hT
  · exact merges_gt r l w (by omega) (by omega) hT
end Go.Proofs.YtidgibkiacbgfaaDoor

namespace Go.Proofs.YtidgibkiacbgfaaDoor
open Go.RowKit
set_option maxRecDepth 100000

theorem tz_call2 (y : Nat) (w : World) (h0 : 0 < y) (hy : y < 2097152) (hT : Tab w) :
    Calls Tryd.prog 58 #[.int .u64 (y : Int)] w fun e w' => e = .returned (.int .i64 (tz y : Int)) ∧ w = w' := tz_any y w (by omega) (by omega) hT
theorem shr_od (y : Nat) (h0 : 0 < y) (hy : y < 2097152) : (y : Int) / 2 ^ min (tz y) 64 = ((od y : Nat) : Int) := by
  have h := tz_spec y h0 (by omega)
  rw [Nat.min_eq_left (by omega)]
  unfold od
  simp
theorem od_lt (y : Nat) (hy : y < 2097152) : od y < 2097152 := Nat.lt_of_le_of_lt (Nat.div_le_self _ _) hy

theorem hM64 : (18446744073709551616 : Int) = ((18446744073709551616 : Nat) : Int) := rfl

theorem dchoose_fin {A B C e u : Nat} (h : A * 2 ^ e = B * C) (hv : B * u % 18446744073709551616 = 1 % 18446744073709551616) :
    Ending.returned (.int .u64 (IntKind.u64.wrap (((A * u % 18446744073709551616 : Nat) : Int) * 2 ^ min e 64))) = .returned (.int .u64 ((C % 18446744073709551616 : Nat) : Int)) := by
  have h2 : ∀ k : Nat, (2 : Int) ^ k = ((2 ^ k : Nat) : Int) := fun k => by simp
  rw [u64_wrap, hM64, h2, ← Int.natCast_mul, ← Int.natCast_emod, pow_min, mod_fin h hv]

end Go.Proofs.YtidgibkiacbgfaaDoor
