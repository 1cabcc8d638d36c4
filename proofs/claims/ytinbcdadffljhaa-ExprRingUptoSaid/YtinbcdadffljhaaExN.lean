/-
  Contracts of the reference's size64, divided and reckon: what an operation makes of two numbers.
-/
import Derived.Test.YtinbcdadffljhaaExM
import Derived.Test.YtinbcdadffljhaaBsA
import Derived.Shelf.Bits.Mul64
import Derived.Shelf.RegionOpenPlain
import Derived.Deep.QuietTactic
import Derived.BigQuiet
import Derived.Lib.Hide
namespace Go.Proofs.Ytinbcdadffljhaa
open Go.RowKit Go.Shelf Go.Lib
set_option maxRecDepth 100000

set_option maxHeartbeats 1000000 in
theorem mul64_anyE (x y : Nat) (hx : x < 18446744073709551616) (hy : y < 18446744073709551616) (w : World) :
    Calls Try.prog 52 #[.int .u64 x, .int .u64 y] w fun e w' => e = .returned (.tuple #[.int .u64 ((x * y / 18446744073709551616 : Nat) : Int), .int .u64 ((x * y % 18446744073709551616 : Nat) : Int)]) ∧ w' = w := by
  obtain ⟨bd, bt, bw, hhi⟩ := Lib.mul64_hi x y hx hy
  have ba := Lib.half_mul_le (a := x / 4294967296) (b := y / 4294967296) (by omega) (by omega)
  have bb := Lib.half_mul_le (a := x / 4294967296) (b := y % 4294967296) (by omega) (by omega)
  have bc := Lib.half_mul_le (a := x % 4294967296) (b := y / 4294967296) (by omega) (by omega)
  have ba' : x / 4294967296 * (y / 4294967296) < 18446744073709551616 := by omega
  have bb' : x / 4294967296 * (y % 4294967296) < 18446744073709551616 := by omega
  have bc' : x % 4294967296 * (y / 4294967296) < 18446744073709551616 := by omega
  have bh1 : x / 4294967296 * (y / 4294967296) + (x / 4294967296 * (y % 4294967296) + x % 4294967296 * (y % 4294967296) / 4294967296) / 4294967296 < 18446744073709551616 := by omega
  have bh : x / 4294967296 * (y / 4294967296) + (x / 4294967296 * (y % 4294967296) + x % 4294967296 * (y % 4294967296) / 4294967296) / 4294967296 + ((x / 4294967296 * (y % 4294967296) + x % 4294967296 * (y % 4294967296) / 4294967296) % 4294967296 + x % 4294967296 * (y / 4294967296)) / 4294967296 < 18446744073709551616 := by omega
  go_enter Try.func52, Try.ntmps52
  go_wp2
  simp only [Mul64.maskN x hx, Mul64.maskN y hy, Mul64.divN, Mul64.mulN, Mul64.addN, Mul64.wrapN _ bd, Mul64.wrapN _ bb', Mul64.wrapN _ bt, Mul64.maskN _ bt, Mul64.wrapN _ bc', Mul64.wrapN _ bw, Mul64.wrapN _ ba', Mul64.wrapN _ bh1, Mul64.wrapN _ bh, Mul64.wrapM (x * y)]
  rw [hhi]
  go_ret2
  exact ⟨rfl, rfl⟩

/-- the word of an int -/
theorem word_of {x : Int} (h : inI x) : ∃ a : Nat, IntKind.u64.wrap x = (a : Int) ∧ a < 18446744073709551616 ∧ ((0 ≤ x ∧ x = (a : Int)) ∨ (x < 0 ∧ x = (a : Int) - 18446744073709551616)) := by
  unfold inI at h
  refine ⟨(x % 18446744073709551616).toNat, ?_, by omega, ?_⟩
  · rw [IntKind.wrap_u64]; omega
  · by_cases hx : 0 ≤ x
    · left; omega
    · right; omega

theorem size64_any (x : Int) (w : World) (h : inI x) :
    Calls Try.prog 54 #[.int .i64 x] w fun e w' => e = .returned (.int .u64 (x.natAbs : Int)) ∧ w = w' := by
  obtain ⟨a, ha, hl, hc⟩ := word_of h
  unfold inI at h
  rcases hc with ⟨h0, h1⟩ | ⟨h0, h1⟩
  · have e : (x.natAbs : Int) = (a : Int) := by omega
    have n0 : ¬ x < 0 := by omega
    rw [e]
    clear h1 h h0 e
    go_enter Try.func54, Try.ntmps54
    go_wp2_with fail
    go_ret
    exact ⟨rfl, rfl⟩
  · have e : IntKind.u64.wrap (-(a : Int)) = (x.natAbs : Int) := by rw [IntKind.wrap_u64]; omega
    obtain ⟨q, hq⟩ : ∃ q, q = x.natAbs := ⟨_, rfl⟩
    rw [← hq] at e ⊢
    clear h1 h hq
    go_enter Try.func54, Try.ntmps54
    go_wp2_with fail
    go_ret
    exact ⟨rfl, rfl⟩

theorem divd_any (x y : Int) (w : World) (hx : inI x) (hy : inI y) :
    Calls Try.prog 53 #[.int .i64 x, .int .i64 y] w fun e w' => e = .returned (.tuple #[.int .i64 (if y = 0 then 0 else wr (x.tdiv y)), .int .i64 (if y = 0 then 0 else x.tmod y)]) ∧ Below w.heap.size w w' := by
  by_cases h0 : y = 0
  · subst h0
    rw [if_pos rfl, if_pos rfl]
    go_enter Try.func53, Try.ntmps53
    go_wp2_with fail
    go_ret2
    exact ⟨rfl, Below.refl _ _⟩
  · rw [if_neg h0, if_neg h0]
    have hsx := size64_any x w hx
    have hsy := size64_any y w hy
    obtain ⟨p, hp⟩ : ∃ p, p = x.natAbs := ⟨_, rfl⟩
    obtain ⟨q, hq⟩ : ∃ q, q = y.natAbs := ⟨_, rfl⟩
    rw [← hp] at hsx
    rw [← hq] at hsy
    have hq0 : ¬ q = 0 := by omega
    have hp1 : p ≤ 9223372036854775808 := by unfold inI at hx; omega
    have hq1 : q ≤ 9223372036854775808 := by unfold inI at hy; omega
    obtain ⟨d, hd⟩ : ∃ d, d = p / q := ⟨_, rfl⟩
    obtain ⟨r, hr⟩ : ∃ r, r = p % q := ⟨_, rfl⟩
    have hd1 : d ≤ p := by rw [hd]; exact Nat.div_le_self _ _
    have hr1 : r < q := by rw [hr]; exact Nat.mod_lt _ (by omega)
    have t1 : ((p : Int)).tdiv (q : Int) = (d : Int) := by rw [hd]; rfl
    have t2 : ((p : Int)).tmod (q : Int) = (r : Int) := by rw [hr]; rfl
    have w1 : IntKind.u64.wrap (d : Int) = (d : Int) := by rw [IntKind.wrap_u64]; omega
    have w2 : IntKind.u64.wrap (r : Int) = (r : Int) := by rw [IntKind.wrap_u64]; omega
    have t3 : (p : Int) / (q : Int) = (d : Int) := by rw [hd]; rfl
    have t4 : (p : Int) % (q : Int) = (r : Int) := by rw [hr]; rfl
    have hmo : Try.prog.follows .mixedOrders = true := by kernel_rfl
    have hT : ((0 ≤ x ∧ 0 ≤ y) ∨ (x < 0 ∧ y < 0) → x.tdiv y = (d : Int)) ∧ ((0 ≤ x ∧ y < 0) ∨ (x < 0 ∧ 0 ≤ y) → x.tdiv y = -(d : Int)) ∧ (0 ≤ x → x.tmod y = (r : Int)) ∧ (x < 0 → x.tmod y = -(r : Int)) := by
      rcases (show x = (p : Int) ∨ x = -(p : Int) by omega) with ex | ex <;> rcases (show y = (q : Int) ∨ y = -(q : Int) by omega) with ey | ey
      · have a1 : x.tdiv y = (d : Int) := by rw [ex, ey, t1]
        have a2 : x.tmod y = (r : Int) := by rw [ex, ey, t2]
        refine ⟨fun _ => a1, fun h => ?_, fun _ => a2, fun h => ?_⟩ <;> omega
      · have a1 : x.tdiv y = -(d : Int) := by rw [ex, ey, Int.tdiv_neg, t1]
        have a2 : x.tmod y = (r : Int) := by rw [ex, ey, Int.tmod_neg, t2]
        refine ⟨fun h => ?_, fun _ => a1, fun _ => a2, fun h => ?_⟩ <;> omega
      · have a1 : x.tdiv y = -(d : Int) := by rw [ex, ey, Int.neg_tdiv, t1]
        have a2 : x.tmod y = -(r : Int) := by rw [ex, ey, Int.neg_tmod, t2]
        refine ⟨fun h => ?_, fun _ => a1, fun h => ?_, fun _ => a2⟩
        · have : d = 0 ∨ 0 < p := by omega
          have : p = 0 → d = 0 := fun h => by rw [h] at hd; simpa using hd
          omega
        · have : p = 0 → r = 0 := fun h => by rw [h] at hr; simpa using hr
          omega
      · have a1 : x.tdiv y = (d : Int) := by rw [ex, ey, Int.neg_tdiv, Int.tdiv_neg, t1]; omega
        have a2 : x.tmod y = -(r : Int) := by rw [ex, ey, Int.neg_tmod, Int.tmod_neg, t2]
        refine ⟨fun _ => a1, fun h => ?_, fun h => ?_, fun _ => a2⟩
        · have : p = 0 → d = 0 := fun h => by rw [h] at hd; simpa using hd
          omega
        · have : p = 0 → r = 0 := fun h => by rw [h] at hr; simpa using hr
          omega
    have HT := Lib.hid hT
    have k1 : IntKind.i64.wrap (d : Int) = wr (d : Int) := rfl
    have k2 : IntKind.i64.wrap (IntKind.u64.wrap (-(d : Int))) = wr (-(d : Int)) := by unfold wr; rw [IntKind.wrap_u64, IntKind.wrap_i64, IntKind.wrap_i64]; omega
    have k3 : IntKind.i64.wrap (r : Int) = (r : Int) := by rw [IntKind.wrap_i64]; omega
    have k4 : IntKind.i64.wrap (IntKind.u64.wrap (-(r : Int))) = -(r : Int) := by rw [IntKind.wrap_u64, IntKind.wrap_i64]; omega
    obtain ⟨D1, hD1⟩ : ∃ D1, D1 = wr (d : Int) := ⟨_, rfl⟩
    obtain ⟨D2, hD2⟩ : ∃ D2, D2 = wr (-(d : Int)) := ⟨_, rfl⟩
    rw [← hD1] at k1
    rw [← hD2] at k2
    have HD1 := Lib.hid hD1
    have HD2 := Lib.hid hD2
    have hy0 : (y == 0) = false := by simpa using h0
    clear hT hD1 hD2 hp hq hd hr t1 t2 hd1 hr1 hx hy h0
    rcases (show x < 0 ∨ 0 ≤ x by omega) with sx | sx <;> rcases (show y < 0 ∨ 0 ≤ y by omega) with sy | sy
    · have HA := Lib.hid (show wr (x.tdiv y) = D1 ∧ x.tmod y = -(r : Int) from ⟨by rw [HT.out.1 (.inr ⟨sx, sy⟩)]; exact HD1.out.symm, HT.out.2.2.2 sx⟩)
      have dx : decide (x < 0) = true := decide_eq_true sx
      have dy : decide (y < 0) = true := decide_eq_true sy
      go_enter Try.func53, Try.ntmps53
      go_wp2_with (go_at_call 54; (first | (with_reducible refine hsx.mono ?_) | (with_reducible refine hsy.mono ?_)); rintro e w' ⟨rfl, rfl⟩)
      go_quiet (fail)
      go_wp2_with fail
      go_ret2
      rw [HA.out.1, HA.out.2]
      exact ⟨rfl, ⟨rfl, rfl, rfl, Nat.le_refl _, fun _ _ => rfl⟩⟩
    · have HA := Lib.hid (show wr (x.tdiv y) = D2 ∧ x.tmod y = -(r : Int) from ⟨by rw [HT.out.2.1 (.inr ⟨sx, sy⟩)]; exact HD2.out.symm, HT.out.2.2.2 sx⟩)
      have dx : decide (x < 0) = true := decide_eq_true sx
      have dy : decide (y < 0) = false := decide_eq_false (by omega)
      have ny : ¬ y < 0 := by omega
      clear sy
      go_enter Try.func53, Try.ntmps53
      go_wp2_with (go_at_call 54; (first | (with_reducible refine hsx.mono ?_) | (with_reducible refine hsy.mono ?_)); rintro e w' ⟨rfl, rfl⟩)
      go_quiet (fail)
      go_wp2_with fail
      go_ret2
      rw [HA.out.1, HA.out.2]
      exact ⟨rfl, ⟨rfl, rfl, rfl, Nat.le_refl _, fun _ _ => rfl⟩⟩
    · have HA := Lib.hid (show wr (x.tdiv y) = D2 ∧ x.tmod y = (r : Int) from ⟨by rw [HT.out.2.1 (.inl ⟨sx, sy⟩)]; exact HD2.out.symm, HT.out.2.2.1 sx⟩)
      have dx : decide (x < 0) = false := decide_eq_false (by omega)
      have dy : decide (y < 0) = true := decide_eq_true sy
      have nx : ¬ x < 0 := by omega
      clear sx
      go_enter Try.func53, Try.ntmps53
      go_wp2_with (go_at_call 54; (first | (with_reducible refine hsx.mono ?_) | (with_reducible refine hsy.mono ?_)); rintro e w' ⟨rfl, rfl⟩)
      go_quiet (fail)
      go_wp2_with fail
      go_ret2
      rw [HA.out.1, HA.out.2]
      exact ⟨rfl, ⟨rfl, rfl, rfl, Nat.le_refl _, fun _ _ => rfl⟩⟩
    · have HA := Lib.hid (show wr (x.tdiv y) = D1 ∧ x.tmod y = (r : Int) from ⟨by rw [HT.out.1 (.inl ⟨sx, sy⟩)]; exact HD1.out.symm, HT.out.2.2.1 sx⟩)
      have dx : decide (x < 0) = false := decide_eq_false (by omega)
      have dy : decide (y < 0) = false := decide_eq_false (by omega)
      have nx : ¬ x < 0 := by omega
      have ny : ¬ y < 0 := by omega
      clear sx
      clear sy
      go_enter Try.func53, Try.ntmps53
      go_wp2_with (go_at_call 54; (first | (with_reducible refine hsx.mono ?_) | (with_reducible refine hsy.mono ?_)); rintro e w' ⟨rfl, rfl⟩)
      go_quiet (fail)
      go_wp2_with fail
      go_ret2
      rw [HA.out.1, HA.out.2]
      exact ⟨rfl, ⟨rfl, rfl, rfl, Nat.le_refl _, fun _ _ => rfl⟩⟩
end Go.Proofs.Ytinbcdadffljhaa
