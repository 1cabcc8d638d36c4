/-
  The law VectorTicks answers true, for every slice of at most 2^20 words and every two ints.
-/
import Derived.Test.YtmnhdboakpaibaaVcAl
namespace Go.Proofs.Ytmnhdboakpaibaa
open Go.RowKit Go.Shelf
set_option maxRecDepth 100000

set_option maxHeartbeats 4000000 in
theorem vticks1 (A : Option Addr) (ca : Nat) (xs : List Nat) (i j : Int) (w : World) (hx : RdU w w.heap.size A xs) (h : i < 0) :
    Calls Try.prog 6 #[.slice A xs.length ca, .int .i64 i, .int .i64 j] w fun e w' => e = .returned (.bool true) ∧ Below w.heap.size w w' := by
  have hB := Below.refl w.heap.size w
  have hs := Nat.le_refl w.heap.size
  go_enter Try.func6, Try.ntmps6
  go_wp2_with fail
  refine (alive7_any _).mono ?_
  rintro e w1 ⟨rfl, hb⟩
  replace hx := hx.step hb; replace hB := below_step hB hs hb; replace hs := hB.size; clear hb
  go_wp2
  go_ret
  exact ⟨rfl, hB⟩

set_option maxHeartbeats 4000000 in
theorem vticks2 (A : Option Addr) (ca : Nat) (xs : List Nat) (i j : Int) (w : World) (hx : RdU w w.heap.size A xs) (h1 : ¬ i < 0) (h : j < 0) :
    Calls Try.prog 6 #[.slice A xs.length ca, .int .i64 i, .int .i64 j] w fun e w' => e = .returned (.bool true) ∧ Below w.heap.size w w' := by
  have hB := Below.refl w.heap.size w
  have hs := Nat.le_refl w.heap.size
  go_enter Try.func6, Try.ntmps6
  go_wp2_with fail
  refine (alive7_any _).mono ?_
  rintro e w1 ⟨rfl, hb⟩
  replace hx := hx.step hb; replace hB := below_step hB hs hb; replace hs := hB.size; clear hb
  go_wp2
  go_ret
  exact ⟨rfl, hB⟩

set_option maxHeartbeats 4000000 in
theorem vticks3 (A : Option Addr) (ca : Nat) (xs : List Nat) (i j : Int) (w : World) (hx : RdU w w.heap.size A xs) (h1 : ¬ i < 0) (h2 : ¬ j < 0) (h : 60000 < i) :
    Calls Try.prog 6 #[.slice A xs.length ca, .int .i64 i, .int .i64 j] w fun e w' => e = .returned (.bool true) ∧ Below w.heap.size w w' := by
  have hB := Below.refl w.heap.size w
  have hs := Nat.le_refl w.heap.size
  go_enter Try.func6, Try.ntmps6
  go_wp2_with fail
  refine (alive7_any _).mono ?_
  rintro e w1 ⟨rfl, hb⟩
  replace hx := hx.step hb; replace hB := below_step hB hs hb; replace hs := hB.size; clear hb
  go_wp2
  go_ret
  exact ⟨rfl, hB⟩

set_option maxHeartbeats 4000000 in
theorem vticks4 (A : Option Addr) (ca : Nat) (xs : List Nat) (i j : Int) (w : World) (hx : RdU w w.heap.size A xs) (h1 : ¬ i < 0) (h2 : ¬ j < 0) (h3 : ¬ 60000 < i) (h : 60000 < j) :
    Calls Try.prog 6 #[.slice A xs.length ca, .int .i64 i, .int .i64 j] w fun e w' => e = .returned (.bool true) ∧ Below w.heap.size w w' := by
  have hB := Below.refl w.heap.size w
  have hs := Nat.le_refl w.heap.size
  go_enter Try.func6, Try.ntmps6
  go_wp2_with fail
  refine (alive7_any _).mono ?_
  rintro e w1 ⟨rfl, hb⟩
  replace hx := hx.step hb; replace hB := below_step hB hs hb; replace hs := hB.size; clear hb
  go_wp2
  go_ret
  exact ⟨rfl, hB⟩

set_option maxHeartbeats 4000000 in
theorem vticks5 (A : Option Addr) (ca : Nat) (xs : List Nat) (k l : Nat) (hk : k ≤ 60000) (hl : l ≤ 60000) (w : World) (hx : RdU w w.heap.size A xs) (h : wd xs k = 18446744073709551615) :
    Calls Try.prog 6 #[.slice A xs.length ca, .int .i64 (k : Int), .int .i64 (l : Int)] w fun e w' => e = .returned (.bool true) ∧ Below w.heap.size w w' := by
  have hB := Below.refl w.heap.size w
  have hs := Nat.le_refl w.heap.size
  go_enter Try.func6, Try.ntmps6
  go_wp2_with fail
  refine (alive7_any _).mono ?_
  rintro e w1 ⟨rfl, hb⟩
  replace hx := hx.step hb; replace hB := below_step hB hs hb; replace hs := hB.size; clear hb
  go_wp2_with fail
  refine (vat_any A ca xs (k : Int) _ hx).mono ?_
  rw [vAt_nat, h]
  rintro e w2 ⟨rfl, rfl⟩
  go_wp2
  go_ret
  exact ⟨rfl, hB⟩

set_option maxHeartbeats 4000000 in
theorem vticks6 (A : Option Addr) (ca : Nat) (xs : List Nat) (k l : Nat) (hk : k ≤ 60000) (hl : l ≤ 60000) (w : World) (hx : RdU w w.heap.size A xs) (hq : wd xs k < 18446744073709551615) (h : wd xs l = 18446744073709551615) :
    Calls Try.prog 6 #[.slice A xs.length ca, .int .i64 (k : Int), .int .i64 (l : Int)] w fun e w' => e = .returned (.bool true) ∧ Below w.heap.size w w' := by
  have hB := Below.refl w.heap.size w
  have hs := Nat.le_refl w.heap.size
  have hbk : ((wd xs k : Int) == 18446744073709551615) = false := by rw [beq_eq_false_iff_ne]; omega
  go_enter Try.func6, Try.ntmps6
  go_wp2_with fail
  refine (alive7_any _).mono ?_
  rintro e w1 ⟨rfl, hb⟩
  replace hx := hx.step hb; replace hB := below_step hB hs hb; replace hs := hB.size; clear hb
  go_wp2_with fail
  refine (vat_any A ca xs (k : Int) _ hx).mono ?_
  rw [vAt_nat]
  rintro e w2 ⟨rfl, rfl⟩
  go_wp2_with fail
  refine (vat_any A ca xs (l : Int) _ hx).mono ?_
  rw [vAt_nat, h]
  rintro e w3 ⟨rfl, rfl⟩
  go_wp2
  go_ret
  exact ⟨rfl, hB⟩

set_option maxHeartbeats 4000000 in
theorem vticks7 (A : Option Addr) (ca : Nat) (xs : List Nat) (k : Nat) (hk : k ≤ 60000)  (w : World) (hx : RdU w w.heap.size A xs) (hca : xs.length ≤ ca) (hxl : xs.length ≤ 1048576) (hq : wd xs k < 18446744073709551615) :
    Calls Try.prog 6 #[.slice A xs.length ca, .int .i64 (k : Int), .int .i64 (k : Int)] w fun e w' => e = .returned (.bool true) ∧ Below w.heap.size w w' := by
  have hB := Below.refl w.heap.size w
  have hs := Nat.le_refl w.heap.size
  have hbk : ((wd xs k : Int) == 18446744073709551615) = false := by rw [beq_eq_false_iff_ne]; omega
  have Q := Lib.hid (And.intro (tick_over (v := xs) (i := k) (by omega) hq) (And.intro (tick_not (v := xs) (i := k) (by omega) hq) (tick_self (v := xs) (i := k) (by omega) hq)))
  have hwr : IntKind.u64.wrap ((wd xs k : Int) + 1) = ((wd xs k + 1 : Nat) : Int) := by rw [IntKind.wrap_u64]; omega
  go_enter Try.func6, Try.ntmps6
  go_wp2_with fail
  refine (alive7_any _).mono ?_
  rintro e w1 ⟨rfl, hb⟩
  replace hx := hx.step hb; replace hB := below_step hB hs hb; replace hs := hB.size; clear hb
  go_wp2_with fail
  refine (vat_any A ca xs (k : Int) _ hx).mono ?_
  rw [vAt_nat]
  rintro e w2 ⟨rfl, rfl⟩
  go_wp2_with fail
  refine (vat_any A ca xs (k : Int) _ hx).mono ?_
  rw [vAt_nat]
  rintro e w3 ⟨rfl, rfl⟩
  go_wp2_with fail
  refine (tick_any A ca xs (k : Int) _ hx hca (by omega) (by omega) (by omega)).mono ?_
  rintro e w4 ⟨A1, c1, rfl, k1, r1, hb⟩
  replace hx := hx.step hb; replace hB := below_step hB hs hb; replace hs := hB.size; clear hb
  go_wp2_with fail
  refine (tick_any A ca xs (k : Int) _ hx hca (by omega) (by omega) (by omega)).mono ?_
  rintro e w5 ⟨A2, c2, rfl, k2, r2, hb⟩
  replace hx := hx.step hb; replace r1 := r1.step hb; replace hB := below_step hB hs hb; replace hs := hB.size; clear hb
  go_wp2_with fail
  refine (vin_any A A1 ca c1 xs (vTick xs (k : Int)) _ hx r1).mono ?_
  rw [Q.out.1]
  rintro e w6 ⟨rfl, rfl⟩
  go_wp2_with fail
  refine (vin_any A1 A c1 ca (vTick xs (k : Int)) xs _ r1 hx).mono ?_
  rw [Q.out.2.1]
  rintro e w7 ⟨rfl, rfl⟩
  go_wp2_with fail
  refine (vat_any A1 c1 (vTick xs (k : Int)) (k : Int) _ r1).mono ?_
  rw [vAt_nat, Q.out.2.2]
  rintro e w8 ⟨rfl, rfl⟩
  go_wp2_with fail
  refine (vat_any A ca xs (k : Int) _ hx).mono ?_
  rw [vAt_nat]
  rintro e w9 ⟨rfl, rfl⟩
  go_wp2
  go_ret
  exact ⟨rfl, hB⟩

set_option maxHeartbeats 4000000 in
theorem vticks8 (A : Option Addr) (ca : Nat) (xs : List Nat) (k l : Nat) (hk : k ≤ 60000) (hl : l ≤ 60000) (w : World) (hx : RdU w w.heap.size A xs) (hca : xs.length ≤ ca) (hxl : xs.length ≤ 1048576) (hq : wd xs k < 18446744073709551615) (hq2 : wd xs l < 18446744073709551615) (hne : k ≠ l) :
    Calls Try.prog 6 #[.slice A xs.length ca, .int .i64 (k : Int), .int .i64 (l : Int)] w fun e w' => e = .returned (.bool true) ∧ Below w.heap.size w w' := by
  have hB := Below.refl w.heap.size w
  have hs := Nat.le_refl w.heap.size
  have hbk : ((wd xs k : Int) == 18446744073709551615) = false := by rw [beq_eq_false_iff_ne]; omega
  have hbl : ((wd xs l : Int) == 18446744073709551615) = false := by rw [beq_eq_false_iff_ne]; omega
  have Q := Lib.hid (And.intro (tick_over (v := xs) (i := k) (by omega) hq) (And.intro (tick_not (v := xs) (i := k) (by omega) hq) (tick_self (v := xs) (i := k) (by omega) hq)))
  have hwr : IntKind.u64.wrap ((wd xs k : Int) + 1) = ((wd xs k + 1 : Nat) : Int) := by rw [IntKind.wrap_u64]; omega
  have R := Lib.hid (And.intro (tick_other (v := xs) (i := k) (k := l) (Ne.symm hne)) (And.intro (tick_apart (v := xs) (i := k) (j := l) (by omega) hq hne) (And.intro (tick_apart (v := xs) (i := l) (j := k) (by omega) hq2 (Ne.symm hne)) (tick_join (v := xs) (i := k) (j := l) (by omega) (by omega) hq hq2 hne))))
  have L := Lib.hid (And.intro (vTick_len xs (k : Int)) (vTick_len xs (l : Int)))
  have hn1 : ((k : Int) == (l : Int)) = false := by rw [beq_eq_false_iff_ne]; omega
  have hn2 : ((k : Int) != (l : Int)) = true := by simp; omega
  clear hne
  go_enter Try.func6, Try.ntmps6
  go_wp2_with fail
  refine (alive7_any _).mono ?_
  rintro e w1 ⟨rfl, hb⟩
  replace hx := hx.step hb; replace hB := below_step hB hs hb; replace hs := hB.size; clear hb
  go_wp2_with fail
  refine (vat_any A ca xs (k : Int) _ hx).mono ?_
  rw [vAt_nat]
  rintro e w2 ⟨rfl, rfl⟩
  go_wp2_with fail
  refine (vat_any A ca xs (l : Int) _ hx).mono ?_
  rw [vAt_nat]
  rintro e w3 ⟨rfl, rfl⟩
  go_wp2_with fail
  refine (tick_any A ca xs (k : Int) _ hx hca (by omega) (by omega) (by omega)).mono ?_
  rintro e w4 ⟨A1, c1, rfl, k1, r1, hb⟩
  replace hx := hx.step hb; replace hB := below_step hB hs hb; replace hs := hB.size; clear hb
  go_wp2_with fail
  refine (tick_any A ca xs (l : Int) _ hx hca (by omega) (by omega) (by omega)).mono ?_
  rintro e w5 ⟨A2, c2, rfl, k2, r2, hb⟩
  replace hx := hx.step hb; replace r1 := r1.step hb; replace hB := below_step hB hs hb; replace hs := hB.size; clear hb
  go_wp2_with fail
  refine (vin_any A A1 ca c1 xs (vTick xs (k : Int)) _ hx r1).mono ?_
  rw [Q.out.1]
  rintro e w6 ⟨rfl, rfl⟩
  go_wp2_with fail
  refine (vin_any A1 A c1 ca (vTick xs (k : Int)) xs _ r1 hx).mono ?_
  rw [Q.out.2.1]
  rintro e w7 ⟨rfl, rfl⟩
  go_wp2_with fail
  refine (vat_any A1 c1 (vTick xs (k : Int)) (k : Int) _ r1).mono ?_
  rw [vAt_nat, Q.out.2.2]
  rintro e w8 ⟨rfl, rfl⟩
  go_wp2_with fail
  refine (vat_any A ca xs (k : Int) _ hx).mono ?_
  rw [vAt_nat]
  rintro e w9 ⟨rfl, rfl⟩
  go_wp2_with fail
  refine (vat_any A1 c1 (vTick xs (k : Int)) (l : Int) _ r1).mono ?_
  rw [vAt_nat, R.out.1]
  rintro e w10 ⟨rfl, rfl⟩
  go_wp2_with fail
  refine (vat_any A ca xs (l : Int) _ hx).mono ?_
  rw [vAt_nat]
  rintro e w11 ⟨rfl, rfl⟩
  go_wp2_with fail
  refine (vin_any A1 A2 c1 c2 (vTick xs (k : Int)) (vTick xs (l : Int)) _ r1 r2).mono ?_
  rw [R.out.2.1]
  rintro e w12 ⟨rfl, rfl⟩
  go_wp2_with fail
  refine (vin_any A2 A1 c2 c1 (vTick xs (l : Int)) (vTick xs (k : Int)) _ r2 r1).mono ?_
  rw [R.out.2.2.1]
  rintro e w13 ⟨rfl, rfl⟩
  go_wp2_with fail
  refine (join_anyV A1 A2 c1 c2 (vTick xs (k : Int)) (vTick xs (l : Int)) _ r1 r2 k1 k2 (by have := L.out; omega) (by have := L.out; omega)).mono ?_
  rintro e w14 ⟨A3, c3, rfl, k3, r3, hb⟩
  replace hx := hx.step hb; replace r1 := r1.step hb; replace r2 := r2.step hb; replace hB := below_step hB hs hb; replace hs := hB.size; clear hb
  go_wp2_with fail
  refine (tick_any A1 c1 (vTick xs (k : Int)) (l : Int) _ r1 k1 (by have := L.out; omega) (by omega) (by omega)).mono ?_
  rintro e w15 ⟨A4, c4, rfl, k4, r4, hb⟩
  replace hx := hx.step hb; replace r1 := r1.step hb; replace r2 := r2.step hb; replace r3 := r3.step hb; replace hB := below_step hB hs hb; replace hs := hB.size; clear hb
  go_wp2_with fail
  refine (equalU_b A3 A4 c3 c4 _ _ _ r3 r4).mono ?_
  rw [decide_eq_true R.out.2.2.2]
  rintro e w16 ⟨rfl, hb⟩
  replace hx := hx.step hb; replace r1 := r1.step hb; replace r2 := r2.step hb; replace r3 := r3.step hb; replace r4 := r4.step hb; replace hB := below_step hB hs hb; replace hs := hB.size; clear hb
  go_wp2
  go_ret
  exact ⟨rfl, hB⟩

theorem vticks_any (A : Option Addr) (ca : Nat) (xs : List Nat) (i j : Int) (w : World) (hx : RdU w w.heap.size A xs) (hca : xs.length ≤ ca) (hxl : xs.length ≤ 1048576) :
    Calls Try.prog 6 #[.slice A xs.length ca, .int .i64 i, .int .i64 j] w fun e w' => e = .returned (.bool true) ∧ Below w.heap.size w w' := by
  by_cases h1 : i < 0
  · exact vticks1 A ca xs i j w hx h1
  by_cases h2 : j < 0
  · exact vticks2 A ca xs i j w hx h1 h2
  by_cases h3 : 60000 < i
  · exact vticks3 A ca xs i j w hx h1 h2 h3
  by_cases h4 : 60000 < j
  · exact vticks4 A ca xs i j w hx h1 h2 h3 h4
  obtain ⟨k, rfl⟩ : ∃ k : Nat, i = (k : Int) := ⟨i.toNat, by omega⟩
  obtain ⟨l, rfl⟩ : ∃ l : Nat, j = (l : Int) := ⟨j.toNat, by omega⟩
  have g1 := hx.lt k
  have g2 := hx.lt l
  by_cases h5 : wd xs k = 18446744073709551615
  · exact vticks5 A ca xs k l (by omega) (by omega) w hx h5
  by_cases h6 : wd xs l = 18446744073709551615
  · exact vticks6 A ca xs k l (by omega) (by omega) w hx (by omega) h6
  by_cases h7 : k = l
  · subst h7
    exact vticks7 A ca xs k (by omega) w hx hca hxl (by omega)
  · exact vticks8 A ca xs k l (by omega) (by omega) w hx hca hxl (by omega) (by omega) h7
end Go.Proofs.Ytmnhdboakpaibaa
