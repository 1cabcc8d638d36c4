/-
  Contract of the reference's reckon: an operation's answer on two numbers.
-/
import Derived.Test.YtinbcdadffljhaaExN
namespace Go.Proofs.Ytinbcdadffljhaa
open Go.RowKit Go.Shelf
set_option maxRecDepth 100000

theorem reck_add (x y : Int) (w : World) (hx : inI x) (hy : inI y) :
    Calls Try.prog 33 #[.int .i64 3, .int .i64 x, .int .i64 y] w fun e w' => e = .returned (.int .i64 (ar 3 x y)) ∧ w = w' := by
  obtain ⟨a, ha, hal, hac⟩ := word_of hx
  obtain ⟨b, hb, hbl, hbc⟩ := word_of hy
  have h1 : IntKind.u64.wrap ((a : Int) + (b : Int)) = (((a + b) % 18446744073709551616 : Nat) : Int) := by rw [IntKind.wrap_u64]; omega
  have h2 : IntKind.i64.wrap (((a + b) % 18446744073709551616 : Nat) : Int) = ar 3 x y := by
    show _ = wr (x + y)
    unfold wr
    rw [IntKind.wrap_i64, IntKind.wrap_i64]
    omega
  obtain ⟨s, hs⟩ : ∃ s, s = (a + b) % 18446744073709551616 := ⟨_, rfl⟩
  obtain ⟨V, hV⟩ : ∃ V, V = ar 3 x y := ⟨_, rfl⟩
  rw [← hs] at h1 h2
  rw [← hV] at h2 ⊢
  clear hs hV hac hbc hx hy
  go_enter Try.func33, Try.ntmps33
  go_wp2_with fail
  go_ret
  exact ⟨rfl, rfl⟩
theorem not_nat (b : Nat) (hb : b < 18446744073709551616) : bits .xor .u64 IntKind.u64.max (b : Int) = ((18446744073709551615 - b : Nat) : Int) := by
  have e : bits .xor .u64 IntKind.u64.max (b : Int) = ((18446744073709551615 ^^^ b : Nat) : Int) := u64_xor_nat 18446744073709551615 b (by omega) hb
  rw [e]
  congr 1
  apply Nat.eq_of_testBit_eq
  intro j
  rw [Nat.testBit_xor, show (18446744073709551615 - b) = 2 ^ 64 - (b + 1) by omega, show (18446744073709551615 : Nat) = 2 ^ 64 - 1 from rfl, Nat.testBit_two_pow_sub_one, Nat.testBit_two_pow_sub_succ (by omega)]
  by_cases h : j < 64
  · simp [h]
  · have : b.testBit j = false := Nat.testBit_lt_two_pow (Nat.lt_of_lt_of_le hb (Nat.pow_le_pow_right (n := 2) (by omega) (show 64 ≤ j by omega)))
    simp [h, this]
theorem reck_sub (x y : Int) (w : World) (hx : inI x) (hy : inI y) :
    Calls Try.prog 33 #[.int .i64 4, .int .i64 x, .int .i64 y] w fun e w' => e = .returned (.int .i64 (ar 4 x y)) ∧ w = w' := by
  obtain ⟨a, ha, hal, hac⟩ := word_of hx
  obtain ⟨b, hb, hbl, hbc⟩ := word_of hy
  have h0 := not_nat b hbl
  have h1 : IntKind.u64.wrap ((a : Int) + ((18446744073709551615 - b : Nat) : Int)) = (((a + (18446744073709551615 - b)) % 18446744073709551616 : Nat) : Int) := by rw [IntKind.wrap_u64]; omega
  have h3 : IntKind.u64.wrap ((((a + (18446744073709551615 - b)) % 18446744073709551616 : Nat) : Int) + 1) = (((a + (18446744073709551616 - b)) % 18446744073709551616 : Nat) : Int) := by rw [IntKind.wrap_u64]; omega
  have h2 : wrap64 (((a + (18446744073709551616 - b)) % 18446744073709551616 : Nat) : Int) = ar 4 x y := by
    show _ = wr (x - y)
    unfold wr wrap64
    rw [IntKind.wrap_i64]
    omega
  obtain ⟨m, hm⟩ : ∃ m, m = 18446744073709551615 - b := ⟨_, rfl⟩
  obtain ⟨s, hs⟩ : ∃ s, s = (a + (18446744073709551615 - b)) % 18446744073709551616 := ⟨_, rfl⟩
  obtain ⟨t, ht⟩ : ∃ t, t = (a + (18446744073709551616 - b)) % 18446744073709551616 := ⟨_, rfl⟩
  obtain ⟨V, hV⟩ : ∃ V, V = ar 4 x y := ⟨_, rfl⟩
  rw [← hs, ← hm] at h1
  rw [← hm] at h0
  rw [← hs, ← ht] at h3
  rw [← ht, ← hV] at h2
  rw [← hV]
  clear hs ht hm hV hac hbc hx hy
  go_enter Try.func33, Try.ntmps33
  go_wp2_with fail
  go_ret
  exact ⟨rfl, rfl⟩
theorem reck_mul (x y : Int) (w : World) (hx : inI x) (hy : inI y) :
    Calls Try.prog 33 #[.int .i64 5, .int .i64 x, .int .i64 y] w fun e w' => e = .returned (.int .i64 (ar 5 x y)) ∧ w = w' := by
  obtain ⟨a, ha, hal, hac⟩ := word_of hx
  obtain ⟨b, hb, hbl, hbc⟩ := word_of hy
  have hm := mul64_anyE a b hal hbl w
  have h2 : IntKind.i64.wrap ((a * b % 18446744073709551616 : Nat) : Int) = ar 5 x y := by
    show _ = wr (x * y)
    have e : ∃ q : Int, x * y = (a : Int) * (b : Int) + 18446744073709551616 * q := by
      rcases hac with ⟨_, ea⟩ | ⟨_, ea⟩ <;> rcases hbc with ⟨_, eb⟩ | ⟨_, eb⟩
      · exact ⟨0, by rw [ea, eb]; omega⟩
      · exact ⟨-(a : Int), by rw [ea, eb, Int.mul_sub]; omega⟩
      · exact ⟨-(b : Int), by rw [ea, eb, Int.sub_mul]; omega⟩
      · exact ⟨18446744073709551616 - (a : Int) - (b : Int), by rw [ea, eb, Int.sub_mul, Int.mul_sub, Int.mul_sub, Int.mul_sub]; omega⟩
    obtain ⟨q, hq⟩ := e
    rw [wr_eq q hq]
    have h3 : ((a * b % 18446744073709551616 : Nat) : Int) = (a : Int) * (b : Int) % 18446744073709551616 := by simp
    rw [h3]
    generalize (a : Int) * (b : Int) = P
    unfold wr
    rw [IntKind.wrap_i64, IntKind.wrap_i64]
    omega
  obtain ⟨s, hs⟩ : ∃ s, s = a * b % 18446744073709551616 := ⟨_, rfl⟩
  obtain ⟨t, ht⟩ : ∃ t, t = a * b / 18446744073709551616 := ⟨_, rfl⟩
  obtain ⟨V, hV⟩ : ∃ V, V = ar 5 x y := ⟨_, rfl⟩
  rw [← hs] at hm h2
  rw [← ht] at hm
  rw [← hV] at h2 ⊢
  clear hs ht hV hac hbc hx hy
  go_enter Try.func33, Try.ntmps33
  go_wp2_with fail
  refine hm.mono ?_
  rintro e w' ⟨rfl, hw⟩
  rw [hw]
  go_wp2_with fail
  go_ret
  exact ⟨rfl, rfl⟩
theorem reck_div (k : Int) (hk : k = 6 ∨ k = 7) (x y : Int) (w : World) (hx : inI x) (hy : inI y) :
    Calls Try.prog 33 #[.int .i64 k, .int .i64 x, .int .i64 y] w fun e w' => e = .returned (.int .i64 (ar k x y)) ∧ Below w.heap.size w w' := by
  have hd := divd_any x y w hx hy
  have e6 : (if y = 0 then 0 else wr (x.tdiv y)) = ar 6 x y := rfl
  have e7 : (if y = 0 then 0 else x.tmod y) = ar 7 x y := rfl
  rw [e6, e7] at hd
  obtain ⟨V, hV⟩ : ∃ V, V = ar 6 x y := ⟨_, rfl⟩
  obtain ⟨W, hW⟩ : ∃ W, W = ar 7 x y := ⟨_, rfl⟩
  rw [← hV, ← hW] at hd
  obtain ⟨a, ha, hal, hac⟩ := word_of hx
  obtain ⟨b, hb, hbl, hbc⟩ := word_of hy
  rcases hk with rfl | rfl
  · rw [← hV]
    clear hV hW e6 e7 hac hbc hx hy
    go_enter Try.func33, Try.ntmps33
    go_wp2_with fail
    refine hd.mono ?_
    rintro e w1 ⟨rfl, hb⟩
    go_wp2_with fail
    go_ret
    exact ⟨rfl, hb⟩
  · rw [← hW]
    clear hV hW e6 e7 hac hbc hx hy
    go_enter Try.func33, Try.ntmps33
    go_wp2_with fail
    refine hd.mono ?_
    rintro e w1 ⟨rfl, hb⟩
    go_wp2_with fail
    go_ret
    exact ⟨rfl, hb⟩
theorem reck_cmp (k : Int) (hk : k = 8 ∨ k = 9) (x y : Int) (w : World) (hx : inI x) (hy : inI y) :
    Calls Try.prog 33 #[.int .i64 k, .int .i64 x, .int .i64 y] w fun e w' => e = .returned (.int .i64 (ar k x y)) ∧ w = w' := by
  obtain ⟨a, ha, hal, hac⟩ := word_of hx
  obtain ⟨b, hb, hbl, hbc⟩ := word_of hy
  clear hac hbc hx hy
  rcases hk with rfl | rfl
  · by_cases h : x < y
    · have e : ar 8 x y = 1 := by unfold ar; simp [h]
      rw [e]
      clear e
      go_enter Try.func33, Try.ntmps33
      go_wp2_with fail
      go_ret
      exact ⟨rfl, rfl⟩
    · have e : ar 8 x y = 0 := by unfold ar; simp [h]
      rw [e]
      clear e
      go_enter Try.func33, Try.ntmps33
      go_wp2_with fail
      go_ret
      exact ⟨rfl, rfl⟩
  · by_cases h : x = y
    · have e : ar 9 x y = 1 := by unfold ar; simp [h]
      have hb9 : (x == y) = true := by simpa using h
      rw [e]
      clear e h
      go_enter Try.func33, Try.ntmps33
      go_wp2_with fail
      go_ret
      exact ⟨rfl, rfl⟩
    · have e : ar 9 x y = 0 := by unfold ar; simp [h]
      have hb9 : (x == y) = false := by simpa using h
      rw [e]
      clear e h
      go_enter Try.func33, Try.ntmps33
      go_wp2_with fail
      go_ret
      exact ⟨rfl, rfl⟩
theorem reck_any (k x y : Int) (w : World) (hk : 3 ≤ k ∧ k ≤ 9) (hx : inI x) (hy : inI y) :
    Calls Try.prog 33 #[.int .i64 k, .int .i64 x, .int .i64 y] w fun e w' => e = .returned (.int .i64 (ar k x y)) ∧ Below w.heap.size w w' := by
  have lift : ∀ {e : Ending} {w' : World}, e = .returned (.int .i64 (ar k x y)) ∧ w = w' → e = .returned (.int .i64 (ar k x y)) ∧ Below w.heap.size w w' := fun h => ⟨h.1, h.2 ▸ Below.refl _ _⟩
  rcases (show k = 3 ∨ k = 4 ∨ k = 5 ∨ (k = 6 ∨ k = 7) ∨ (k = 8 ∨ k = 9) by omega) with rfl | rfl | rfl | h | h
  · exact (reck_add x y w hx hy).mono fun _ _ => lift
  · exact (reck_sub x y w hx hy).mono fun _ _ => lift
  · exact (reck_mul x y w hx hy).mono fun _ _ => lift
  · exact reck_div k h x y w hx hy
  · exact (reck_cmp k h x y w hx hy).mono fun _ _ => lift
end Go.Proofs.Ytinbcdadffljhaa
