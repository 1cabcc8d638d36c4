/-
  The program's tests of a byte; how many bytes at the beginning of a text pass one (gen/lxrn.py writes this text).
-/
import Derived.Test.YtfekcbkafiiieaaDoorLxQ
import Derived.Test.YtfekcbkafiiieaaDoorLxJ
namespace Go.Proofs.YtfekcbkafiiieaaDoor
open Go.RowKit
set_option maxRecDepth 100000

theorem tests_spec (c : UInt8) : (isBl c = (decide (c.toNat = 32) || decide (c.toNat = 10) || decide (c.toNat = 9))) ∧ (isDg c = (decide (48 ≤ c.toNat) && decide (c.toNat ≤ 57))) ∧ (isLt c = (decide (97 ≤ c.toNat) && decide (c.toNat ≤ 122))) := by
  have key : ∀ n : Nat, n < 256 → (isBl (UInt8.ofNat n) == (decide (n = 32) || decide (n = 10) || decide (n = 9))) = true ∧ (isDg (UInt8.ofNat n) == (decide (48 ≤ n) && decide (n ≤ 57))) = true ∧ (isLt (UInt8.ofNat n) == (decide (97 ≤ n) && decide (n ≤ 122))) = true := by decide +kernel
  have h := key c.toNat c.toNat_lt
  rw [UInt8.ofNat_toNat] at h
  exact ⟨by simpa using h.1, by simpa using h.2.1, by simpa using h.2.2⟩

set_option maxHeartbeats 1000000 in
theorem isBlank_any (c : UInt8) (w : World) : Calls Tryd.prog 26 #[.int .u8 (c.toNat : Int)] w fun e w' => e = .returned (.bool (isBl c)) ∧ w' = w := by
  have hS := (tests_spec c).1
  have hlt := c.toNat_lt
  obtain ⟨n, hn⟩ : ∃ n, n = c.toNat := ⟨_, rfl⟩
  rw [← hn] at hS hlt ⊢
  obtain ⟨b, hb⟩ : ∃ b, b = isBl c := ⟨_, rfl⟩
  rw [← hb] at hS ⊢
  clear hb hn
  have HS := Lib.hid hS
  clear hS
  by_cases h1 : n = 32
  · subst h1
    go_enter Tryd.func26, Tryd.ntmps26
    go_wp2_with fail
    go_ret
    exact ⟨by rw [HS.out]; rfl, rfl⟩
  · have e1 : ((n : Int) == 32) = false := by rw [beq_eq_false_iff_ne]; omega
    by_cases h2 : n = 10
    · subst h2
      go_enter Tryd.func26, Tryd.ntmps26
      go_wp2_with fail
      go_ret
      exact ⟨by rw [HS.out]; rfl, rfl⟩
    · have e2 : ((n : Int) == 10) = false := by rw [beq_eq_false_iff_ne]; omega
      obtain ⟨b3, hb3⟩ : ∃ b3, b3 = ((n : Int) == 9) := ⟨_, rfl⟩
      have HB : Hid (b = b3) := Lib.hid (by
        rw [HS.out, hb3]
        by_cases h3 : n = 9
        · subst h3; rfl
        · have : ((n : Int) == 9) = false := by rw [beq_eq_false_iff_ne]; omega
          rw [this]
          simp [h1, h2, h3])
      have e3 : ((n : Int) == 9) = b3 := hb3.symm
      clear hb3 HS
      go_enter Tryd.func26, Tryd.ntmps26
      go_wp2_with fail
      go_ret
      exact ⟨by rw [HB.out]; rfl, rfl⟩

set_option maxHeartbeats 1000000 in
theorem isDigit_any (c : UInt8) (w : World) : Calls Tryd.prog 31 #[.int .u8 (c.toNat : Int)] w fun e w' => e = .returned (.bool (isDg c)) ∧ w' = w := by
  have hS := (tests_spec c).2.1
  have hlt := c.toNat_lt
  obtain ⟨n, hn⟩ : ∃ n, n = c.toNat := ⟨_, rfl⟩
  rw [← hn] at hS hlt ⊢
  obtain ⟨b, hb⟩ : ∃ b, b = isDg c := ⟨_, rfl⟩
  rw [← hb] at hS ⊢
  clear hb hn
  by_cases h1 : 48 ≤ n
  · have HB : Hid (b = decide ((n : Int) ≤ 57)) := Lib.hid (by
      rw [hS, decide_eq_true h1, Bool.true_and, Bool.eq_iff_iff, decide_eq_true_iff, decide_eq_true_iff]
      omega)
    clear hS
    go_enter Tryd.func31, Tryd.ntmps31
    go_wp2_with fail
    go_ret
    exact ⟨by rw [HB.out]; rfl, rfl⟩
  · have HB : Hid (b = false) := Lib.hid (by rw [hS]; simp [h1])
    clear hS
    go_enter Tryd.func31, Tryd.ntmps31
    go_wp2_with fail
    go_ret
    exact ⟨by rw [HB.out]; rfl, rfl⟩

set_option maxHeartbeats 1000000 in
theorem isLetter_any (c : UInt8) (w : World) : Calls Tryd.prog 32 #[.int .u8 (c.toNat : Int)] w fun e w' => e = .returned (.bool (isLt c)) ∧ w' = w := by
  have hS := (tests_spec c).2.2
  have hlt := c.toNat_lt
  obtain ⟨n, hn⟩ : ∃ n, n = c.toNat := ⟨_, rfl⟩
  rw [← hn] at hS hlt ⊢
  obtain ⟨b, hb⟩ : ∃ b, b = isLt c := ⟨_, rfl⟩
  rw [← hb] at hS ⊢
  clear hb hn
  by_cases h1 : 97 ≤ n
  · have HB : Hid (b = decide ((n : Int) ≤ 122)) := Lib.hid (by
      rw [hS, decide_eq_true h1, Bool.true_and, Bool.eq_iff_iff, decide_eq_true_iff, decide_eq_true_iff]
      omega)
    clear hS
    go_enter Tryd.func32, Tryd.ntmps32
    go_wp2_with fail
    go_ret
    exact ⟨by rw [HB.out]; rfl, rfl⟩
  · have HB : Hid (b = false) := Lib.hid (by rw [hS]; simp [h1])
    clear hS
    go_enter Tryd.func32, Tryd.ntmps32
    go_wp2_with fail
    go_ret
    exact ⟨by rw [HB.out]; rfl, rfl⟩

set_option maxHeartbeats 1000000 in
theorem isLd_any (c : UInt8) (w : World) : Calls Tryd.prog 33 #[.int .u8 (c.toNat : Int)] w fun e w' => e = .returned (.bool (isLd c)) ∧ w' = w := by
  have A0 := Lib.hid (isLetter_any c)
  have A1 := Lib.hid (isDigit_any c)
  have hL : isLd c = (isLt c || isDg c) := rfl
  obtain ⟨x, hx⟩ : ∃ x : Int, x = (c.toNat : Int) := ⟨_, rfl⟩
  obtain ⟨b, hb⟩ : ∃ b, b = isLt c := ⟨_, rfl⟩
  obtain ⟨d, hd⟩ : ∃ d, d = isDg c := ⟨_, rfl⟩
  rw [← hb, ← hd] at hL
  rw [hL]
  rw [← hx, ← hb] at A0
  rw [← hx, ← hd] at A1
  rw [← hx]
  clear hL hb hd hx
  go_enter Tryd.func33, Tryd.ntmps33
  go_wp2_with fail
  refine (A0.out _).mono ?_
  rintro e w1 ⟨rfl, rfl⟩
  cases b
  · go_wp2_with fail
    refine (A1.out _).mono ?_
    rintro e w2 ⟨rfl, rfl⟩
    go_wp2_with fail
    go_ret
    exact ⟨rfl, rfl⟩
  · go_wp2_with fail
    go_ret
    exact ⟨rfl, rfl⟩

set_option maxHeartbeats 2000000 in
theorem run_isBlank (S : ByteArray) (hs : S.size ≤ 4194304) (w : World) : Calls Tryd.prog 25 #[.string S, .func (.func 26) #[] #[]] w fun e w' => e = .returned (.int .i64 ((pre isBl S.data.toList : Nat) : Int)) ∧ w' = w := by
  obtain ⟨l, hl⟩ : ∃ l, l = S.data.toList := ⟨_, rfl⟩
  have hll : l.length = S.size := by rw [hl]; simp
  have HL := Lib.hid hl
  have HLL := Lib.hid hll
  rw [← hl]
  clear hl hll
  have FIN : Hid (∀ n, n ≤ S.size → (∀ c ∈ l.take n, isBl c = true) → (∀ h : n < S.size, isBl (S[n]'h) = false) → pre isBl l = n) := Lib.hid fun n hn ha hb => pre_loop ha (by rw [HLL.out]; exact hn) fun c r hc => by
    have hlt : n < l.length := by
      have := congrArg List.length hc
      simp at this
      omega
    have h2 : n < S.size := by rw [← HLL.out]; exact hlt
    rw [List.drop_eq_getElem_cons hlt] at hc
    injection hc with hc _
    rw [← hc]
    have : l[n] = S[n]'h2 := by simp only [HL.out]; rfl
    rw [this]
    exact hb h2
  have NXT : Hid (∀ n (h : n < S.size), (∀ c ∈ l.take n, isBl c = true) → isBl (S[n]'h) = true → ∀ c ∈ l.take (n + 1), isBl c = true) := Lib.hid fun n h ha hb c hc => by
    have hlt : n < l.length := by rw [HLL.out]; exact h
    rw [List.take_succ_eq_append_getElem hlt] at hc
    rcases List.mem_append.1 hc with hc | hc
    · exact ha c hc
    · simp at hc
      have : l[n] = S[n]'h := by simp only [HL.out]; rfl
      rw [hc, this]
      exact hb
  obtain ⟨L, hL⟩ : ∃ L, L = pre isBl l := ⟨_, rfl⟩
  have HLN := Lib.hid hL
  rw [← hL]
  clear hL HL HLL
  go_enter Tryd.func25, Tryd.ntmps25
  go_wp2_with fail
  obtain ⟨wo, rfl⟩ : ∃ wo : World, wo = w := ⟨_, rfl⟩
  go_loopw [5] (fun v5 wr => ∃ n : Nat, n ≤ S.size ∧ v5 = .int .i64 (n : Int) ∧ (∀ c ∈ l.take n, isBl c = true) ∧ wr = wo) (fun v _ => S.size - (intOf v).toNat)
  case atStart => exact ⟨0, Nat.zero_le _, rfl, by simp, rfl⟩
  case round =>
    obtain ⟨n, hn, rfl, ha, rfl⟩ := hrel
    have HA := Lib.hid ha
    clear ha
    by_cases hlt : n < S.size
    · obtain ⟨c, hc⟩ : ∃ c, c = S[n]'hlt := ⟨_, rfl⟩
      have HC := Lib.hid hc
      have A0 := Lib.hid (isBlank_any c wr)
      obtain ⟨b, hb⟩ : ∃ b, b = isBl c := ⟨_, rfl⟩
      have HB := Lib.hid hb
      rw [← hb] at A0
      rw [hc] at A0
      clear hc hb
      go_wp2_with fail
      refine A0.out.mono ?_
      rintro e w1 ⟨rfl, rfl⟩
      cases b
      · have HV := Lib.hid (FIN.out n (by omega) HA.out (fun h => by rw [← HC.out, ← HB.out]))
        go_wp2_with fail
        go_ret
        exact ⟨by rw [HLN.out, HV.out]; rfl, rfl⟩
      · have HN := Lib.hid (NXT.out n hlt HA.out (by rw [← HC.out, ← HB.out]))
        go_wp2_with fail
        go_roundw
        case rel => exact ⟨n + 1, by omega, by go_num, HN.out, trivial⟩
        case measure => simp [intOf]; omega
    · have HV := Lib.hid (FIN.out n hn HA.out (fun h => absurd h hlt))
      go_wp2_with fail
      go_ret
      exact ⟨by rw [HLN.out, HV.out]; rfl, rfl⟩

set_option maxHeartbeats 2000000 in
theorem run_isDigit (S : ByteArray) (hs : S.size ≤ 4194304) (w : World) : Calls Tryd.prog 25 #[.string S, .func (.func 31) #[] #[]] w fun e w' => e = .returned (.int .i64 ((pre isDg S.data.toList : Nat) : Int)) ∧ w' = w := by
  obtain ⟨l, hl⟩ : ∃ l, l = S.data.toList := ⟨_, rfl⟩
  have hll : l.length = S.size := by rw [hl]; simp
  have HL := Lib.hid hl
  have HLL := Lib.hid hll
  rw [← hl]
  clear hl hll
  have FIN : Hid (∀ n, n ≤ S.size → (∀ c ∈ l.take n, isDg c = true) → (∀ h : n < S.size, isDg (S[n]'h) = false) → pre isDg l = n) := Lib.hid fun n hn ha hb => pre_loop ha (by rw [HLL.out]; exact hn) fun c r hc => by
    have hlt : n < l.length := by
      have := congrArg List.length hc
      simp at this
      omega
    have h2 : n < S.size := by rw [← HLL.out]; exact hlt
    rw [List.drop_eq_getElem_cons hlt] at hc
    injection hc with hc _
    rw [← hc]
    have : l[n] = S[n]'h2 := by simp only [HL.out]; rfl
    rw [this]
    exact hb h2
  have NXT : Hid (∀ n (h : n < S.size), (∀ c ∈ l.take n, isDg c = true) → isDg (S[n]'h) = true → ∀ c ∈ l.take (n + 1), isDg c = true) := Lib.hid fun n h ha hb c hc => by
    have hlt : n < l.length := by rw [HLL.out]; exact h
    rw [List.take_succ_eq_append_getElem hlt] at hc
    rcases List.mem_append.1 hc with hc | hc
    · exact ha c hc
    · simp at hc
      have : l[n] = S[n]'h := by simp only [HL.out]; rfl
      rw [hc, this]
      exact hb
  obtain ⟨L, hL⟩ : ∃ L, L = pre isDg l := ⟨_, rfl⟩
  have HLN := Lib.hid hL
  rw [← hL]
  clear hL HL HLL
  go_enter Tryd.func25, Tryd.ntmps25
  go_wp2_with fail
  obtain ⟨wo, rfl⟩ : ∃ wo : World, wo = w := ⟨_, rfl⟩
  go_loopw [5] (fun v5 wr => ∃ n : Nat, n ≤ S.size ∧ v5 = .int .i64 (n : Int) ∧ (∀ c ∈ l.take n, isDg c = true) ∧ wr = wo) (fun v _ => S.size - (intOf v).toNat)
  case atStart => exact ⟨0, Nat.zero_le _, rfl, by simp, rfl⟩
  case round =>
    obtain ⟨n, hn, rfl, ha, rfl⟩ := hrel
    have HA := Lib.hid ha
    clear ha
    by_cases hlt : n < S.size
    · obtain ⟨c, hc⟩ : ∃ c, c = S[n]'hlt := ⟨_, rfl⟩
      have HC := Lib.hid hc
      have A0 := Lib.hid (isDigit_any c wr)
      obtain ⟨b, hb⟩ : ∃ b, b = isDg c := ⟨_, rfl⟩
      have HB := Lib.hid hb
      rw [← hb] at A0
      rw [hc] at A0
      clear hc hb
      go_wp2_with fail
      refine A0.out.mono ?_
      rintro e w1 ⟨rfl, rfl⟩
      cases b
      · have HV := Lib.hid (FIN.out n (by omega) HA.out (fun h => by rw [← HC.out, ← HB.out]))
        go_wp2_with fail
        go_ret
        exact ⟨by rw [HLN.out, HV.out]; rfl, rfl⟩
      · have HN := Lib.hid (NXT.out n hlt HA.out (by rw [← HC.out, ← HB.out]))
        go_wp2_with fail
        go_roundw
        case rel => exact ⟨n + 1, by omega, by go_num, HN.out, trivial⟩
        case measure => simp [intOf]; omega
    · have HV := Lib.hid (FIN.out n hn HA.out (fun h => absurd h hlt))
      go_wp2_with fail
      go_ret
      exact ⟨by rw [HLN.out, HV.out]; rfl, rfl⟩

set_option maxHeartbeats 2000000 in
theorem run_isLetter (S : ByteArray) (hs : S.size ≤ 4194304) (w : World) : Calls Tryd.prog 25 #[.string S, .func (.func 32) #[] #[]] w fun e w' => e = .returned (.int .i64 ((pre isLt S.data.toList : Nat) : Int)) ∧ w' = w := by
  obtain ⟨l, hl⟩ : ∃ l, l = S.data.toList := ⟨_, rfl⟩
  have hll : l.length = S.size := by rw [hl]; simp
  have HL := Lib.hid hl
  have HLL := Lib.hid hll
  rw [← hl]
  clear hl hll
  have FIN : Hid (∀ n, n ≤ S.size → (∀ c ∈ l.take n, isLt c = true) → (∀ h : n < S.size, isLt (S[n]'h) = false) → pre isLt l = n) := Lib.hid fun n hn ha hb => pre_loop ha (by rw [HLL.out]; exact hn) fun c r hc => by
    have hlt : n < l.length := by
      have := congrArg List.length hc
      simp at this
      omega
    have h2 : n < S.size := by rw [← HLL.out]; exact hlt
    rw [List.drop_eq_getElem_cons hlt] at hc
    injection hc with hc _
    rw [← hc]
    have : l[n] = S[n]'h2 := by simp only [HL.out]; rfl
    rw [this]
    exact hb h2
  have NXT : Hid (∀ n (h : n < S.size), (∀ c ∈ l.take n, isLt c = true) → isLt (S[n]'h) = true → ∀ c ∈ l.take (n + 1), isLt c = true) := Lib.hid fun n h ha hb c hc => by
    have hlt : n < l.length := by rw [HLL.out]; exact h
    rw [List.take_succ_eq_append_getElem hlt] at hc
    rcases List.mem_append.1 hc with hc | hc
    · exact ha c hc
    · simp at hc
      have : l[n] = S[n]'h := by simp only [HL.out]; rfl
      rw [hc, this]
      exact hb
  obtain ⟨L, hL⟩ : ∃ L, L = pre isLt l := ⟨_, rfl⟩
  have HLN := Lib.hid hL
  rw [← hL]
  clear hL HL HLL
  go_enter Tryd.func25, Tryd.ntmps25
  go_wp2_with fail
  obtain ⟨wo, rfl⟩ : ∃ wo : World, wo = w := ⟨_, rfl⟩
  go_loopw [5] (fun v5 wr => ∃ n : Nat, n ≤ S.size ∧ v5 = .int .i64 (n : Int) ∧ (∀ c ∈ l.take n, isLt c = true) ∧ wr = wo) (fun v _ => S.size - (intOf v).toNat)
  case atStart => exact ⟨0, Nat.zero_le _, rfl, by simp, rfl⟩
  case round =>
    obtain ⟨n, hn, rfl, ha, rfl⟩ := hrel
    have HA := Lib.hid ha
    clear ha
    by_cases hlt : n < S.size
    · obtain ⟨c, hc⟩ : ∃ c, c = S[n]'hlt := ⟨_, rfl⟩
      have HC := Lib.hid hc
      have A0 := Lib.hid (isLetter_any c wr)
      obtain ⟨b, hb⟩ : ∃ b, b = isLt c := ⟨_, rfl⟩
      have HB := Lib.hid hb
      rw [← hb] at A0
      rw [hc] at A0
      clear hc hb
      go_wp2_with fail
      refine A0.out.mono ?_
      rintro e w1 ⟨rfl, rfl⟩
      cases b
      · have HV := Lib.hid (FIN.out n (by omega) HA.out (fun h => by rw [← HC.out, ← HB.out]))
        go_wp2_with fail
        go_ret
        exact ⟨by rw [HLN.out, HV.out]; rfl, rfl⟩
      · have HN := Lib.hid (NXT.out n hlt HA.out (by rw [← HC.out, ← HB.out]))
        go_wp2_with fail
        go_roundw
        case rel => exact ⟨n + 1, by omega, by go_num, HN.out, trivial⟩
        case measure => simp [intOf]; omega
    · have HV := Lib.hid (FIN.out n hn HA.out (fun h => absurd h hlt))
      go_wp2_with fail
      go_ret
      exact ⟨by rw [HLN.out, HV.out]; rfl, rfl⟩

set_option maxHeartbeats 2000000 in
theorem run_isLd (S : ByteArray) (hs : S.size ≤ 4194304) (w : World) : Calls Tryd.prog 25 #[.string S, .func (.func 33) #[] #[]] w fun e w' => e = .returned (.int .i64 ((pre isLd S.data.toList : Nat) : Int)) ∧ w' = w := by
  obtain ⟨l, hl⟩ : ∃ l, l = S.data.toList := ⟨_, rfl⟩
  have hll : l.length = S.size := by rw [hl]; simp
  have HL := Lib.hid hl
  have HLL := Lib.hid hll
  rw [← hl]
  clear hl hll
  have FIN : Hid (∀ n, n ≤ S.size → (∀ c ∈ l.take n, isLd c = true) → (∀ h : n < S.size, isLd (S[n]'h) = false) → pre isLd l = n) := Lib.hid fun n hn ha hb => pre_loop ha (by rw [HLL.out]; exact hn) fun c r hc => by
    have hlt : n < l.length := by
      have := congrArg List.length hc
      simp at this
      omega
    have h2 : n < S.size := by rw [← HLL.out]; exact hlt
    rw [List.drop_eq_getElem_cons hlt] at hc
    injection hc with hc _
    rw [← hc]
    have : l[n] = S[n]'h2 := by simp only [HL.out]; rfl
    rw [this]
    exact hb h2
  have NXT : Hid (∀ n (h : n < S.size), (∀ c ∈ l.take n, isLd c = true) → isLd (S[n]'h) = true → ∀ c ∈ l.take (n + 1), isLd c = true) := Lib.hid fun n h ha hb c hc => by
    have hlt : n < l.length := by rw [HLL.out]; exact h
    rw [List.take_succ_eq_append_getElem hlt] at hc
    rcases List.mem_append.1 hc with hc | hc
    · exact ha c hc
    · simp at hc
      have : l[n] = S[n]'h := by simp only [HL.out]; rfl
      rw [hc, this]
      exact hb
  obtain ⟨L, hL⟩ : ∃ L, L = pre isLd l := ⟨_, rfl⟩
  have HLN := Lib.hid hL
  rw [← hL]
  clear hL HL HLL
  go_enter Tryd.func25, Tryd.ntmps25
  go_wp2_with fail
  obtain ⟨wo, rfl⟩ : ∃ wo : World, wo = w := ⟨_, rfl⟩
  go_loopw [5] (fun v5 wr => ∃ n : Nat, n ≤ S.size ∧ v5 = .int .i64 (n : Int) ∧ (∀ c ∈ l.take n, isLd c = true) ∧ wr = wo) (fun v _ => S.size - (intOf v).toNat)
  case atStart => exact ⟨0, Nat.zero_le _, rfl, by simp, rfl⟩
  case round =>
    obtain ⟨n, hn, rfl, ha, rfl⟩ := hrel
    have HA := Lib.hid ha
    clear ha
    by_cases hlt : n < S.size
    · obtain ⟨c, hc⟩ : ∃ c, c = S[n]'hlt := ⟨_, rfl⟩
      have HC := Lib.hid hc
      have A0 := Lib.hid (isLd_any c wr)
      obtain ⟨b, hb⟩ : ∃ b, b = isLd c := ⟨_, rfl⟩
      have HB := Lib.hid hb
      rw [← hb] at A0
      rw [hc] at A0
      clear hc hb
      go_wp2_with fail
      refine A0.out.mono ?_
      rintro e w1 ⟨rfl, rfl⟩
      cases b
      · have HV := Lib.hid (FIN.out n (by omega) HA.out (fun h => by rw [← HC.out, ← HB.out]))
        go_wp2_with fail
        go_ret
        exact ⟨by rw [HLN.out, HV.out]; rfl, rfl⟩
      · have HN := Lib.hid (NXT.out n hlt HA.out (by rw [← HC.out, ← HB.out]))
        go_wp2_with fail
        go_roundw
        case rel => exact ⟨n + 1, by omega, by go_num, HN.out, trivial⟩
        case measure => simp [intOf]; omega
    · have HV := Lib.hid (FIN.out n hn HA.out (fun h => absurd h hlt))
      go_wp2_with fail
      go_ret
      exact ⟨by rw [HLN.out, HV.out]; rfl, rfl⟩
end Go.Proofs.YtfekcbkafiiieaaDoor
