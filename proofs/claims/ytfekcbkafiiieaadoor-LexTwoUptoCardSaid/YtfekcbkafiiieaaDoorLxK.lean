/-
  The law LexBlanks.
-/
import Derived.Test.YtfekcbkafiiieaaDoorLxB
namespace Go.Proofs.YtfekcbkafiiieaaDoor
open Go.RowKit
set_option maxRecDepth 100000

theorem sl_to (s : ByteArray) (k : Nat) (h : k ≤ s.size) (W : World) : (Instr.slice 9 (.string s) none (some (.int .i64 (k : Int))) none).run Tryd.prog W = .ok (.string (bts (s.data.toList.take k))) W := by
  rw [run_slice_string_h W 9 s Tryd.underlying9 .i64 (k : Int) (by omega) (by omega)]
  have : s.extract 0 ((k : Int)).toNat = bts (s.data.toList.take k) := by
    apply bts_of
    rw [extract_list]
    simp
  rw [this]
theorem sl_from (s : ByteArray) (k : Nat) (h : k ≤ s.size) (W : World) : (Instr.slice 9 (.string s) (some (.int .i64 (k : Int))) none none).run Tryd.prog W = .ok (.string (bts (s.data.toList.drop k))) W := by
  rw [run_slice_string_l W 9 s Tryd.underlying9 .i64 (k : Int) (by omega) (by omega)]
  have : s.extract ((k : Int)).toNat s.size = bts (s.data.toList.drop k) := by
    apply bts_of
    rw [extract_list, List.take_of_length_le (by simp)]
    simp
  rw [this]
theorem add_b (a b : List UInt8) (h : a.length + b.length ≤ 9223372036854775807) (W : World) : (Op.stringOp .add (bts a) (bts b)).run Tryd.prog W = .ok (.string (bts (a ++ b))) W := by
  rw [sum_add _ _ (by rw [bts_size, bts_size]; exact h) W, bts_app]

set_option maxHeartbeats 4000000 in
theorem lexblanks_any (s : ByteArray) (k : Int) (hk : -9223372036854775808 ≤ k ∧ k ≤ 9223372036854775807) (hs : s.size ≤ 1048576) (w : World) (hx : LxW w) : Calls Tryd.prog 7 #[.string s, .int .i64 k] w fun e w' => e = .returned (.bool true) ∧ Below w.heap.size w w' := by
  have A0 := alive10_any w hx
  have HX := Lib.hid hx
  obtain ⟨l, hl⟩ : ∃ l, l = s.data.toList := ⟨_, rfl⟩
  have HSL : Hid (l.length = s.size) := Lib.hid (by rw [hl]; simp)
  have HL := Lib.hid hl
  have hsb : s = bts l := by rw [hl]; exact bts_of rfl
  have HSB := Lib.hid hsb
  clear hx hl hsb
  have hcases : k < 0 ∨ (0 ≤ k ∧ (s.size : Int) ≤ k) ∨ (∃ q : Nat, ∃ h : q < s.size, k = (q : Int) ∧ (s[q]'h ≠ 32 ∨ (s[q]'h = 32 ∧ q = 0) ∨ (s[q]'h = 32 ∧ 0 < q))) := by
    rcases (show k < 0 ∨ (0 ≤ k ∧ (s.size : Int) ≤ k) ∨ (0 ≤ k ∧ k < (s.size : Int)) by omega) with h | h | h
    · exact .inl h
    · exact .inr (.inl h)
    · refine .inr (.inr ⟨k.toNat, by omega, by omega, ?_⟩)
      by_cases e : s[k.toNat]'(by omega) = 32
      · rcases Nat.eq_zero_or_pos k.toNat with h0 | h0
        · exact .inr (.inl ⟨e, h0⟩)
        · exact .inr (.inr ⟨e, h0⟩)
      · exact .inl e
  go_enter Tryd.func7, Tryd.ntmps7
  go_wp2_with fail
  refine A0.mono ?_
  rintro e w1 ⟨rfl, hb1⟩
  have HB1 := Lib.hid hb1
  clear hb1 A0
  rcases hcases with h | ⟨h, h'⟩ | ⟨q, hqs, rfl, hc⟩
  · have g1 : ∀ W, (Instr.slice 9 (.string s) none (some (.int .i64 (0 : Int))) none).run Tryd.prog W = .ok (.string (bts (l.take 0))) W := fun W => by rw [HL.out]; exact sl_to s 0 (by omega) W
    have g2 : ∀ W, (Instr.slice 9 (.string s) (some (.int .i64 (0 : Int))) none none).run Tryd.prog W = .ok (.string (bts (l.drop 0))) W := fun W => by rw [HL.out]; exact sl_from s 0 (by omega) W
    have lP : (l.take 0).length ≤ 1048576 := by rw [List.length_take, HSL.out]; omega
    have lR : (l.take 0).length + (l.drop 0).length ≤ 1048576 := by rw [List.length_take, List.length_drop, HSL.out]; omega
    obtain ⟨P, hP⟩ : ∃ P, P = (l.take 0) := ⟨_, rfl⟩
    obtain ⟨R, hR⟩ : ∃ R, R = (l.drop 0) := ⟨_, rfl⟩
    rw [← hP] at g1 lP lR
    rw [← hR] at g2 lR
    have a1 : ∀ W, (Op.stringOp .add (ByteArray.mk #[9]) (bts P)).run Tryd.prog W = .ok (.string (bts ([9] ++ P))) W := fun W => add_b [9] P (by simp; omega) W
    have a2 : ∀ W, (Op.stringOp .add (bts ([9] ++ P)) (ByteArray.mk #[10, 32])).run Tryd.prog W = .ok (.string (bts (([9] ++ P) ++ [10, 32]))) W := fun W => add_b ([9] ++ P) [10, 32] (by simp; omega) W
    have a3 : ∀ W, (Op.stringOp .add (bts (([9] ++ P) ++ [10, 32])) (bts R)).run Tryd.prog W = .ok (.string (bts ((([9] ++ P) ++ [10, 32]) ++ R))) W := fun W => add_b (([9] ++ P) ++ [10, 32]) R (by simp; omega) W
    have a4 : ∀ W, (Op.stringOp .add (bts ((([9] ++ P) ++ [10, 32]) ++ R)) (ByteArray.mk #[32])).run Tryd.prog W = .ok (.string (bts (((([9] ++ P) ++ [10, 32]) ++ R) ++ [32]))) W := fun W => add_b ((([9] ++ P) ++ [10, 32]) ++ R) [32] (by simp; omega) W
    obtain ⟨X1, hX1⟩ : ∃ X1, X1 = bts ([9] ++ P) := ⟨_, rfl⟩
    obtain ⟨X2, hX2⟩ : ∃ X2, X2 = bts (([9] ++ P) ++ [10, 32]) := ⟨_, rfl⟩
    obtain ⟨X3, hX3⟩ : ∃ X3, X3 = bts ((([9] ++ P) ++ [10, 32]) ++ R) := ⟨_, rfl⟩
    obtain ⟨X4, hX4⟩ : ∃ X4, X4 = bts (((([9] ++ P) ++ [10, 32]) ++ R) ++ [32]) := ⟨_, rfl⟩
    rw [← hX1] at a1 a2
    rw [← hX2] at a2 a3
    rw [← hX3] at a3 a4
    rw [← hX4] at a4
    clear hX1 hX2 hX3
    have b1 : ∀ W, (Op.stringOp .add (ByteArray.mk #[32, 10]) s).run Tryd.prog W = .ok (.string (bts ([32, 10] ++ l))) W := fun W => by rw [HSB.out]; exact add_b [32, 10] l (by simp; have := HSL.out; omega) W
    have b2 : ∀ W, (Op.stringOp .add (bts ([32, 10] ++ l)) (ByteArray.mk #[9])).run Tryd.prog W = .ok (.string (bts (([32, 10] ++ l) ++ [9]))) W := fun W => add_b ([32, 10] ++ l) [9] (by simp; have := HSL.out; omega) W
    obtain ⟨Y1, hY1⟩ : ∃ Y1, Y1 = bts ([32, 10] ++ l) := ⟨_, rfl⟩
    rw [← hY1] at b1 b2
    clear hY1
    obtain ⟨tt, htt⟩ : ∃ tt, tt = bts (([32, 10] ++ l) ++ [9]) := ⟨_, rfl⟩
    rw [← htt] at b2
    clear hP hR hX4 lP lR
    go_wp2_with fail
    go_quiet (fail)
    have HTT : Hid (tt.data.toList.length ≤ 1048576 + 16 ∧ LrSame alk (lexd l) (lexd tt.data.toList)) := Lib.hid (by rw [htt, bts_list]; exact ⟨(by simp; have := HSL.out; omega), lexd_ends l (by decide) (by decide) (by decide)⟩)
    have httz : tt.size ≤ 4194304 := by have := HTT.out.1; simp at this; omega
    clear htt
    go_wp2_with fail
    refine (ltoks_any s (by omega) _ (HX.out.step (below_drewN' HB1.out nq))).mono ?_
    rw [← HL.out]
    rintro e w2 (⟨n, h1, rfl, h2⟩ | ⟨ts, v, h1, rfl, h2, h3⟩)
    · have H1 := Lib.hid (And.intro h1 ((below_drewN' HB1.out nq).trans (h2.mono (below_drewN' HB1.out nq).size)))
      clear h1 h2
      go_wp2_with fail
      refine (ltoks_any tt httz w2 (HX.out.step H1.out.2)).mono ?_
      rintro e w3 (⟨n', h1, rfl, h2⟩ | ⟨ts, v, h1, rfl, h2, h3⟩)
      · have H2 := Lib.hid (H1.out.2.trans (h2.mono H1.out.2.size))
        clear h1 h2
        go_wp2_with fail
        refine (alike_same none none 0 0 0 [] [] w3 rfl rfl (fun k hk => absurd hk (by omega)) (RdT.nil w3) (RdT.nil w3) (by omega)).mono ?_
        rintro e w4 ⟨rfl, hb4⟩
        have H3 := Lib.hid (H2.out.trans (hb4.mono H2.out.size))
        clear hb4
        go_wp2_with fail
        go_ret
        exact ⟨rfl, H3.out⟩
      · exfalso
        have h4 := HTT.out.2
        rw [H1.out.1, h1] at h4
        cases h4
    · obtain ⟨A1, c1, rfl, hr1⟩ := own_rdT h2 (by have := lexd_len h1; have := HSL.out; omega)
      have hb2 := (below_drewN' HB1.out nq).trans (h3.mono (below_drewN' HB1.out nq).size)
      have hln := lexd_len h1
      rw [HSL.out] at hln
      have H1 := Lib.hid (And.intro h1 (And.intro hb2 (And.intro hr1 hln)))
      clear h1 h2 h3 hr1 hb2 hln
      go_wp2_with fail
      refine (ltoks_any tt httz w2 (HX.out.step H1.out.2.1)).mono ?_
      rintro e w3 (⟨n', h1, rfl, h2⟩ | ⟨us, v, h1, rfl, h2, h3⟩)
      · exfalso
        have h4 := HTT.out.2
        rw [H1.out.1, h1] at h4
        cases h4
      · have ha : alk ts us := by
          have h4 := HTT.out.2
          rw [H1.out.1, h1] at h4
          cases h4 with
          | ok h => exact h
        have hlen : ts.length = us.length := by
          have := congrArg List.length (show ts.map Tk.nk = us.map Tk.nk from ha)
          simpa using this
        obtain ⟨A2, c2, rfl, hr2⟩ := own_rdT h2 (by rw [← hlen]; have := H1.out.2.2.2; omega)
        have H2 := Lib.hid (And.intro (H1.out.2.1.trans (h3.mono H1.out.2.1.size)) (And.intro (H1.out.2.2.1.step h3) (And.intro hr2 ha)))
        obtain ⟨q, hq⟩ : ∃ q, q = (rts ts).length := ⟨_, rfl⟩
        have hq2 : (rts us).length = q := by rw [hq, rts_len, rts_len, hlen]
        have HQ := Lib.hid (And.intro hq.symm hq2)
        rw [hq2, ← hq]
        clear h1 h2 h3 hr2 ha hlen hq hq2
        go_wp2_with fail
        refine (alike_same A1 A2 c1 c2 q (rts ts) (rts us) w3 HQ.out.1 HQ.out.2 (fun k _ => alk_at H2.out.2.2.2 k) H2.out.2.1 H2.out.2.2.1 (by rw [← HQ.out.1, rts_len]; have := H1.out.2.2.2; omega)).mono ?_
        rintro e w4 ⟨rfl, hb4⟩
        have H3 := Lib.hid (H2.out.1.trans (hb4.mono H2.out.1.size))
        clear hb4
        go_wp2_with fail
        go_ret
        exact ⟨rfl, H3.out⟩
  · have g1 : ∀ W, (Instr.slice 9 (.string s) none (some (.int .i64 (0 : Int))) none).run Tryd.prog W = .ok (.string (bts (l.take 0))) W := fun W => by rw [HL.out]; exact sl_to s 0 (by omega) W
    have g2 : ∀ W, (Instr.slice 9 (.string s) (some (.int .i64 (0 : Int))) none none).run Tryd.prog W = .ok (.string (bts (l.drop 0))) W := fun W => by rw [HL.out]; exact sl_from s 0 (by omega) W
    have lP : (l.take 0).length ≤ 1048576 := by rw [List.length_take, HSL.out]; omega
    have lR : (l.take 0).length + (l.drop 0).length ≤ 1048576 := by rw [List.length_take, List.length_drop, HSL.out]; omega
    obtain ⟨P, hP⟩ : ∃ P, P = (l.take 0) := ⟨_, rfl⟩
    obtain ⟨R, hR⟩ : ∃ R, R = (l.drop 0) := ⟨_, rfl⟩
    rw [← hP] at g1 lP lR
    rw [← hR] at g2 lR
    have a1 : ∀ W, (Op.stringOp .add (ByteArray.mk #[9]) (bts P)).run Tryd.prog W = .ok (.string (bts ([9] ++ P))) W := fun W => add_b [9] P (by simp; omega) W
    have a2 : ∀ W, (Op.stringOp .add (bts ([9] ++ P)) (ByteArray.mk #[10, 32])).run Tryd.prog W = .ok (.string (bts (([9] ++ P) ++ [10, 32]))) W := fun W => add_b ([9] ++ P) [10, 32] (by simp; omega) W
    have a3 : ∀ W, (Op.stringOp .add (bts (([9] ++ P) ++ [10, 32])) (bts R)).run Tryd.prog W = .ok (.string (bts ((([9] ++ P) ++ [10, 32]) ++ R))) W := fun W => add_b (([9] ++ P) ++ [10, 32]) R (by simp; omega) W
    have a4 : ∀ W, (Op.stringOp .add (bts ((([9] ++ P) ++ [10, 32]) ++ R)) (ByteArray.mk #[32])).run Tryd.prog W = .ok (.string (bts (((([9] ++ P) ++ [10, 32]) ++ R) ++ [32]))) W := fun W => add_b ((([9] ++ P) ++ [10, 32]) ++ R) [32] (by simp; omega) W
    obtain ⟨X1, hX1⟩ : ∃ X1, X1 = bts ([9] ++ P) := ⟨_, rfl⟩
    obtain ⟨X2, hX2⟩ : ∃ X2, X2 = bts (([9] ++ P) ++ [10, 32]) := ⟨_, rfl⟩
    obtain ⟨X3, hX3⟩ : ∃ X3, X3 = bts ((([9] ++ P) ++ [10, 32]) ++ R) := ⟨_, rfl⟩
    obtain ⟨X4, hX4⟩ : ∃ X4, X4 = bts (((([9] ++ P) ++ [10, 32]) ++ R) ++ [32]) := ⟨_, rfl⟩
    rw [← hX1] at a1 a2
    rw [← hX2] at a2 a3
    rw [← hX3] at a3 a4
    rw [← hX4] at a4
    clear hX1 hX2 hX3
    have b1 : ∀ W, (Op.stringOp .add (ByteArray.mk #[32, 10]) s).run Tryd.prog W = .ok (.string (bts ([32, 10] ++ l))) W := fun W => by rw [HSB.out]; exact add_b [32, 10] l (by simp; have := HSL.out; omega) W
    have b2 : ∀ W, (Op.stringOp .add (bts ([32, 10] ++ l)) (ByteArray.mk #[9])).run Tryd.prog W = .ok (.string (bts (([32, 10] ++ l) ++ [9]))) W := fun W => add_b ([32, 10] ++ l) [9] (by simp; have := HSL.out; omega) W
    obtain ⟨Y1, hY1⟩ : ∃ Y1, Y1 = bts ([32, 10] ++ l) := ⟨_, rfl⟩
    rw [← hY1] at b1 b2
    clear hY1
    obtain ⟨tt, htt⟩ : ∃ tt, tt = bts (([32, 10] ++ l) ++ [9]) := ⟨_, rfl⟩
    rw [← htt] at b2
    clear hP hR hX4 lP lR
    go_wp2_with fail
    go_quiet (fail)
    have HTT : Hid (tt.data.toList.length ≤ 1048576 + 16 ∧ LrSame alk (lexd l) (lexd tt.data.toList)) := Lib.hid (by rw [htt, bts_list]; exact ⟨(by simp; have := HSL.out; omega), lexd_ends l (by decide) (by decide) (by decide)⟩)
    have httz : tt.size ≤ 4194304 := by have := HTT.out.1; simp at this; omega
    clear htt
    go_wp2_with fail
    refine (ltoks_any s (by omega) _ (HX.out.step (below_drewN' HB1.out nq))).mono ?_
    rw [← HL.out]
    rintro e w2 (⟨n, h1, rfl, h2⟩ | ⟨ts, v, h1, rfl, h2, h3⟩)
    · have H1 := Lib.hid (And.intro h1 ((below_drewN' HB1.out nq).trans (h2.mono (below_drewN' HB1.out nq).size)))
      clear h1 h2
      go_wp2_with fail
      refine (ltoks_any tt httz w2 (HX.out.step H1.out.2)).mono ?_
      rintro e w3 (⟨n', h1, rfl, h2⟩ | ⟨ts, v, h1, rfl, h2, h3⟩)
      · have H2 := Lib.hid (H1.out.2.trans (h2.mono H1.out.2.size))
        clear h1 h2
        go_wp2_with fail
        refine (alike_same none none 0 0 0 [] [] w3 rfl rfl (fun k hk => absurd hk (by omega)) (RdT.nil w3) (RdT.nil w3) (by omega)).mono ?_
        rintro e w4 ⟨rfl, hb4⟩
        have H3 := Lib.hid (H2.out.trans (hb4.mono H2.out.size))
        clear hb4
        go_wp2_with fail
        go_ret
        exact ⟨rfl, H3.out⟩
      · exfalso
        have h4 := HTT.out.2
        rw [H1.out.1, h1] at h4
        cases h4
    · obtain ⟨A1, c1, rfl, hr1⟩ := own_rdT h2 (by have := lexd_len h1; have := HSL.out; omega)
      have hb2 := (below_drewN' HB1.out nq).trans (h3.mono (below_drewN' HB1.out nq).size)
      have hln := lexd_len h1
      rw [HSL.out] at hln
      have H1 := Lib.hid (And.intro h1 (And.intro hb2 (And.intro hr1 hln)))
      clear h1 h2 h3 hr1 hb2 hln
      go_wp2_with fail
      refine (ltoks_any tt httz w2 (HX.out.step H1.out.2.1)).mono ?_
      rintro e w3 (⟨n', h1, rfl, h2⟩ | ⟨us, v, h1, rfl, h2, h3⟩)
      · exfalso
        have h4 := HTT.out.2
        rw [H1.out.1, h1] at h4
        cases h4
      · have ha : alk ts us := by
          have h4 := HTT.out.2
          rw [H1.out.1, h1] at h4
          cases h4 with
          | ok h => exact h
        have hlen : ts.length = us.length := by
          have := congrArg List.length (show ts.map Tk.nk = us.map Tk.nk from ha)
          simpa using this
        obtain ⟨A2, c2, rfl, hr2⟩ := own_rdT h2 (by rw [← hlen]; have := H1.out.2.2.2; omega)
        have H2 := Lib.hid (And.intro (H1.out.2.1.trans (h3.mono H1.out.2.1.size)) (And.intro (H1.out.2.2.1.step h3) (And.intro hr2 ha)))
        obtain ⟨q, hq⟩ : ∃ q, q = (rts ts).length := ⟨_, rfl⟩
        have hq2 : (rts us).length = q := by rw [hq, rts_len, rts_len, hlen]
        have HQ := Lib.hid (And.intro hq.symm hq2)
        rw [hq2, ← hq]
        clear h1 h2 h3 hr2 ha hlen hq hq2
        go_wp2_with fail
        refine (alike_same A1 A2 c1 c2 q (rts ts) (rts us) w3 HQ.out.1 HQ.out.2 (fun k _ => alk_at H2.out.2.2.2 k) H2.out.2.1 H2.out.2.2.1 (by rw [← HQ.out.1, rts_len]; have := H1.out.2.2.2; omega)).mono ?_
        rintro e w4 ⟨rfl, hb4⟩
        have H3 := Lib.hid (H2.out.1.trans (hb4.mono H2.out.1.size))
        clear hb4
        go_wp2_with fail
        go_ret
        exact ⟨rfl, H3.out⟩
  · rcases hc with he | ⟨he, hq0⟩ | ⟨he, hq0⟩
    · have hf : (((s[q]'hqs).toNat : Int) != 32) = true := by
        rw [bne_iff_ne]
        have e32 : (32 : UInt8).toNat = 32 := rfl
        intro e
        exact he (UInt8.toNat_inj.1 (by omega))
      clear he
      have g1 : ∀ W, (Instr.slice 9 (.string s) none (some (.int .i64 (0 : Int))) none).run Tryd.prog W = .ok (.string (bts (l.take 0))) W := fun W => by rw [HL.out]; exact sl_to s 0 (by omega) W
      have g2 : ∀ W, (Instr.slice 9 (.string s) (some (.int .i64 (0 : Int))) none none).run Tryd.prog W = .ok (.string (bts (l.drop 0))) W := fun W => by rw [HL.out]; exact sl_from s 0 (by omega) W
      have lP : (l.take 0).length ≤ 1048576 := by rw [List.length_take, HSL.out]; omega
      have lR : (l.take 0).length + (l.drop 0).length ≤ 1048576 := by rw [List.length_take, List.length_drop, HSL.out]; omega
      obtain ⟨P, hP⟩ : ∃ P, P = (l.take 0) := ⟨_, rfl⟩
      obtain ⟨R, hR⟩ : ∃ R, R = (l.drop 0) := ⟨_, rfl⟩
      rw [← hP] at g1 lP lR
      rw [← hR] at g2 lR
      have a1 : ∀ W, (Op.stringOp .add (ByteArray.mk #[9]) (bts P)).run Tryd.prog W = .ok (.string (bts ([9] ++ P))) W := fun W => add_b [9] P (by simp; omega) W
      have a2 : ∀ W, (Op.stringOp .add (bts ([9] ++ P)) (ByteArray.mk #[10, 32])).run Tryd.prog W = .ok (.string (bts (([9] ++ P) ++ [10, 32]))) W := fun W => add_b ([9] ++ P) [10, 32] (by simp; omega) W
      have a3 : ∀ W, (Op.stringOp .add (bts (([9] ++ P) ++ [10, 32])) (bts R)).run Tryd.prog W = .ok (.string (bts ((([9] ++ P) ++ [10, 32]) ++ R))) W := fun W => add_b (([9] ++ P) ++ [10, 32]) R (by simp; omega) W
      have a4 : ∀ W, (Op.stringOp .add (bts ((([9] ++ P) ++ [10, 32]) ++ R)) (ByteArray.mk #[32])).run Tryd.prog W = .ok (.string (bts (((([9] ++ P) ++ [10, 32]) ++ R) ++ [32]))) W := fun W => add_b ((([9] ++ P) ++ [10, 32]) ++ R) [32] (by simp; omega) W
      obtain ⟨X1, hX1⟩ : ∃ X1, X1 = bts ([9] ++ P) := ⟨_, rfl⟩
      obtain ⟨X2, hX2⟩ : ∃ X2, X2 = bts (([9] ++ P) ++ [10, 32]) := ⟨_, rfl⟩
      obtain ⟨X3, hX3⟩ : ∃ X3, X3 = bts ((([9] ++ P) ++ [10, 32]) ++ R) := ⟨_, rfl⟩
      obtain ⟨X4, hX4⟩ : ∃ X4, X4 = bts (((([9] ++ P) ++ [10, 32]) ++ R) ++ [32]) := ⟨_, rfl⟩
      rw [← hX1] at a1 a2
      rw [← hX2] at a2 a3
      rw [← hX3] at a3 a4
      rw [← hX4] at a4
      clear hX1 hX2 hX3
      have b1 : ∀ W, (Op.stringOp .add (ByteArray.mk #[32, 10]) s).run Tryd.prog W = .ok (.string (bts ([32, 10] ++ l))) W := fun W => by rw [HSB.out]; exact add_b [32, 10] l (by simp; have := HSL.out; omega) W
      have b2 : ∀ W, (Op.stringOp .add (bts ([32, 10] ++ l)) (ByteArray.mk #[9])).run Tryd.prog W = .ok (.string (bts (([32, 10] ++ l) ++ [9]))) W := fun W => add_b ([32, 10] ++ l) [9] (by simp; have := HSL.out; omega) W
      obtain ⟨Y1, hY1⟩ : ∃ Y1, Y1 = bts ([32, 10] ++ l) := ⟨_, rfl⟩
      rw [← hY1] at b1 b2
      clear hY1
      obtain ⟨tt, htt⟩ : ∃ tt, tt = bts (([32, 10] ++ l) ++ [9]) := ⟨_, rfl⟩
      rw [← htt] at b2
      clear hP hR hX4 lP lR
      go_wp2_with fail
      go_quiet (fail)
      have HTT : Hid (tt.data.toList.length ≤ 1048576 + 16 ∧ LrSame alk (lexd l) (lexd tt.data.toList)) := Lib.hid (by rw [htt, bts_list]; exact ⟨(by simp; have := HSL.out; omega), lexd_ends l (by decide) (by decide) (by decide)⟩)
      have httz : tt.size ≤ 4194304 := by have := HTT.out.1; simp at this; omega
      clear htt
      go_wp2_with fail
      refine (ltoks_any s (by omega) _ (HX.out.step (below_drewN' HB1.out nq))).mono ?_
      rw [← HL.out]
      rintro e w2 (⟨n, h1, rfl, h2⟩ | ⟨ts, v, h1, rfl, h2, h3⟩)
      · have H1 := Lib.hid (And.intro h1 ((below_drewN' HB1.out nq).trans (h2.mono (below_drewN' HB1.out nq).size)))
        clear h1 h2
        go_wp2_with fail
        refine (ltoks_any tt httz w2 (HX.out.step H1.out.2)).mono ?_
        rintro e w3 (⟨n', h1, rfl, h2⟩ | ⟨ts, v, h1, rfl, h2, h3⟩)
        · have H2 := Lib.hid (H1.out.2.trans (h2.mono H1.out.2.size))
          clear h1 h2
          go_wp2_with fail
          refine (alike_same none none 0 0 0 [] [] w3 rfl rfl (fun k hk => absurd hk (by omega)) (RdT.nil w3) (RdT.nil w3) (by omega)).mono ?_
          rintro e w4 ⟨rfl, hb4⟩
          have H3 := Lib.hid (H2.out.trans (hb4.mono H2.out.size))
          clear hb4
          go_wp2_with fail
          go_ret
          exact ⟨rfl, H3.out⟩
        · exfalso
          have h4 := HTT.out.2
          rw [H1.out.1, h1] at h4
          cases h4
      · obtain ⟨A1, c1, rfl, hr1⟩ := own_rdT h2 (by have := lexd_len h1; have := HSL.out; omega)
        have hb2 := (below_drewN' HB1.out nq).trans (h3.mono (below_drewN' HB1.out nq).size)
        have hln := lexd_len h1
        rw [HSL.out] at hln
        have H1 := Lib.hid (And.intro h1 (And.intro hb2 (And.intro hr1 hln)))
        clear h1 h2 h3 hr1 hb2 hln
        go_wp2_with fail
        refine (ltoks_any tt httz w2 (HX.out.step H1.out.2.1)).mono ?_
        rintro e w3 (⟨n', h1, rfl, h2⟩ | ⟨us, v, h1, rfl, h2, h3⟩)
        · exfalso
          have h4 := HTT.out.2
          rw [H1.out.1, h1] at h4
          cases h4
        · have ha : alk ts us := by
            have h4 := HTT.out.2
            rw [H1.out.1, h1] at h4
            cases h4 with
            | ok h => exact h
          have hlen : ts.length = us.length := by
            have := congrArg List.length (show ts.map Tk.nk = us.map Tk.nk from ha)
            simpa using this
          obtain ⟨A2, c2, rfl, hr2⟩ := own_rdT h2 (by rw [← hlen]; have := H1.out.2.2.2; omega)
          have H2 := Lib.hid (And.intro (H1.out.2.1.trans (h3.mono H1.out.2.1.size)) (And.intro (H1.out.2.2.1.step h3) (And.intro hr2 ha)))
          obtain ⟨q, hq⟩ : ∃ q, q = (rts ts).length := ⟨_, rfl⟩
          have hq2 : (rts us).length = q := by rw [hq, rts_len, rts_len, hlen]
          have HQ := Lib.hid (And.intro hq.symm hq2)
          rw [hq2, ← hq]
          clear h1 h2 h3 hr2 ha hlen hq hq2
          go_wp2_with fail
          refine (alike_same A1 A2 c1 c2 q (rts ts) (rts us) w3 HQ.out.1 HQ.out.2 (fun k _ => alk_at H2.out.2.2.2 k) H2.out.2.1 H2.out.2.2.1 (by rw [← HQ.out.1, rts_len]; have := H1.out.2.2.2; omega)).mono ?_
          rintro e w4 ⟨rfl, hb4⟩
          have H3 := Lib.hid (H2.out.1.trans (hb4.mono H2.out.1.size))
          clear hb4
          go_wp2_with fail
          go_ret
          exact ⟨rfl, H3.out⟩
    · have hf : (((s[q]'hqs).toNat : Int) != 32) = false := by rw [he]; rfl
      have n0 : ((q : Int) == 0) = true := by rw [beq_iff_eq]; omega
      have HQ0 := Lib.hid hq0
      clear he hq0
      have g1 : ∀ W, (Instr.slice 9 (.string s) none (some (.int .i64 (q : Int))) none).run Tryd.prog W = .ok (.string (bts (l.take q))) W := fun W => by rw [HL.out]; exact sl_to s q (by omega) W
      have g2 : ∀ W, (Instr.slice 9 (.string s) (some (.int .i64 (q : Int))) none none).run Tryd.prog W = .ok (.string (bts (l.drop q))) W := fun W => by rw [HL.out]; exact sl_from s q (by omega) W
      have lP : (l.take q).length ≤ 1048576 := by rw [List.length_take, HSL.out]; omega
      have lR : (l.take q).length + (l.drop q).length ≤ 1048576 := by rw [List.length_take, List.length_drop, HSL.out]; omega
      obtain ⟨P, hP⟩ : ∃ P, P = (l.take q) := ⟨_, rfl⟩
      obtain ⟨R, hR⟩ : ∃ R, R = (l.drop q) := ⟨_, rfl⟩
      rw [← hP] at g1 lP lR
      rw [← hR] at g2 lR
      have a1 : ∀ W, (Op.stringOp .add (ByteArray.mk #[9]) (bts P)).run Tryd.prog W = .ok (.string (bts ([9] ++ P))) W := fun W => add_b [9] P (by simp; omega) W
      have a2 : ∀ W, (Op.stringOp .add (bts ([9] ++ P)) (ByteArray.mk #[10, 32])).run Tryd.prog W = .ok (.string (bts (([9] ++ P) ++ [10, 32]))) W := fun W => add_b ([9] ++ P) [10, 32] (by simp; omega) W
      have a3 : ∀ W, (Op.stringOp .add (bts (([9] ++ P) ++ [10, 32])) (bts R)).run Tryd.prog W = .ok (.string (bts ((([9] ++ P) ++ [10, 32]) ++ R))) W := fun W => add_b (([9] ++ P) ++ [10, 32]) R (by simp; omega) W
      have a4 : ∀ W, (Op.stringOp .add (bts ((([9] ++ P) ++ [10, 32]) ++ R)) (ByteArray.mk #[32])).run Tryd.prog W = .ok (.string (bts (((([9] ++ P) ++ [10, 32]) ++ R) ++ [32]))) W := fun W => add_b ((([9] ++ P) ++ [10, 32]) ++ R) [32] (by simp; omega) W
      obtain ⟨X1, hX1⟩ : ∃ X1, X1 = bts ([9] ++ P) := ⟨_, rfl⟩
      obtain ⟨X2, hX2⟩ : ∃ X2, X2 = bts (([9] ++ P) ++ [10, 32]) := ⟨_, rfl⟩
      obtain ⟨X3, hX3⟩ : ∃ X3, X3 = bts ((([9] ++ P) ++ [10, 32]) ++ R) := ⟨_, rfl⟩
      obtain ⟨X4, hX4⟩ : ∃ X4, X4 = bts (((([9] ++ P) ++ [10, 32]) ++ R) ++ [32]) := ⟨_, rfl⟩
      rw [← hX1] at a1 a2
      rw [← hX2] at a2 a3
      rw [← hX3] at a3 a4
      rw [← hX4] at a4
      clear hX1 hX2 hX3
      have b1 : ∀ W, (Op.stringOp .add (ByteArray.mk #[32, 10]) s).run Tryd.prog W = .ok (.string (bts ([32, 10] ++ l))) W := fun W => by rw [HSB.out]; exact add_b [32, 10] l (by simp; have := HSL.out; omega) W
      have b2 : ∀ W, (Op.stringOp .add (bts ([32, 10] ++ l)) (ByteArray.mk #[9])).run Tryd.prog W = .ok (.string (bts (([32, 10] ++ l) ++ [9]))) W := fun W => add_b ([32, 10] ++ l) [9] (by simp; have := HSL.out; omega) W
      obtain ⟨Y1, hY1⟩ : ∃ Y1, Y1 = bts ([32, 10] ++ l) := ⟨_, rfl⟩
      rw [← hY1] at b1 b2
      clear hY1
      obtain ⟨tt, htt⟩ : ∃ tt, tt = bts (([32, 10] ++ l) ++ [9]) := ⟨_, rfl⟩
      rw [← htt] at b2
      clear hP hR hX4 lP lR
      go_wp2_with fail
      go_quiet (fail)
      have HTT : Hid (tt.data.toList.length ≤ 1048576 + 16 ∧ LrSame alk (lexd l) (lexd tt.data.toList)) := Lib.hid (by rw [htt, bts_list]; exact ⟨(by simp; have := HSL.out; omega), lexd_ends l (by decide) (by decide) (by decide)⟩)
      have httz : tt.size ≤ 4194304 := by have := HTT.out.1; simp at this; omega
      clear htt
      go_wp2_with fail
      refine (ltoks_any s (by omega) _ (HX.out.step (below_drewN' HB1.out nq))).mono ?_
      rw [← HL.out]
      rintro e w2 (⟨n, h1, rfl, h2⟩ | ⟨ts, v, h1, rfl, h2, h3⟩)
      · have H1 := Lib.hid (And.intro h1 ((below_drewN' HB1.out nq).trans (h2.mono (below_drewN' HB1.out nq).size)))
        clear h1 h2
        go_wp2_with fail
        refine (ltoks_any tt httz w2 (HX.out.step H1.out.2)).mono ?_
        rintro e w3 (⟨n', h1, rfl, h2⟩ | ⟨ts, v, h1, rfl, h2, h3⟩)
        · have H2 := Lib.hid (H1.out.2.trans (h2.mono H1.out.2.size))
          clear h1 h2
          go_wp2_with fail
          refine (alike_same none none 0 0 0 [] [] w3 rfl rfl (fun k hk => absurd hk (by omega)) (RdT.nil w3) (RdT.nil w3) (by omega)).mono ?_
          rintro e w4 ⟨rfl, hb4⟩
          have H3 := Lib.hid (H2.out.trans (hb4.mono H2.out.size))
          clear hb4
          go_wp2_with fail
          go_ret
          exact ⟨rfl, H3.out⟩
        · exfalso
          have h4 := HTT.out.2
          rw [H1.out.1, h1] at h4
          cases h4
      · obtain ⟨A1, c1, rfl, hr1⟩ := own_rdT h2 (by have := lexd_len h1; have := HSL.out; omega)
        have hb2 := (below_drewN' HB1.out nq).trans (h3.mono (below_drewN' HB1.out nq).size)
        have hln := lexd_len h1
        rw [HSL.out] at hln
        have H1 := Lib.hid (And.intro h1 (And.intro hb2 (And.intro hr1 hln)))
        clear h1 h2 h3 hr1 hb2 hln
        go_wp2_with fail
        refine (ltoks_any tt httz w2 (HX.out.step H1.out.2.1)).mono ?_
        rintro e w3 (⟨n', h1, rfl, h2⟩ | ⟨us, v, h1, rfl, h2, h3⟩)
        · exfalso
          have h4 := HTT.out.2
          rw [H1.out.1, h1] at h4
          cases h4
        · have ha : alk ts us := by
            have h4 := HTT.out.2
            rw [H1.out.1, h1] at h4
            cases h4 with
            | ok h => exact h
          have hlen : ts.length = us.length := by
            have := congrArg List.length (show ts.map Tk.nk = us.map Tk.nk from ha)
            simpa using this
          obtain ⟨A2, c2, rfl, hr2⟩ := own_rdT h2 (by rw [← hlen]; have := H1.out.2.2.2; omega)
          have H2 := Lib.hid (And.intro (H1.out.2.1.trans (h3.mono H1.out.2.1.size)) (And.intro (H1.out.2.2.1.step h3) (And.intro hr2 ha)))
          obtain ⟨q, hq⟩ : ∃ q, q = (rts ts).length := ⟨_, rfl⟩
          have hq2 : (rts us).length = q := by rw [hq, rts_len, rts_len, hlen]
          have HQ := Lib.hid (And.intro hq.symm hq2)
          rw [hq2, ← hq]
          clear h1 h2 h3 hr2 ha hlen hq hq2
          go_wp2_with fail
          refine (alike_same A1 A2 c1 c2 q (rts ts) (rts us) w3 HQ.out.1 HQ.out.2 (fun k _ => alk_at H2.out.2.2.2 k) H2.out.2.1 H2.out.2.2.1 (by rw [← HQ.out.1, rts_len]; have := H1.out.2.2.2; omega)).mono ?_
          rintro e w4 ⟨rfl, hb4⟩
          have H3 := Lib.hid (H2.out.1.trans (hb4.mono H2.out.1.size))
          clear hb4
          go_wp2_with fail
          go_ret
          exact ⟨rfl, H3.out⟩
    · have hf : (((s[q]'hqs).toNat : Int) != 32) = false := by rw [he]; rfl
      have n0 : ((q : Int) == 0) = false := by rw [beq_eq_false_iff_ne]; omega
      have g1 : ∀ W, (Instr.slice 9 (.string s) none (some (.int .i64 (q : Int))) none).run Tryd.prog W = .ok (.string (bts (l.take q))) W := fun W => by rw [HL.out]; exact sl_to s q (by omega) W
      have g2 : ∀ W, (Instr.slice 9 (.string s) (some (.int .i64 (q : Int))) none none).run Tryd.prog W = .ok (.string (bts (l.drop q))) W := fun W => by rw [HL.out]; exact sl_from s q (by omega) W
      have lP : (l.take q).length ≤ 1048576 := by rw [List.length_take, HSL.out]; omega
      have lR : (l.take q).length + (l.drop q).length ≤ 1048576 := by rw [List.length_take, List.length_drop, HSL.out]; omega
      obtain ⟨P, hP⟩ : ∃ P, P = (l.take q) := ⟨_, rfl⟩
      obtain ⟨R, hR⟩ : ∃ R, R = (l.drop q) := ⟨_, rfl⟩
      rw [← hP] at g1 lP lR
      rw [← hR] at g2 lR
      have a1 : ∀ W, (Op.stringOp .add (ByteArray.mk #[9]) (bts P)).run Tryd.prog W = .ok (.string (bts ([9] ++ P))) W := fun W => add_b [9] P (by simp; omega) W
      have a2 : ∀ W, (Op.stringOp .add (bts ([9] ++ P)) (ByteArray.mk #[10, 32])).run Tryd.prog W = .ok (.string (bts (([9] ++ P) ++ [10, 32]))) W := fun W => add_b ([9] ++ P) [10, 32] (by simp; omega) W
      have a3 : ∀ W, (Op.stringOp .add (bts (([9] ++ P) ++ [10, 32])) (bts R)).run Tryd.prog W = .ok (.string (bts ((([9] ++ P) ++ [10, 32]) ++ R))) W := fun W => add_b (([9] ++ P) ++ [10, 32]) R (by simp; omega) W
      have a4 : ∀ W, (Op.stringOp .add (bts ((([9] ++ P) ++ [10, 32]) ++ R)) (ByteArray.mk #[32])).run Tryd.prog W = .ok (.string (bts (((([9] ++ P) ++ [10, 32]) ++ R) ++ [32]))) W := fun W => add_b ((([9] ++ P) ++ [10, 32]) ++ R) [32] (by simp; omega) W
      obtain ⟨X1, hX1⟩ : ∃ X1, X1 = bts ([9] ++ P) := ⟨_, rfl⟩
      obtain ⟨X2, hX2⟩ : ∃ X2, X2 = bts (([9] ++ P) ++ [10, 32]) := ⟨_, rfl⟩
      obtain ⟨X3, hX3⟩ : ∃ X3, X3 = bts ((([9] ++ P) ++ [10, 32]) ++ R) := ⟨_, rfl⟩
      obtain ⟨X4, hX4⟩ : ∃ X4, X4 = bts (((([9] ++ P) ++ [10, 32]) ++ R) ++ [32]) := ⟨_, rfl⟩
      rw [← hX1] at a1 a2
      rw [← hX2] at a2 a3
      rw [← hX3] at a3 a4
      rw [← hX4] at a4
      clear hX1 hX2 hX3
      obtain ⟨tt, htt⟩ : ∃ tt, tt = X4 := ⟨_, rfl⟩
      rw [← htt] at a4 hX4
      have hlq : l = P ++ 32 :: l.drop (q + 1) ∧ R = 32 :: l.drop (q + 1) := by
        have hql : q < l.length := by rw [HSL.out]; exact hqs
        have e32 : l[q] = 32 := by rw [← he]; simp only [HL.out]; rfl
        have e1 : l.drop q = 32 :: l.drop (q + 1) := by rw [List.drop_eq_getElem_cons hql, e32]
        exact ⟨by rw [hP, ← e1, List.take_append_drop], by rw [hR, e1]⟩
      have HLQ := Lib.hid hlq
      have HLP := Lib.hid (And.intro lP lR)
      have HX4 := Lib.hid hX4
      clear hP hR hX4 lP lR htt hlq he
      go_wp2_with fail
      go_quiet (fail)
      have HTT : Hid (tt.data.toList.length ≤ 1048576 + 16 ∧ LrSame alk (lexd l) (lexd tt.data.toList)) := Lib.hid (by rw [HX4.out, bts_list]; refine ⟨(by simp; have := HLP.out; omega), ?_⟩; have h9 := lexd_blanks P (l.drop (q + 1)) (b1 := 9) (b2 := 10) (b3 := 32) (b4 := 32) (b := 32) (by decide) (by decide) (by decide) (by decide) (by decide); rw [← HLQ.out.1] at h9; rw [HLQ.out.2]; simpa using h9)
      have httz : tt.size ≤ 4194304 := by have := HTT.out.1; simp at this; omega
      go_wp2_with fail
      refine (ltoks_any s (by omega) _ (HX.out.step (below_drewN' HB1.out nq))).mono ?_
      rw [← HL.out]
      rintro e w2 (⟨n, h1, rfl, h2⟩ | ⟨ts, v, h1, rfl, h2, h3⟩)
      · have H1 := Lib.hid (And.intro h1 ((below_drewN' HB1.out nq).trans (h2.mono (below_drewN' HB1.out nq).size)))
        clear h1 h2
        go_wp2_with fail
        refine (ltoks_any tt httz w2 (HX.out.step H1.out.2)).mono ?_
        rintro e w3 (⟨n', h1, rfl, h2⟩ | ⟨ts, v, h1, rfl, h2, h3⟩)
        · have H2 := Lib.hid (H1.out.2.trans (h2.mono H1.out.2.size))
          clear h1 h2
          go_wp2_with fail
          refine (alike_same none none 0 0 0 [] [] w3 rfl rfl (fun k hk => absurd hk (by omega)) (RdT.nil w3) (RdT.nil w3) (by omega)).mono ?_
          rintro e w4 ⟨rfl, hb4⟩
          have H3 := Lib.hid (H2.out.trans (hb4.mono H2.out.size))
          clear hb4
          go_wp2_with fail
          go_ret
          exact ⟨rfl, H3.out⟩
        · exfalso
          have h4 := HTT.out.2
          rw [H1.out.1, h1] at h4
          cases h4
      · obtain ⟨A1, c1, rfl, hr1⟩ := own_rdT h2 (by have := lexd_len h1; have := HSL.out; omega)
        have hb2 := (below_drewN' HB1.out nq).trans (h3.mono (below_drewN' HB1.out nq).size)
        have hln := lexd_len h1
        rw [HSL.out] at hln
        have H1 := Lib.hid (And.intro h1 (And.intro hb2 (And.intro hr1 hln)))
        clear h1 h2 h3 hr1 hb2 hln
        go_wp2_with fail
        refine (ltoks_any tt httz w2 (HX.out.step H1.out.2.1)).mono ?_
        rintro e w3 (⟨n', h1, rfl, h2⟩ | ⟨us, v, h1, rfl, h2, h3⟩)
        · exfalso
          have h4 := HTT.out.2
          rw [H1.out.1, h1] at h4
          cases h4
        · have ha : alk ts us := by
            have h4 := HTT.out.2
            rw [H1.out.1, h1] at h4
            cases h4 with
            | ok h => exact h
          have hlen : ts.length = us.length := by
            have := congrArg List.length (show ts.map Tk.nk = us.map Tk.nk from ha)
            simpa using this
          obtain ⟨A2, c2, rfl, hr2⟩ := own_rdT h2 (by rw [← hlen]; have := H1.out.2.2.2; omega)
          have H2 := Lib.hid (And.intro (H1.out.2.1.trans (h3.mono H1.out.2.1.size)) (And.intro (H1.out.2.2.1.step h3) (And.intro hr2 ha)))
          obtain ⟨q, hq⟩ : ∃ q, q = (rts ts).length := ⟨_, rfl⟩
          have hq2 : (rts us).length = q := by rw [hq, rts_len, rts_len, hlen]
          have HQ := Lib.hid (And.intro hq.symm hq2)
          rw [hq2, ← hq]
          clear h1 h2 h3 hr2 ha hlen hq hq2
          go_wp2_with fail
          refine (alike_same A1 A2 c1 c2 q (rts ts) (rts us) w3 HQ.out.1 HQ.out.2 (fun k _ => alk_at H2.out.2.2.2 k) H2.out.2.1 H2.out.2.2.1 (by rw [← HQ.out.1, rts_len]; have := H1.out.2.2.2; omega)).mono ?_
          rintro e w4 ⟨rfl, hb4⟩
          have H3 := Lib.hid (H2.out.1.trans (hb4.mono H2.out.1.size))
          clear hb4
          go_wp2_with fail
          go_ret
          exact ⟨rfl, H3.out⟩
end Go.Proofs.YtfekcbkafiiieaaDoor
