/-
  The program's Tokens.
-/
import Derived.Test.YtfekcbkafiiieaaDoorLxSc
namespace Go.Proofs.YtfekcbkafiiieaaDoor
open Go.RowKit
set_option maxRecDepth 100000

theorem clone_any (S : ByteArray) (hs : S.size ≤ 4194304) (w : World) : Calls Tryd.prog 15 #[.string S] w fun e w' => e = .returned (.string S) ∧ Below w.heap.size w w' := by
  have A0 := Lib.hid (Tryd.stringslite_Clone S w (by omega))
  clear hs
  go_enter Tryd.func15, Tryd.ntmps15
  go_wp2_with fail
  refine A0.out.mono ?_
  rintro e w2 ⟨rfl, hb⟩
  have HB := Lib.hid hb
  clear hb
  go_wp2_with fail
  go_ret
  exact ⟨rfl, HB.out⟩
theorem scanner_any (S : ByteArray) (w : World) : Calls Tryd.prog 16 #[.string S] w fun e w' => ∃ ab sb, e = .returned (.func (.func 24) #[] #[.pointer (some ⟨ab, 0, none⟩), .pointer (some ⟨sb, 0, none⟩)]) ∧ ScB ab sb 0 S w' ∧ w.heap.size ≤ ab ∧ w.heap.size ≤ sb ∧ Below w.heap.size w w' := by
  have key : ∃ w1, w1 = (w.alloc (.cells #[.string S] 9)).alloc (.cells #[.int .i64 0] 3) ∧ Below w.heap.size w w1 ∧ w1.heap.size = w.heap.size + 2 ∧ w1.heap[w.heap.size]? = some (.cells #[.string S] 9 (0, 0)) ∧ w1.heap[w.heap.size + 1]? = some (.cells #[.int .i64 0] 3 (0, 0)) := by
    refine ⟨_, rfl, ((Below.refl _ _).alloc (Nat.le_refl _) _).alloc (by simp) _, by simp, ((World.grownBy_alloc _ _ none).block _ (by simp) (by simp)).trans (World.alloc_heap_new _ _), ?_⟩
    have := World.alloc_heap_new (w.alloc (.cells #[.string S] 9)) (.cells #[.int .i64 0] 3)
    simpa using this
  obtain ⟨w1, hw1, hb1, hs1, e0, e1⟩ := key
  have HW := Lib.hid hw1
  have P : Hid (ScB (w.heap.size + 1) w.heap.size 0 S w1) := Lib.hid ⟨e1, e0, by omega⟩
  have HB := Lib.hid hb1
  clear hw1 hb1 hs1 e0 e1
  go_enter Tryd.func16, Tryd.ntmps16
  go_wp2_with fail
  go_ret
  rw [← HW.out]
  exact ⟨_, _, rfl, P.out, by omega, Nat.le_refl _, HB.out⟩
theorem own_ne3 {w : World} {base n size b : Nat} {e T : TypeId} {v : Value} {xs : List Value} {cs : Array Value} {fr : Nat × Nat} (h : w.ownsRow base e size v n xs) (hb : w.heap[b]? = some (.cells cs T fr)) (hT : T ≠ e) : v.ownBlock ≠ some b := by
  rcases h.2 with ⟨rfl, _⟩ | ⟨g, cap, cur, rfl, _, hg, _⟩
  · simp [Value.ownBlock]
  · simp only [Value.ownBlock, ne_eq, Option.some.injEq]
    rintro rfl
    rw [hg] at hb
    injection hb with hb
    injection hb with _ h2 _
    exact hT h2.symm
theorem own_keep3 {w w' : World} {base e size n ab : Nat} {v : Value} {xs : List Value} (h : w.ownsRow base e size v n xs) (hk : Keeps (fun b => b ≠ ab) w w') (hn : v.ownBlock ≠ some ab) : w'.ownsRow base e size v n xs := by
  rcases h.2 with h0 | ⟨g, cap, cur, hv, hg, hh, hr⟩
  · exact ⟨h.1, .inl h0⟩
  · subst hv
    have hga : g ≠ ab := fun e => hn (by rw [e]; rfl)
    exact ⟨h.1, .inr ⟨g, cap, cur, rfl, hg, (hk.block g (Array.getElem?_eq_some_iff.1 hh).1 hga).trans hh, hr⟩⟩
def lenV : Value → Nat
  | .slice _ n _ => n
  | _ => 0
theorem empty_bts {l : List UInt8} : ((bts l).toList == []) = l.isEmpty := by
  rw [ByteArray.toList_eq]
  show (l.toArray.toList == []) = _
  cases l <;> rfl

set_option maxHeartbeats 8000000 in
theorem ltoks_any (s : ByteArray) (hs : s.size ≤ 4194304) (w : World) (hx : LxW w) : Calls Tryd.prog 8 #[.string s] w (ToksR s.data.toList w) := by
  obtain ⟨l, hl⟩ : ∃ l, l = s.data.toList := ⟨_, rfl⟩
  have hls : l.length = s.size := by rw [hl]; simp
  have HL := Lib.hid hl
  have HLS := Lib.hid hls
  have HX := Lib.hid hx
  rw [← hl]
  clear hl hls hx
  obtain ⟨i0, hi0, hz0, hz1, hz2⟩ := info_parts Tryd.infoTk
  go_enter Tryd.func8, Tryd.ntmps8
  go_wp2_with fail
  refine (clone_any s hs w).mono ?_
  rintro e w1 ⟨rfl, hb1⟩
  go_wp2_with fail
  refine (scanner_any s w1).mono ?_
  rintro e w2 ⟨ab, sb, rfl, hsc, hab, hsb, hb2⟩
  have hB2 := hb1.trans (hb2.mono hb1.size)
  have HAB : Hid (w.heap.size ≤ ab ∧ w.heap.size ≤ sb) := Lib.hid ⟨Nat.le_trans hb1.size hab, Nat.le_trans hb1.size hsb⟩
  clear hb1 hb2 hab hsb
  go_wp2_with fail
  go_loopw [5, 7] (fun v5 _ wr => ∃ (p : Nat) (out : List Tk), p ≤ s.size ∧ out.length ≤ p ∧ run (l.drop p) p ⟨out, none⟩ = lexd l ∧ ScB ab sb p s wr ∧ wr.ownsRow w.heap.size 28 3 v5 out.length (tVals out) ∧ Below w.heap.size w wr) (fun v5 _ _ => s.size - lenV v5)
  case atStart => exact ⟨0, [], Nat.zero_le _, Nat.le_refl _, by rw [List.drop_zero]; rfl, hsc, World.ownsRow_nil _ _ _ _, hB2⟩
  case round =>
    obtain ⟨p, out, hp, hol, hrun, hS, hown, hb⟩ := hrel
    obtain ⟨q, hq⟩ : ∃ q, q = p + pre isBl (s.data.toList.drop p) := ⟨_, rfl⟩
    obtain ⟨T, hT⟩ : ∃ T, T = tokAt (s.data.toList.drop q) := ⟨_, rfl⟩
    have A0 := Lib.hid (scan1_any ab sb p s hs hp wr hS q hq T hT)
    obtain ⟨A5, c5, rfl⟩ : ∃ A c, u5 = .slice A out.length c := by
      rcases hown.2 with ⟨rfl, h0⟩ | ⟨g, cap, cur, hv, _⟩
      · exact ⟨none, 0, by rw [h0]⟩
      · exact ⟨_, _, hv⟩
    have hrun2 : run (l.drop q) q ⟨out, none⟩ = lexd l := by
      rw [← hrun, run_bl out (l.drop p) p, List.drop_drop, HL.out, ← hq]
    have hql : q ≤ s.size := by
      have := pre_le isBl (s.data.toList.drop p)
      simp at this
      omega
    have hnb : ∀ c r, l.drop q = c :: r → isBl c = false := fun c r hc => by
      have := pre_stop isBl (l.drop p) (c := c) (r := r)
      rw [List.drop_drop, HL.out, ← hq, ← HL.out] at this
      exact this hc
    have hstep := run_tok out (l.drop q) q hnb
    rw [hrun2] at hstep
    rw [← HL.out] at hT A0
    rw [← hT] at hstep
    have hqp : p ≤ q := by omega
    have htl : T.2 ≤ s.size - q := by
      have := tokAt_le (l.drop q)
      rw [← hT, List.length_drop, HLS.out] at this
      exact this
    have hdig : T.1 = 1 → ∀ c ∈ (l.drop q).take T.2, 48 ≤ c.toNat ∧ c.toNat ≤ 57 := fun h1 c hc => by
      have hTd : T.2 = pre isDg (l.drop q) := by
        rw [hT] at h1 ⊢
        unfold tokAt at h1 ⊢
        split at h1
        · rename_i hd; rw [if_pos hd]
        · split at h1 <;> simp at h1
      rw [hTd] at hc
      have h3 := pre_all isDg _ c hc
      rw [(tests_spec c).2.1, Bool.and_eq_true, decide_eq_true_iff, decide_eq_true_iff] at h3
      exact h3
    have hkd : T.1 ≤ 3 := by
      rw [hT]
      unfold tokAt
      repeat' split
      all_goals (dsimp only; omega)
    have hka := own_ne3 hown hS.a (by decide)
    have hks := own_ne3 hown hS.s (by decide)
    obtain ⟨k, m⟩ := T
    dsimp only at A0 hstep htl hdig hkd
    obtain ⟨tx, htx⟩ : ∃ tx, tx = (l.drop q).take m := ⟨_, rfl⟩
    rw [← htx] at A0 hstep hdig
    have HSTEP := Lib.hid hstep
    have HDIG := Lib.hid hdig
    have HTX := Lib.hid htx
    have HOWN := Lib.hid hown
    have HB := Lib.hid hb
    have HKA := Lib.hid hka
    have HKS := Lib.hid hks
    clear hrun hrun2 hq hT hnb hstep hdig htx hown hb hS hka hks hp
    go_wp2_with fail
    refine A0.out.mono ?_
    rintro e w3 ⟨rfl, hs3, hk3⟩
    have hown3 := own_keep3 HOWN.out hk3 HKA.out
    have hB3 : Below w.heap.size w w3 := HB.out.trans (hk3.below HB.out.size fun j hj e => by have := HAB.out.1; omega)
    have hal := below_allocJ w3 (.cells #[.int .i64 (k : Int), .int .i64 (q : Int), .string (bts tx)] 28)
    have hT4 := TkB.new w3 (k : Int) (q : Int) (bts tx)
    have hs4 := hs3.step hal
    have hown4 := own_stpJ hown3 hal
    have hB4 := hB3.trans (hal.mono hB3.size)
    obtain ⟨E, hE⟩ : ∃ E, E = w3.heap.size := ⟨_, rfl⟩
    obtain ⟨w4, hw4⟩ : ∃ w4, w4 = w3.alloc (.cells #[.int .i64 (k : Int), .int .i64 (q : Int), .string (bts tx)] 28) := ⟨_, rfl⟩
    rw [← hw4] at hT4 hs4 hown4 hB4
    rw [← hE] at hT4
    have HW4 := Lib.hid hw4
    have HE := Lib.hid hE
    have HS4 := Lib.hid hs4
    have HOWN4 := Lib.hid hown4
    have HB4 := Lib.hid hB4
    have HT4 := Lib.hid hT4
    obtain ⟨c0, c1, c2⟩ := hT4.cells
    clear hown3 hB3 hal hT4 hs4 hown4 hB4 hs3 hk3 hw4 hE
    go_upto_region 5 with fail
    rw [← HW4.out, ← HE.out]
    by_cases hend : q = s.size
    · have hnil : l.drop q = [] := List.drop_eq_nil_of_le (by rw [HLS.out]; omega)
      have HV : Hid (lexd l = .ok out) := Lib.hid (by rw [HSTEP.out, if_pos hnil])
      have e1 : ((q : Int) == (s.size : Int)) = true := by rw [hend]; simp
      clear hnil
      go_wp2_with fail
      go_ret3
      exact .inr ⟨out, _, HV.out, rfl, HOWN4.out, HB4.out⟩
    · have hne : l.drop q ≠ [] := fun e => by
        have := congrArg List.length e
        rw [List.length_drop, HLS.out] at this
        simp at this
        omega
      have e1 : ((q : Int) == (s.size : Int)) = false := by rw [beq_eq_false_iff_ne]; omega
      by_cases hm : m = 0
      · have HV : Hid (lexd l = .err q) := Lib.hid (by rw [HSTEP.out, if_neg hne, if_pos hm])
        have e2 : ((bts tx).toList == []) = true := by rw [empty_bts, HTX.out, hm]; rfl
        clear hne
        obtain ⟨S5, hS5⟩ : ∃ S5, S5 = bts tx := ⟨_, rfl⟩
        rw [← hS5] at c2 e2
        clear hS5
        go_wp2_with fail
        go_quiet (fail)
        go_wp2_with fail
        go_ret3
        exact .inl ⟨q, HV.out, rfl, below_drewN' HB4.out nq⟩
      · have hst := HSTEP.out
        rw [if_neg hne, if_neg hm] at hst
        have htxl : tx.length = m := by rw [HTX.out, List.length_take, List.length_drop, HLS.out]; omega
        have e2 : ((bts tx).toList == []) = false := by
          rw [empty_bts]
          cases tx with
          | nil => simp at htxl; omega
          | cons a b => rfl
        have hbase := HOWN4.out
        have APP : Hid (k ≠ 1 ∨ numOk tx = true) → Hid (run (l.drop (q + m)) (q + m) ⟨out ++ [Tk.mk k q tx], none⟩ = lexd l) := fun h => Lib.hid (by
          rw [hst, List.drop_drop]
          rw [if_neg]
          rintro ⟨h1, h2⟩
          rcases h.out with h | h
          · exact h h1
          · rw [h] at h2; cases h2)
        by_cases hk1 : k = 1
        · have e3 : ((k : Int) == 1) = true := by rw [hk1]; rfl
          have htl0 : 0 < (bts tx).size := by rw [bts_size]; omega
          have A1 := Lib.hid (isNumber_any (bts tx) (by rw [bts_size]; omega) htl0 (by rw [bts_list]; exact HDIG.out hk1) w4 (HX.out.step HB4.out))
          rw [bts_list] at A1
          by_cases hnum : numOk tx = true
          · have HR := APP (Lib.hid (.inr hnum))
            rw [hnum] at A1
            clear hst hne APP hnum hbase htl0 hk1
            go_wp2_with fail
            refine A1.out.mono ?_
            rintro e w5 ⟨rfl, hb5⟩
            have HB5 := Lib.hid (HB4.out.trans (hb5.mono HB4.out.size))
            have hs5 := HS4.out.step hb5
            have hown5 := own_stpJ HOWN4.out hb5
            obtain ⟨d0, d1, d2⟩ := (HT4.out.step hb5).cells
            clear c0 c1 c2 hb5
            have hownA := hown5.alloc (.cells #[.int .i64 (k : Int), .int .i64 (q : Int), .string (bts tx)] 28)
            have hbs := own_base hown5
            have hKB := TkB.new w5 (k : Int) (q : Int) (bts tx)
            have hszB : w.heap.size ≤ w5.heap.size := HB5.out.size
            have hol2 : out.length ≤ 4194304 := by omega
            go_wp2_with (at_builtin; refine wpList_append_own _ rfl _ _ 22 rfl w.heap.size 28 i0 (.agg #[.int .i64 0, .int .i64 0, .string ⟨#[]⟩]) 3 32 Tryd.underlying22 hi0 hz0 hz1 hz2 rfl (by decide) _ _ _ rfl hownA ⟨w5.heap.size, 0, none⟩ 1 1 [.int .i64 (k : Int), .int .i64 (q : Int), .string (bts tx)] rfl rfl (World.news_of_block (cs := #[.int .i64 (k : Int), .int .i64 (q : Int), .string (bts tx)]) (t := 28) (fr := (0, 0)) hKB) (by simp [Value.oneCell']) (by unfold maxLen; omega) (by omega) (by simp; omega) ?_; intro v' w6 hown6 hgrow6 _)
            have hB6 : Below w.heap.size w w6 := (HB5.out.alloc HB5.out.size _).grown hgrow6 (by simp; omega) hbs
            have hown7 : w6.ownsRow w.heap.size 28 3 v' (out ++ [Tk.mk k q tx]).length (tVals (out ++ [Tk.mk k q tx])) := by
              rw [tVals_snoc, List.length_append]
              exact hown6
            have hlv : lenV v' = out.length + 1 := by
              rcases hown6.2 with ⟨_, h0⟩ | ⟨g, cap, cur, hv, _⟩
              · omega
              · rw [hv]; rfl
            have hS7 : ScB ab sb (q + m) s w6 := by
              have hka := own_ne3 hown5 hs5.a (by decide)
              have hks := own_ne3 hown5 hs5.s (by decide)
              refine ⟨?_, ?_, hs5.ne⟩
              · rw [hgrow6.block ab (by have := hs5.la; simp; omega) (Ne.symm hka), Lib.alloc_old _ _ _ hs5.la]
                exact hs5.a
              · rw [hgrow6.block sb (by have := hs5.ls; simp; omega) (Ne.symm hks), Lib.alloc_old _ _ _ hs5.ls]
                exact hs5.s
            have HO := Lib.hid (And.intro hown7 (And.intro hB6 hS7))
            have HLV := Lib.hid hlv
            clear hown7 hB6 hS7 hown6 hgrow6 hownA hKB hbs hlv
            go_wp2_with fail
            go_roundw
            case rel => exact ⟨q + m, out ++ [Tk.mk k q tx], by omega, by simp; omega, HR.out, HO.out.2.2, HO.out.1, HO.out.2.1⟩
            case measure => rw [HLV.out]; simp [lenV]; omega
          · have hnum2 : numOk tx = false := by simpa using hnum
            have HV : Hid (lexd l = .err q) := Lib.hid (by rw [hst, if_pos ⟨hk1, hnum2⟩])
            rw [hnum2] at A1
            have HT4' := HT4.out
            clear hst hne APP hnum hnum2 hbase htl0
            obtain ⟨S5, hS5⟩ : ∃ S5, S5 = bts tx := ⟨_, rfl⟩
            rw [← hS5] at c2 e2 A1 HT4'
            clear hS5
            have HT5 := Lib.hid HT4'
            clear HT4'
            go_wp2_with fail
            refine A1.out.mono ?_
            rintro e w5 ⟨rfl, hb5⟩
            have HB5 := Lib.hid (HB4.out.trans (hb5.mono HB4.out.size))
            obtain ⟨d0, d1, d2⟩ := (HT5.out.step hb5).cells
            clear c0 c1 c2 hb5
            go_wp2_with fail
            go_quiet (fail)
            go_wp2_with fail
            go_ret3
            exact .inl ⟨q, HV.out, rfl, below_drewN' HB5.out nq⟩
        · have HR := APP (Lib.hid (.inl hk1))
          have e3 : ((k : Int) == 1) = false := by rw [beq_eq_false_iff_ne]; omega
          clear hst hne APP
          have hs5 := HS4.out
          have hownA := hbase.alloc (.cells #[.int .i64 (k : Int), .int .i64 (q : Int), .string (bts tx)] 28)
          have hbs := own_base hbase
          have hKB := TkB.new w4 (k : Int) (q : Int) (bts tx)
          have hszB : w.heap.size ≤ w4.heap.size := HB4.out.size
          have hol2 : out.length ≤ 4194304 := by omega
          go_wp2_with (at_builtin; refine wpList_append_own _ rfl _ _ 22 rfl w.heap.size 28 i0 (.agg #[.int .i64 0, .int .i64 0, .string ⟨#[]⟩]) 3 32 Tryd.underlying22 hi0 hz0 hz1 hz2 rfl (by decide) _ _ _ rfl hownA ⟨w4.heap.size, 0, none⟩ 1 1 [.int .i64 (k : Int), .int .i64 (q : Int), .string (bts tx)] rfl rfl (World.news_of_block (cs := #[.int .i64 (k : Int), .int .i64 (q : Int), .string (bts tx)]) (t := 28) (fr := (0, 0)) hKB) (by simp [Value.oneCell']) (by unfold maxLen; omega) (by omega) (by simp; omega) ?_; intro v' w6 hown6 hgrow6 _)
          have hB6 : Below w.heap.size w w6 := (HB4.out.alloc HB4.out.size _).grown hgrow6 (by simp; omega) hbs
          have hown7 : w6.ownsRow w.heap.size 28 3 v' (out ++ [Tk.mk k q tx]).length (tVals (out ++ [Tk.mk k q tx])) := by
            rw [tVals_snoc, List.length_append]
            exact hown6
          have hlv : lenV v' = out.length + 1 := by
            rcases hown6.2 with ⟨_, h0⟩ | ⟨g, cap, cur, hv, _⟩
            · omega
            · rw [hv]; rfl
          have hS7 : ScB ab sb (q + m) s w6 := by
            have hka := own_ne3 hbase hs5.a (by decide)
            have hks := own_ne3 hbase hs5.s (by decide)
            refine ⟨?_, ?_, hs5.ne⟩
            · rw [hgrow6.block ab (by have := hs5.la; simp; omega) (Ne.symm hka), Lib.alloc_old _ _ _ hs5.la]
              exact hs5.a
            · rw [hgrow6.block sb (by have := hs5.ls; simp; omega) (Ne.symm hks), Lib.alloc_old _ _ _ hs5.ls]
              exact hs5.s
          have HO := Lib.hid (And.intro hown7 (And.intro hB6 hS7))
          have HLV := Lib.hid hlv
          clear hown7 hB6 hS7 hown6 hgrow6 hownA hKB hbs hlv
          go_wp2_with fail
          go_roundw
          case rel => exact ⟨q + m, out ++ [Tk.mk k q tx], by omega, by simp; omega, HR.out, HO.out.2.2, HO.out.1, HO.out.2.1⟩
          case measure => rw [HLV.out]; simp [lenV]; omega
end Go.Proofs.YtfekcbkafiiieaaDoor
