/-
  The program's first token of a text (sign, first) and its test of digits (isNumber).
-/
import Derived.Test.YtfekcbkafiiieaaDoorLxRn
import Derived.Lib.IndexLaws
namespace Go.Proofs.YtfekcbkafiiieaaDoor
open Go.RowKit
set_option maxRecDepth 100000

def sgnB : ByteArray := ⟨#[123, 125, 91, 93, 40, 41, 59, 61, 60, 43, 45, 42, 47, 37]⟩
theorem sgn_ix (c : UInt8) : decide (0 ≤ Lib.indexByte sgnB.data.toList c) = decide (jcls c = 3) := by
  have key : ∀ n : Nat, n < 256 → (decide (0 ≤ Lib.indexByte sgnB.data.toList (UInt8.ofNat n)) == decide (jcls (UInt8.ofNat n) = 3)) = true := by decide +kernel
  have h := key c.toNat c.toNat_lt
  rw [UInt8.ofNat_toNat] at h
  simpa using h
theorem sgn_pre {l : List UInt8} (h : Lib.hasPrefix l [61, 61] = true) : sgn l = 2 := by
  unfold Lib.hasPrefix at h
  cases l with
  | nil => cases h
  | cons c r =>
    cases r with
    | nil => simp [List.isPrefixOf] at h
    | cons d q =>
      simp [List.isPrefixOf] at h
      show (if c = 61 ∧ d = 61 then 2 else _) = 2
      rw [if_pos ⟨h.1.symm, h.2.symm⟩]
theorem sgn_not {c : UInt8} {r : List UInt8} (h : Lib.hasPrefix (c :: r) [61, 61] = false) : sgn (c :: r) = if jcls c = 3 then 1 else 0 := by
  unfold Lib.hasPrefix at h
  cases r with
  | nil => rfl
  | cons d q =>
    show (if c = 61 ∧ d = 61 then 2 else _) = _
    rw [if_neg]
    rintro ⟨rfl, rfl⟩
    simp [List.isPrefixOf] at h
theorem nonempty_str {S : ByteArray} (h : 0 < S.size) : (S.toList == []) = false := by
  rw [beq_eq_false_iff_ne, ByteArray.toList_eq]
  intro e
  have := congrArg List.length e
  simp at this
  rw [this] at h
  simp at h
theorem empty_str {S : ByteArray} (h : ¬ 0 < S.size) : S = ByteArray.empty := by
  apply ByteArray.ext
  apply Array.eq_empty_of_size_eq_zero
  have : S.data.size = S.size := rfl
  omega
theorem list_cons {S : ByteArray} (h : 0 < S.size) : S.data.toList = (S[0]'h) :: S.data.toList.drop 1 := by
  have hlt : 0 < S.data.toList.length := by simpa using h
  have := List.drop_eq_getElem_cons hlt
  rw [List.drop_zero] at this
  exact this

set_option maxHeartbeats 2000000 in
theorem sign_any (S : ByteArray) (w : World) : Calls Tryd.prog 34 #[.string S] w fun e w' => e = .returned (.int .i64 ((sgn S.data.toList : Nat) : Int)) ∧ w' = w := by
  have A0 := Lib.hid (Tryd.strings_HasPrefix S (bts [61, 61]) w)
  rw [bts_list] at A0
  by_cases h0 : 0 < S.size
  · obtain ⟨c, hc⟩ : ∃ c, c = S[0]'h0 := ⟨_, rfl⟩
    have hl := list_cons h0
    rw [← hc] at hl
    have hne := nonempty_str h0
    have A1 := Lib.hid (Tryd.strings_IndexByte sgnB (c.toNat : Int) w)
    have ec : (c.toNat : Int).toNat.toUInt8 = c := by simp
    rw [ec] at A1
    have hix := sgn_ix c
    obtain ⟨ix, hi⟩ : ∃ ix, ix = Lib.indexByte sgnB.data.toList c := ⟨_, rfl⟩
    rw [← hi] at A1 hix
    cases hp : Lib.hasPrefix S.data.toList [61, 61] with
    | true =>
      have HV := Lib.hid (sgn_pre hp)
      rw [hp] at A0
      obtain ⟨V, hV⟩ : ∃ V, V = sgn S.data.toList := ⟨_, rfl⟩
      rw [← hV] at HV ⊢
      clear hp hV hl hc hi hix ec A1
      go_enter Tryd.func34, Tryd.ntmps34
      go_wp2_with fail
      refine A0.out.mono ?_
      rintro e w1 ⟨rfl, rfl⟩
      go_wp2_with fail
      go_ret
      exact ⟨by rw [HV.out]; rfl, rfl⟩
    | false =>
      have hq := hp
      rw [hl] at hq
      have hv := sgn_not hq
      rw [← hl] at hv
      rw [hp] at A0
      obtain ⟨V, hV⟩ : ∃ V, V = sgn S.data.toList := ⟨_, rfl⟩
      rw [← hV] at hv ⊢
      have HC := Lib.hid hc
      by_cases h3 : jcls c = 3
      · have hge : 0 ≤ ix := by rw [decide_eq_true h3] at hix; simpa using hix
        rw [if_pos h3] at hv
        have HV := Lib.hid hv
        clear hp hq hv hV hl hc hi hix ec h3
        go_enter Tryd.func34, Tryd.ntmps34
        go_wp2_with fail
        refine A0.out.mono ?_
        rintro e w1 ⟨rfl, rfl⟩
        go_wp2_with fail
        rw [← HC.out]
        refine A1.out.mono ?_
        rintro e w1 ⟨rfl, rfl⟩
        go_wp2_with fail
        go_ret
        exact ⟨by rw [HV.out]; rfl, rfl⟩
      · have hge : ¬ 0 ≤ ix := by rw [decide_eq_false h3] at hix; simpa using hix
        rw [if_neg h3] at hv
        have HV := Lib.hid hv
        clear hp hq hv hV hl hc hi hix ec h3
        go_enter Tryd.func34, Tryd.ntmps34
        go_wp2_with fail
        refine A0.out.mono ?_
        rintro e w1 ⟨rfl, rfl⟩
        go_wp2_with fail
        rw [← HC.out]
        refine A1.out.mono ?_
        rintro e w1 ⟨rfl, rfl⟩
        go_wp2_with fail
        go_ret
        exact ⟨by rw [HV.out]; rfl, rfl⟩
  · have := empty_str h0
    subst this
    have e1 : Lib.hasPrefix ByteArray.empty.data.toList [61, 61] = false := by decide
    rw [e1] at A0
    have HV : Hid (sgn ByteArray.empty.data.toList = 0) := Lib.hid (by decide)
    obtain ⟨V, hV⟩ : ∃ V, V = sgn ByteArray.empty.data.toList := ⟨_, rfl⟩
    rw [← hV] at HV ⊢
    clear h0 e1 hV
    go_enter Tryd.func34, Tryd.ntmps34
    go_wp2_with fail
    refine A0.out.mono ?_
    rintro e w1 ⟨rfl, rfl⟩
    go_wp2_with fail
    go_ret
    exact ⟨by rw [HV.out]; rfl, rfl⟩

set_option maxHeartbeats 2000000 in
theorem first_any (S : ByteArray) (hs : S.size ≤ 4194304) (w : World) : Calls Tryd.prog 27 #[.string S] w fun e w' => e = .returned (.tuple #[.int .i64 (((tokAt S.data.toList).1 : Nat) : Int), .int .i64 (((tokAt S.data.toList).2 : Nat) : Int)]) ∧ w' = w := by
  have A0 := Lib.hid (run_isDigit S hs w)
  have A1 := Lib.hid (run_isLetter S hs w)
  have A2 := Lib.hid (run_isLd S hs w)
  have A3 := Lib.hid (sign_any S w)
  have hT : tokAt S.data.toList = if 0 < pre isDg S.data.toList then (1, pre isDg S.data.toList) else if 0 < pre isLt S.data.toList then (2, pre isLd S.data.toList) else (3, sgn S.data.toList) := rfl
  obtain ⟨T, hTT⟩ : ∃ T, T = tokAt S.data.toList := ⟨_, rfl⟩
  have h1 := pre_le isDg S.data.toList
  have h2 := pre_le isLt S.data.toList
  obtain ⟨d, hd⟩ : ∃ d, d = pre isDg S.data.toList := ⟨_, rfl⟩
  obtain ⟨q, hq⟩ : ∃ q, q = pre isLt S.data.toList := ⟨_, rfl⟩
  obtain ⟨r, hr⟩ : ∃ r, r = pre isLd S.data.toList := ⟨_, rfl⟩
  obtain ⟨g, hg⟩ : ∃ g, g = sgn S.data.toList := ⟨_, rfl⟩
  rw [← hTT, ← hd, ← hq, ← hr, ← hg] at hT
  rw [← hd] at A0 h1
  rw [← hq] at A1 h2
  rw [← hr] at A2
  rw [← hg] at A3
  rw [← hTT]
  have hll : S.data.toList.length = S.size := by simp
  rw [hll] at h1 h2
  clear hTT hd hq hr hg hll
  obtain ⟨T1, T2⟩ := T
  dsimp only
  by_cases hd : 0 < d
  · rw [if_pos hd] at hT
    injection hT with hT1 hT2
    subst hT1
    subst hT2
    go_enter Tryd.func27, Tryd.ntmps27
    go_wp2_with fail
    refine A0.out.mono ?_
    rintro e w1 ⟨rfl, rfl⟩
    go_wp2_with fail
    go_ret2
    exact ⟨rfl, rfl⟩
  · rw [if_neg hd] at hT
    by_cases hq : 0 < q
    · rw [if_pos hq] at hT
      injection hT with hT1 hT2
      subst hT1
      subst hT2
      go_enter Tryd.func27, Tryd.ntmps27
      go_wp2_with fail
      refine A0.out.mono ?_
      rintro e w1 ⟨rfl, rfl⟩
      go_wp2_with fail
      refine A1.out.mono ?_
      rintro e w1 ⟨rfl, rfl⟩
      go_wp2_with fail
      refine A2.out.mono ?_
      rintro e w1 ⟨rfl, rfl⟩
      go_wp2_with fail
      go_ret2
      exact ⟨rfl, rfl⟩
    · rw [if_neg hq] at hT
      injection hT with hT1 hT2
      subst hT1
      subst hT2
      go_enter Tryd.func27, Tryd.ntmps27
      go_wp2_with fail
      refine A0.out.mono ?_
      rintro e w1 ⟨rfl, rfl⟩
      go_wp2_with fail
      refine A1.out.mono ?_
      rintro e w1 ⟨rfl, rfl⟩
      go_wp2_with fail
      refine A3.out.mono ?_
      rintro e w1 ⟨rfl, rfl⟩
      go_wp2_with fail
      go_ret2
      exact ⟨rfl, rfl⟩

set_option maxHeartbeats 2000000 in
theorem isNumber_any (S : ByteArray) (hs : S.size ≤ 4194304) (h0 : 0 < S.size) (hd : ∀ c ∈ S.data.toList, 48 ≤ c.toNat ∧ c.toNat ≤ 57) (w : World) (hx : LxW w) : Calls Tryd.prog 17 #[.string S] w fun e w' => e = .returned (.bool (numOk S.data.toList)) ∧ Below w.heap.size w w' := by
  obtain ⟨c, hc⟩ : ∃ c, c = S[0]'h0 := ⟨_, rfl⟩
  have hl := list_cons h0
  rw [← hc] at hl
  have HC := Lib.hid hc
  have hne : S.data.toList ≠ [] := by rw [hl]; simp
  have hv : numOk S.data.toList = ((decide (S.data.toList.length = 1) || !(decide (S.data.toList.head? = some 48))) && decide (dvA 0 S.data.toList ≤ 9223372036854775807)) := rfl
  have hhd : S.data.toList.head? = some c := by rw [hl]; rfl
  have hS : S = bts S.data.toList := bts_of rfl
  have hpb := parseB_digits hne hd
  obtain ⟨V, hV⟩ : ∃ V, V = numOk S.data.toList := ⟨_, rfl⟩
  rw [← hV] at hv ⊢
  by_cases h48 : c = 48
  · have e48 : (c.toNat : Int) = 48 := by rw [h48]; rfl
    obtain ⟨b, hb⟩ : ∃ b, b = (S.toList == [48]) := ⟨_, rfl⟩
    have HV : Hid (V = b) := Lib.hid (by
      rw [hv, hhd, h48, decide_eq_true rfl, hb, ByteArray.toList_eq]
      by_cases h1 : S.data.toList.length = 1
      · have : S.data.toList = [48] := by
          have h3 : S.data.toList.drop 1 = [] := List.length_eq_zero_iff.1 (by rw [List.length_drop]; omega)
          rw [hl, h3, h48]
        rw [this]
        rfl
      · rw [decide_eq_false h1]
        have : (S.data.toList == [48]) = false := by
          rw [beq_eq_false_iff_ne]
          intro e
          exact h1 (by rw [e]; rfl)
        rw [this]
        rfl)
    have hb2 : (S.toList == [48]) = b := hb.symm
    clear hb hV hv hhd hpb hne hl hc hd hS hx h48
    go_enter Tryd.func17, Tryd.ntmps17
    have e1 : (((S[0]'h0).toNat : Int) == 48) = true := by rw [← HC.out, e48]; rfl
    clear e48
    go_wp2_with fail
    go_ret
    exact ⟨by rw [HV.out]; rfl, Below.refl _ _⟩
  · have hh : decide (S.data.toList.head? = some 48) = false := decide_eq_false (by rw [hhd]; intro e; injection e with e; exact h48 e)
    rw [hh] at hv
    have e1 : (((S[0]'h0).toNat : Int) == 48) = false := by
      rw [beq_eq_false_iff_ne, ← HC.out]
      intro e
      apply h48
      apply UInt8.toNat_inj.1
      have : (48 : UInt8).toNat = 48 := rfl
      omega
    by_cases hM : dvA 0 S.data.toList ≤ 9223372036854775807
    · rw [if_pos hM] at hpb
      rw [decide_eq_true hM] at hv
      have HV : Hid (V = true) := Lib.hid (by rw [hv]; simp)
      have A0 := Lib.hid (Tryd.strconv_ParseInt_10_at64_ok S (by omega) _ hpb w)
      obtain ⟨M, hMM⟩ : ∃ M : Nat, M = dvA 0 S.data.toList := ⟨_, rfl⟩
      rw [← hMM] at A0
      clear hV hv hhd hpb hne hl hc hd hS hx h48 hh hM hMM
      go_enter Tryd.func17, Tryd.ntmps17
      go_wp2_with fail
      refine A0.out.mono ?_
      rintro e w2 ⟨rfl, hw2⟩
      have HB := Lib.hid (below_bytes hw2)
      clear hw2
      go_wp2_with fail
      go_ret
      exact ⟨by rw [HV.out]; rfl, HB.out⟩
    · rw [if_neg hM] at hpb
      rw [decide_eq_false hM] at hv
      have HV : Hid (V = false) := Lib.hid (by rw [hv]; simp)
      obtain ⟨tp, pv, hvar⟩ := hx.rng
      have A0 := Lib.hid (Tryd.strconv_ParseInt_10_at64_range_var S (by omega) hpb tp pv w hvar)
      obtain ⟨M, hMM⟩ : ∃ M : Int, M = Lib.intSat 64 S.data.toList := ⟨_, rfl⟩
      rw [← hMM] at A0
      clear hV hv hhd hpb hne hl hc hd hS hx h48 hh hM hMM hvar
      go_enter Tryd.func17, Tryd.ntmps17
      go_wp2_with fail
      refine A0.out.mono ?_
      rintro e w2 ⟨N, rfl, _, _, hw2⟩
      have HB : Hid (Below w.heap.size w w2) := Lib.hid hw2
      clear hw2
      go_wp2_with fail
      go_ret
      exact ⟨by rw [HV.out]; rfl, HB.out⟩
end Go.Proofs.YtfekcbkafiiieaaDoor
