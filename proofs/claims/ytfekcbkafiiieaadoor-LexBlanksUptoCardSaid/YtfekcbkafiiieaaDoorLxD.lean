/-
  The law LexParts.
-/
import Derived.Test.YtfekcbkafiiieaaDoorLxE
import Derived.Test.YtfekcbkafiiieaaDoorLxTk
import Derived.Test.YtfekcbkafiiieaaDoorLxJn
namespace Go.Proofs.YtfekcbkafiiieaaDoor
open Go.RowKit
set_option maxRecDepth 100000

/-- tokens as memory has them -/
def rts (ts : List Tk) : List RTk := ts.map fun t => (((t.k : Nat) : Int), ((t.pos : Nat) : Int), bts t.tx)
theorem rts_len (ts : List Tk) : (rts ts).length = ts.length := by simp [rts]
theorem tVals_at : ∀ (l : List Tk) (k : Nat), k < l.length → (tVals l)[k * 3]? = some (.int .i64 (rtk (rts l) k).1) ∧ (tVals l)[k * 3 + 1]? = some (.int .i64 (rtk (rts l) k).2.1) ∧ (tVals l)[k * 3 + 2]? = some (.string (rtk (rts l) k).2.2)
  | [], k, h => by simp at h
  | a :: l, 0, _ => ⟨rfl, rfl, rfl⟩
  | a :: l, k + 1, h => by
    have ih := tVals_at l k (by simpa using h)
    have e : tVals (a :: l) = .int .i64 ((a.k : Nat) : Int) :: .int .i64 ((a.pos : Nat) : Int) :: .string (bts a.tx) :: tVals l := rfl
    rw [e, show (k + 1) * 3 = k * 3 + 1 + 1 + 1 by omega, show k * 3 + 1 + 1 + 1 + 1 = k * 3 + 1 + 1 + 1 + 1 from rfl]
    simp only [List.getElem?_cons_succ]
    exact ih
theorem own_rdT {w : World} {base : Nat} {v : Value} {ts : List Tk} (h : w.ownsRow base 28 3 v ts.length (tVals ts)) (hl : ts.length ≤ 1099511627776) : ∃ A c, v = .slice A (rts ts).length c ∧ RdT w w.heap.size A (rts ts) := by
  rw [rts_len]
  rcases Nat.eq_zero_or_pos ts.length with h0 | hp
  · have hA : ∃ A c, v = .slice A ts.length c := by
      rcases h.2 with ⟨rfl, _⟩ | ⟨g, cap, cur, hv, _⟩
      · exact ⟨none, 0, by rw [h0]⟩
      · exact ⟨_, _, hv⟩
    obtain ⟨A, c, rfl⟩ := hA
    exact ⟨A, c, rfl, by rw [rts_len]; exact hl, fun hn => by rw [rts_len] at hn; omega⟩
  · obtain ⟨g, cap, rfl, _, hg, _, _, hc⟩ := own_shape3 h hp
    refine ⟨_, _, rfl, by rw [rts_len]; exact hl, fun _ => ⟨g, 0, rfl, hg, fun k hk => ?_⟩⟩
    rw [rts_len] at hk
    obtain ⟨m1, m2, m3⟩ := tVals_at ts k hk
    rw [Nat.zero_add]
    exact ⟨(hc _ (by omega)).trans m1, (hc _ (by omega)).trans m2, (hc _ (by omega)).trans m3⟩
theorem lexd_len {l : List UInt8} {ts : List Tk} (h : lexd l = .ok ts) : ts.length ≤ l.length := by
  have key : ∀ (i : Nat), i ≤ l.length → ∀ st, stps (l.take i) 0 ⟨[], none⟩ = .ok st → st.good i := fun i => by
    induction i with
    | zero =>
      intro _ st hs
      have : Ts.mk [] none = st := by
        have h2 : stps (l.take 0) 0 ⟨[], none⟩ = .ok ⟨[], none⟩ := rfl
        rw [h2] at hs
        injection hs
      subst this
      exact ⟨by simp, fun t ht => by cases ht⟩
    | succ i ih =>
      intro hi st hs
      cases h1 : stps (l.take i) 0 ⟨[], none⟩ with
      | err n =>
        rw [List.take_succ_eq_append_getElem (by omega), stps_append, h1] at hs
        cases hs
      | ok s1 =>
        have g1 := ih (by omega) s1 h1
        cases h2 : stp s1 i (l[i]'(by omega)) with
        | err n =>
          rw [List.take_succ_eq_append_getElem (by omega), stps_append, h1] at hs
          have e : (l.take i).length = i := by rw [List.length_take]; omega
          dsimp only at hs
          rw [e, Nat.zero_add] at hs
          have hs2 : (match stp s1 i (l[i]'(by omega)) with | .err n => Lr.err n | .ok st' => stps [] (i + 1) st') = .ok st := hs
          rw [h2] at hs2
          cases hs2
        | ok s2 =>
          have h3 := stps_take h1 (by omega) h2
          rw [h3] at hs
          injection hs with hs
          subst hs
          exact stp_good g1 h2
  cases h1 : stps (l.take l.length) 0 ⟨[], none⟩ with
  | err n =>
    have : lexd l = .err n := by
      rw [List.take_length] at h1
      unfold lexd run
      rw [h1]
    rw [this] at h
    cases h
  | ok st =>
    have hg := key l.length (Nat.le_refl _) st h1
    rw [lexd_fin h1] at h
    obtain ⟨out, op⟩ := st
    unfold fin at h
    cases op with
    | none =>
      injection h with h
      subst h
      have := hg.1
      simpa using this
    | some t =>
      dsimp only at h
      split at h
      · injection h with h
        subst h
        have := hg.1
        simpa using this
      · cases h

set_option maxHeartbeats 2000000 in
theorem lexparts_any (s : ByteArray) (A : Option Addr) (c : Nat) (ts : List RTk) (w : World) (hx : LxW w) (hs : s.size ≤ 4194304) (hr : RdT w w.heap.size A ts) (hj : (joinA ts).length ≤ 140737488355327) (hl : ts.length ≤ 1073741824) :
    Calls Tryd.prog 3 #[.string s, .slice A ts.length c] w fun e w' => e = .returned (.bool true) ∧ Below w.heap.size w w' := by
  have T1 := ltoks_any s hs w hx
  have HL : s.data.toList.length = s.size := by simp
  obtain ⟨l, hl0⟩ : ∃ l, l = s.data.toList := ⟨_, rfl⟩
  have HLL := Lib.hid hl0
  have HLS : Hid (l.length ≤ 4194304) := Lib.hid (by rw [hl0, HL]; exact hs)
  rw [← hl0] at T1
  obtain ⟨S, hS⟩ : ∃ S, S = bts (joinS ts) := ⟨_, rfl⟩
  have HS := Lib.hid hS
  have J1 := Lib.hid (show ∀ W, Below w.heap.size w W → Calls Tryd.prog 11 #[.slice A ts.length c] W fun e w' => e = .returned (.string S) ∧ Below W.heap.size W w' from fun W hW => by rw [hS]; exact ljoin_any A c ts W (hr.step hW) hj hl)
  have J2 := Lib.hid (show ∀ W, Below w.heap.size w W → Calls Tryd.prog 12 #[.slice A ts.length c] W fun e w' => e = .returned (.string S) ∧ Below W.heap.size W w' from fun W hW => by rw [hS]; exact jjoin_any A c ts W (hr.step hW) (by omega) hl)
  have HX := Lib.hid hx
  have hq := bstr_yes S
  obtain ⟨m, hm⟩ : ∃ m, m = ts.length := ⟨_, rfl⟩
  rw [← hm] at J1 J2 ⊢
  clear hl0 HL hS hr hj hl hm hx
  go_enter Tryd.func3, Tryd.ntmps3
  go_wp2_with fail
  refine T1.mono ?_
  rintro e w2 (⟨n, h1, rfl, h2⟩ | ⟨tt, v, h1, rfl, h2, h3⟩)
  · have H1 := Lib.hid (And.intro h1 h2)
    clear h1 h2
    go_wp2_with fail
    refine (jtokens_any s hs w2 (HX.out.step H1.out.2)).mono ?_
    rw [← HLL.out]
    rintro e w3 (⟨n', h1, rfl, h2⟩ | ⟨tt, v, h1, rfl, h2, h3⟩)
    · obtain rfl : n = n' := by
        have := H1.out.1
        rw [this] at h1
        injection h1
      have H2 := Lib.hid (H1.out.2.trans (h2.mono H1.out.2.size))
      clear h1 h2
      go_wp2_with fail
      refine (equalT_same none none 0 0 [] w3 (RdT.nil w3) (RdT.nil w3) (by simp)).mono ?_
      rintro e w4 ⟨rfl, hb4⟩
      have H3 := Lib.hid (H2.out.trans (hb4.mono H2.out.size))
      clear hb4
      go_wp2_with fail
      refine (J1.out w4 H3.out).mono ?_
      rintro e w5 ⟨rfl, hb5⟩
      have H4 := Lib.hid (H3.out.trans (hb5.mono H3.out.size))
      clear hb5
      go_wp2_with fail
      refine (J2.out w5 H4.out).mono ?_
      rintro e w6 ⟨rfl, hb6⟩
      have H5 := Lib.hid (H4.out.trans (hb6.mono H4.out.size))
      clear hb6
      go_wp2_with fail
      go_ret
      exact ⟨rfl, H5.out⟩
    · exfalso
      rw [H1.out.1] at h1
      cases h1
  · obtain ⟨A1, c1, rfl, hr1⟩ := own_rdT h2 (by have := lexd_len h1; have := HLS.out; omega)
    have H1 := Lib.hid (And.intro h1 (And.intro hr1 h3))
    have hll := lexd_len h1
    have HLN := Lib.hid (show (rts tt).length ≤ 1073741824 by rw [rts_len]; have := HLS.out; omega)
    clear h1 h2 h3 hr1 hll
    go_wp2_with fail
    refine (jtokens_any s hs w2 (HX.out.step H1.out.2.2)).mono ?_
    rw [← HLL.out]
    rintro e w3 (⟨n', h1, rfl, h2⟩ | ⟨t2, v, h1, rfl, h2, h3⟩)
    · exfalso
      rw [H1.out.1] at h1
      cases h1
    · obtain rfl : tt = t2 := by
        have := H1.out.1
        rw [this] at h1
        injection h1
      obtain ⟨A2, c2, rfl, hr2⟩ := own_rdT h2 (by have := lexd_len h1; have := HLS.out; omega)
      have H2 := Lib.hid (H1.out.2.2.trans (h3.mono H1.out.2.2.size))
      have hr1 := H1.out.2.1.step h3
      have HR := Lib.hid (And.intro hr1 hr2)
      clear h1 h2 h3 hr1 hr2
      go_wp2_with fail
      refine (equalT_same A1 A2 c1 c2 (rts tt) w3 HR.out.1 HR.out.2 HLN.out).mono ?_
      rintro e w4 ⟨rfl, hb4⟩
      have H3 := Lib.hid (H2.out.trans (hb4.mono H2.out.size))
      clear hb4
      go_wp2_with fail
      refine (J1.out w4 H3.out).mono ?_
      rintro e w5 ⟨rfl, hb5⟩
      have H4 := Lib.hid (H3.out.trans (hb5.mono H3.out.size))
      clear hb5
      go_wp2_with fail
      refine (J2.out w5 H4.out).mono ?_
      rintro e w6 ⟨rfl, hb6⟩
      have H5 := Lib.hid (H4.out.trans (hb6.mono H4.out.size))
      clear hb6
      go_wp2_with fail
      go_ret
      exact ⟨rfl, H5.out⟩
end Go.Proofs.YtfekcbkafiiieaaDoor
