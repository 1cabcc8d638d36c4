/-
  The law LexBack.
-/
import Derived.Test.YtfekcbkafiiieaaDoorLxA
namespace Go.Proofs.YtfekcbkafiiieaaDoor
open Go.RowKit
set_option maxRecDepth 100000

theorem joinA_cons (t : Tk) (l : List Tk) : joinA (rts (t :: l)) = 32 :: t.tx ++ joinA (rts l) := by
  unfold joinA rts
  simp [bts_list]
theorem joinS_joinT : ∀ l : List Tk, joinS (rts l) = joinT (l.map Tk.tx)
  | [] => rfl
  | [t] => by
    unfold joinS
    rw [joinA_cons]
    simp [joinT, joinA, rts]
  | t :: u :: l => by
    have ih := joinS_joinT (u :: l)
    unfold joinS at ih ⊢
    rw [joinA_cons]
    show t.tx ++ joinA (rts (u :: l)) = t.tx ++ 32 :: joinT ((u :: l).map Tk.tx)
    rw [← ih, joinA_cons]
    rfl
theorem cov_sum {s : List UInt8} : ∀ {l : List Tk} {a e : Nat}, cov s a l e → a + (joinA (rts l)).length ≤ e + l.length
  | [], a, e, h => by
    have : (joinA (rts ([] : List Tk))).length = 0 := rfl
    have := h.1
    simp
    omega
  | t :: l, a, e, h => by
    have ih := cov_sum h.2.2.2
    have h1 := h.1
    rw [joinA_cons]
    simp only [List.length_append, List.length_cons]
    omega
theorem joinA_le {s : List UInt8} {l : List Tk} (h : lexd s = .ok l) : (joinA (rts l)).length ≤ 2 * s.length := by
  have h1 := lexd_cov s
  rw [h] at h1
  have h2 := cov_sum h1
  have h3 := lexd_len h
  omega
theorem joinA_tx {l m : List Tk} (h : l.map Tk.tx = m.map Tk.tx) : joinA (rts l) = joinA (rts m) := by
  have e : ∀ x : List Tk, joinA (rts x) = (x.map Tk.tx).flatMap fun t => 32 :: t := fun x => by
    unfold joinA rts
    rw [List.flatMap_map, List.flatMap_map]
    simp [bts_list]
  rw [e, e, h]
theorem alk_at {l m : List Tk} (h : alk l m) (k : Nat) : (rtk (rts l) k).1 = (rtk (rts m) k).1 ∧ (rtk (rts l) k).2.2 = (rtk (rts m) k).2.2 := by
  have e : ∀ x : List Tk, ((rtk (rts x) k).1, (rtk (rts x) k).2.2) = ((x.map Tk.nk).map fun q => (((q.1 : Nat) : Int), bts q.2)).getD k (0, ByteArray.empty) := fun x => by
    unfold rtk rts
    rw [List.map_map]
    simp only [List.getD, List.getElem?_map]
    cases x[k]? <;> rfl
  have := e l
  rw [show l.map Tk.nk = m.map Tk.nk from h, ← e m] at this
  exact ⟨(Prod.mk.inj this).1, (Prod.mk.inj this).2⟩

set_option maxHeartbeats 2000000 in
theorem lexback_any (s : ByteArray) (hs : s.size ≤ 1048576) (w : World) (hx : LxW w) : Calls Tryd.prog 4 #[.string s] w fun e w' => e = .returned (.bool true) ∧ Below w.heap.size w w' := by
  have A0 := alive10_any w hx
  have HX := Lib.hid hx
  have HSL : Hid (s.data.toList.length = s.size) := Lib.hid (by simp)
  clear hx
  go_enter Tryd.func4, Tryd.ntmps4
  go_wp2_with fail
  refine A0.mono ?_
  rintro e w1 ⟨rfl, hb1⟩
  have HB1 := Lib.hid hb1
  clear hb1 A0
  go_wp2_with fail
  refine (ltoks_any s (by omega) w1 (HX.out.step HB1.out)).mono ?_
  rintro e w2 (⟨n, h1, rfl, h2⟩ | ⟨l, v, h1, rfl, h2, h3⟩)
  · have hn := lexd_cov s.data.toList
    rw [h1] at hn
    have hn2 : n < s.size := by rw [← HSL.out]; exact hn
    have hn3 : (n : Int) < (s.size : Int) := by omega
    have H := Lib.hid (HB1.out.trans (h2.mono HB1.out.size))
    clear h1 h2 hn
    go_wp2_with fail
    go_ret
    exact ⟨rfl, H.out⟩
  · obtain ⟨A1, c1, rfl, hr1⟩ := own_rdT h2 (by have := lexd_len h1; have := HSL.out; omega)
    have hjl := joinA_le h1
    have hln := lexd_len h1
    rw [HSL.out] at hjl hln
    obtain ⟨m, hm, ha⟩ := lexd_back h1
    rw [← joinS_joinT] at hm
    have htx := joinA_tx (alk_tx ha)
    have HB2 := Lib.hid (HB1.out.trans (h3.mono HB1.out.size))
    have HR1 := Lib.hid hr1
    have HJ := Lib.hid (And.intro hjl hln)
    have hjs : (joinS (rts l)).length ≤ 2097152 := by unfold joinS; rw [List.length_drop]; omega
    have HM := Lib.hid (And.intro hm (And.intro ha (And.intro htx hjs)))
    have hlen : m.length = l.length := by
      have := congrArg List.length (show l.map Tk.nk = m.map Tk.nk from ha)
      simpa using this.symm
    have HLEN := Lib.hid hlen
    obtain ⟨S, hS⟩ : ∃ S, S = bts (joinS (rts l)) := ⟨_, rfl⟩
    have HS := Lib.hid hS
    have hq := bstr_yes S
    obtain ⟨q, hqn⟩ : ∃ q, q = (rts l).length := ⟨_, rfl⟩
    have HQ := Lib.hid hqn
    rw [← hqn]
    have J1 := Lib.hid (show ∀ W, Below w2.heap.size w2 W → Calls Tryd.prog 11 #[.slice A1 q c1] W fun e w' => e = .returned (.string S) ∧ Below W.heap.size W w' from fun W hW => by
      rw [hqn, hS]
      exact ljoin_any A1 c1 (rts l) W (HR1.out.step hW) (by omega) (by rw [rts_len]; omega))
    clear h1 h2 h3 hr1 hjl hln hm ha htx hjs hlen hS hqn
    go_wp2_with fail
    refine (J1.out w2 (Below.refl _ _)).mono ?_
    rintro e w3 ⟨rfl, hb3⟩
    have HB3 := Lib.hid hb3
    clear hb3
    go_wp2_with fail
    refine (ltoks_any S (by rw [HS.out, bts_size]; have := HM.out.2.2.2; omega) w3 (HX.out.step (HB2.out.trans (HB3.out.mono HB2.out.size)))).mono ?_
    rw [show S.data.toList = joinS (rts l) by rw [HS.out, bts_list]]
    rintro e w4 (⟨n, h1, rfl, h2⟩ | ⟨m', v, h1, rfl, h2, h3⟩)
    · exfalso
      rw [HM.out.1] at h1
      cases h1
    · obtain rfl : m = m' := by
        have := HM.out.1
        rw [this] at h1
        injection h1
      obtain ⟨A2, c2, rfl, hr2⟩ := own_rdT h2 (by rw [HLEN.out]; have := HJ.out.2; omega)
      have HB4 := Lib.hid (HB3.out.trans (h3.mono HB3.out.size))
      have HR2 := Lib.hid hr2
      have hq2 : (rts m).length = q := by rw [HQ.out, rts_len, rts_len]; exact HLEN.out
      rw [hq2]
      have HQ2 := Lib.hid hq2
      clear h1 h2 h3 hr2 hq2
      go_wp2_with fail
      refine (alike_same A1 A2 c1 c2 q (rts l) (rts m) w4 HQ.out.symm HQ2.out (fun k _ => alk_at HM.out.2.1 k) (HR1.out.step HB4.out) HR2.out (by rw [HQ.out, rts_len]; have := HJ.out.2; omega)).mono ?_
      rintro e w5 ⟨rfl, hb5⟩
      have HB5 := Lib.hid hb5
      clear hb5
      go_wp2_with fail
      have hJ2 : Calls Tryd.prog 11 #[.slice A2 q c2] w5 fun e w' => e = .returned (.string S) ∧ Below w5.heap.size w5 w' := by
        have := ljoin_any A2 c2 (rts m) w5 (HR2.out.step HB5.out) (by rw [← HM.out.2.2.1]; have := HJ.out.1; omega) (by rw [HQ2.out, HQ.out, rts_len]; have := HJ.out.2; omega)
        rw [HQ2.out] at this
        rw [HS.out, show joinS (rts l) = joinS (rts m) by unfold joinS; rw [HM.out.2.2.1]]
        exact this
      refine hJ2.mono ?_
      rintro e w6 ⟨rfl, hb6⟩
      have HB6 := Lib.hid (HB4.out.trans ((HB5.out.trans (hb6.mono HB5.out.size)).mono HB4.out.size))
      clear hb6 hJ2
      go_wp2_with fail
      refine (J1.out w6 HB6.out).mono ?_
      rintro e w7 ⟨rfl, hb7⟩
      have HB7 := Lib.hid (HB2.out.trans ((HB6.out.trans (hb7.mono HB6.out.size)).mono HB2.out.size))
      clear hb7
      go_wp2_with fail
      go_ret
      exact ⟨rfl, HB7.out⟩
end Go.Proofs.YtfekcbkafiiieaaDoor
