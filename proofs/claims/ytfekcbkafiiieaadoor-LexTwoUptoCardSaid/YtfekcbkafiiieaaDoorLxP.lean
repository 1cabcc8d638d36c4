/-
  The law LexTwo.
-/
import Derived.Test.YtfekcbkafiiieaaDoorLxK
namespace Go.Proofs.YtfekcbkafiiieaaDoor
open Go.RowKit
set_option maxRecDepth 100000

theorem own_capJ {w : World} {base e size n c : Nat} {A : Option Addr} {xs : List Value} (h : w.ownsRow base e size (.slice A n c) n xs) : n ≤ c := by
  rcases h.2 with ⟨h1, rfl⟩ | ⟨g, cap, cur, h1, _, _, h2, _⟩
  · exact Nat.zero_le _
  · injection h1 with _ _ h1
    omega
theorem cov_pos {s : List UInt8} : ∀ {l : List Tk} {a e : Nat}, cov s a l e → ∀ t, t ∈ l → t.pos ≤ e
  | [], _, _, _, t, ht => by simp at ht
  | x :: l, a, e, h, t, ht => by
    have h4 := cov_sum h.2.2.2
    have h5 : l.length ≤ (joinA (rts l)).length := by
      have : ∀ m : List Tk, m.length ≤ (joinA (rts m)).length := fun m => by
        induction m with
        | nil => simp
        | cons y m ih => rw [joinA_cons]; simp; omega
      exact this l
    rcases List.mem_cons.1 ht with e1 | e1
    · subst e1; omega
    · exact cov_pos h.2.2.2 t e1
theorem RdT.take {w : World} {B : Nat} {A : Option Addr} {ts : List RTk} (h : RdT w B A ts) (n : Nat) : RdT w B A (ts.take n) :=
  ⟨by rw [List.length_take]; have := h.room; omega, fun hn => by
    rw [List.length_take] at hn
    obtain ⟨b, off, hA, hb, hc⟩ := h.rd (by omega)
    refine ⟨b, off, hA, hb, fun k hk => ?_⟩
    rw [List.length_take] at hk
    have : rtk (ts.take n) k = rtk ts k := by
      unfold rtk
      simp only [List.getD, List.getElem?_take]
      rw [if_pos (by omega)]
    rw [this]
    exact hc k (by omega)⟩
theorem rtk_two (a b : List Tk) (d i : Nat) (h : i < b.length) : rtk (rts (a ++ b.map (Tk.sh d))) (a.length + i) = ((rtk (rts b) i).1, (rtk (rts b) i).2.1 + (d : Int), (rtk (rts b) i).2.2) := by
  unfold rtk rts
  simp only [List.getD, List.getElem?_map, List.map_append, List.map_map]
  rw [List.getElem?_append_right (by simp)]
  simp only [List.length_map, Nat.add_sub_cancel_left, List.getElem?_map, List.getElem?_eq_getElem h, Option.map_some, Option.getD_some, Function.comp]
  unfold Tk.sh
  simp
theorem rtk_pos {l : List UInt8} {b : List Tk} (h : lexd l = .ok b) (i : Nat) : 0 ≤ (rtk (rts b) i).2.1 ∧ (rtk (rts b) i).2.1 ≤ l.length := by
  have h1 := lexd_cov l
  rw [h] at h1
  unfold rtk rts
  simp only [List.getD, List.getElem?_map]
  rcases Nat.lt_or_ge i b.length with hi | hi
  · have := cov_pos h1 b[i] (List.getElem_mem hi)
    simp only [List.getElem?_eq_getElem hi, Option.map_some, Option.getD_some]
    omega
  · simp only [List.getElem?_eq_none hi, Option.map_none, Option.getD_none]
    omega

set_option maxHeartbeats 4000000 in
theorem lextwo_any (s t : ByteArray) (hs : s.size + t.size ≤ 1048576) (w : World) (hx : LxW w) : Calls Tryd.prog 6 #[.string s, .string t] w fun e w' => e = .returned (.bool true) ∧ Below w.heap.size w w' := by
  have A0 := alive10_any w hx
  have HX := Lib.hid hx
  obtain ⟨l, hl⟩ : ∃ l, l = s.data.toList := ⟨_, rfl⟩
  obtain ⟨r, hr⟩ : ∃ r, r = t.data.toList := ⟨_, rfl⟩
  have HSL : Hid (l.length = s.size ∧ r.length = t.size) := Lib.hid ⟨by rw [hl]; simp, by rw [hr]; simp⟩
  have HL := Lib.hid (And.intro hl hr)
  have hsb : s = bts l := by rw [hl]; exact bts_of rfl
  have htb : t = bts r := by rw [hr]; exact bts_of rfl
  have a1 : ∀ W, (Op.stringOp .add s (ByteArray.mk #[32])).run Tryd.prog W = .ok (.string (bts (l ++ [32]))) W := fun W => by
    rw [hsb]; exact add_b l [32] (by simp; have := HSL.out; omega) W
  have a2 : ∀ W, (Op.stringOp .add (bts (l ++ [32])) t).run Tryd.prog W = .ok (.string (bts ((l ++ [32]) ++ r))) W := fun W => by
    rw [htb]; exact add_b (l ++ [32]) r (by simp; have := HSL.out; omega) W
  obtain ⟨X1, hX1⟩ : ∃ X1, X1 = bts (l ++ [32]) := ⟨_, rfl⟩
  rw [← hX1] at a1 a2
  obtain ⟨u, hu⟩ : ∃ u, u = bts ((l ++ [32]) ++ r) := ⟨_, rfl⟩
  rw [← hu] at a2
  have HU : Hid (u.data.toList = l ++ 32 :: r ∧ u.size ≤ 4194304) := Lib.hid (by
    rw [hu]
    refine ⟨by rw [bts_list]; simp, ?_⟩
    rw [bts_size]; simp; have := HSL.out; omega)
  have HT := Lib.hid (lexd_two l r)
  clear hx hl hr hsb htb hX1 hu
  go_enter Tryd.func6, Tryd.ntmps6
  go_wp2_with fail
  refine A0.mono ?_
  rintro e w1 ⟨rfl, hb1⟩
  have HB1 := Lib.hid hb1
  clear hb1 A0
  go_wp2_with fail
  refine (ltoks_any s (by omega) w1 (HX.out.step HB1.out)).mono ?_
  rw [← HL.out.1]
  rintro e w2 hA
  have hA' : (∃ n : Nat, lexd l = .err n ∧ e = .returned (.tuple #[.slice none 0 0, .int .i64 (n : Int), .int .i64 1]) ∧ Below w1.heap.size w1 w2) ∨ (∃ ts v, lexd l = .ok ts ∧ e = .returned (.tuple #[v, .int .i64 0, .int .i64 0]) ∧ w2.ownsRow w1.heap.size 28 3 v ts.length (tVals ts) ∧ Below w1.heap.size w1 w2) := hA
  clear hA
  rcases hA' with ⟨n, h1, rfl, h2⟩ | ⟨a, v, h1, rfl, h2, h3⟩
  · have HE := Lib.hid h1
    have HB2 := Lib.hid (HB1.out.trans (h2.mono HB1.out.size))
    have HEU : Hid (lexd u.data.toList = .err n) := Lib.hid (by rw [HU.out.1, HT.out, HE.out])
    clear h1 h2
    go_wp2_with fail
    refine (ltoks_any t (by omega) w2 (HX.out.step HB2.out)).mono ?_
    rintro e w3 (⟨m, h1, rfl, h2⟩ | ⟨b, v, h1, rfl, h2, h3⟩)
    · have HB3 := Lib.hid (HB2.out.trans (h2.mono HB2.out.size))
      clear h1 h2
      go_wp2_with fail
      refine (ltoks_any u HU.out.2 w3 (HX.out.step HB3.out)).mono ?_
      rintro e w4 (⟨m', h1, rfl, h2⟩ | ⟨b, v, h1, rfl, h2, h3⟩)
      · obtain rfl : n = m' := by
          rw [HEU.out] at h1
          injection h1
        have HB4 := Lib.hid (HB3.out.trans (h2.mono HB3.out.size))
        clear h1 h2
        go_wp2_with fail
        go_ret
        exact ⟨rfl, HB4.out⟩
      · exfalso
        rw [HEU.out] at h1
        cases h1
    · obtain ⟨A2, c2, rfl, _⟩ := own_rdT h2 (by have := lexd_len h1; rw [← HL.out.2] at this; have := HSL.out; omega)
      have HB3 := Lib.hid (HB2.out.trans (h3.mono HB2.out.size))
      clear h1 h2 h3
      go_wp2_with fail
      refine (ltoks_any u HU.out.2 w3 (HX.out.step HB3.out)).mono ?_
      rintro e w4 (⟨m', h1, rfl, h2⟩ | ⟨b, v, h1, rfl, h2, h3⟩)
      · obtain rfl : n = m' := by
          rw [HEU.out] at h1
          injection h1
        have HB4 := Lib.hid (HB3.out.trans (h2.mono HB3.out.size))
        clear h1 h2
        go_wp2_with fail
        go_ret
        exact ⟨rfl, HB4.out⟩
      · exfalso
        rw [HEU.out] at h1
        cases h1
  · have hcapA : ∀ A n c, v = .slice A n c → n = a.length → True := fun _ _ _ _ _ => trivial
    clear hcapA
    obtain ⟨A1, c1, rfl, hr1⟩ := own_rdT h2 (by have := lexd_len h1; have := HSL.out; omega)
    have hla := lexd_len h1
    have HB2 := Lib.hid (HB1.out.trans (h3.mono HB1.out.size))
    have HA := Lib.hid (And.intro h1 (And.intro hr1 hla))
    obtain ⟨p, hp⟩ : ∃ p, p = (rts a).length := ⟨_, rfl⟩
    have HP : Hid (p = a.length) := Lib.hid (by rw [hp, rts_len])
    rw [← hp]
    clear h1 h2 h3 hr1 hla hp
    go_wp2_with fail
    refine (ltoks_any t (by omega) w2 (HX.out.step HB2.out)).mono ?_
    rw [← HL.out.2]
    rintro e w3 (⟨m, h1, rfl, h2⟩ | ⟨b, v, h1, rfl, h2, h3⟩)
    · have HB3 := Lib.hid (HB2.out.trans (h2.mono HB2.out.size))
      have HEU : Hid (lexd u.data.toList = .err (m + (l.length + 1))) := Lib.hid (by rw [HU.out.1, HT.out, HA.out.1, h1])
      have hm := lexd_cov r
      rw [h1] at hm
      have hm2 : m < 1048576 := by have : m < r.length := hm; have := HSL.out; omega
      clear h1 h2 hm
      go_wp2_with fail
      refine (ltoks_any u HU.out.2 w3 (HX.out.step HB3.out)).mono ?_
      rintro e w4 (⟨m', h1, rfl, h2⟩ | ⟨b, v, h1, rfl, h2, h3⟩)
      · have hm' : (m' : Int) = (m : Int) + (s.size : Int) + 1 := by
          rw [HEU.out] at h1
          injection h1 with h1
          have := HSL.out
          omega
        rw [hm']
        have HB4 := Lib.hid (HB3.out.trans (h2.mono HB3.out.size))
        clear h1 h2 hm'
        go_wp2_with fail
        go_ret
        exact ⟨rfl, HB4.out⟩
      · exfalso
        rw [HEU.out] at h1
        cases h1
    · obtain ⟨A2, c2, rfl, hr2⟩ := own_rdT h2 (by have := lexd_len h1; have := HSL.out; omega)
      have hlb := lexd_len h1
      have HB3 := Lib.hid (HB2.out.trans (h3.mono HB2.out.size))
      have HEU : Hid (lexd u.data.toList = .ok (a ++ b.map (Tk.sh (l.length + 1)))) := Lib.hid (by rw [HU.out.1, HT.out, HA.out.1, h1])
      have HBB := Lib.hid (And.intro h1 (And.intro hr2 hlb))
      have HAR := Lib.hid (HA.out.2.1.step h3)
      obtain ⟨q, hq⟩ : ∃ q, q = (rts b).length := ⟨_, rfl⟩
      have HQ : Hid (q = b.length) := Lib.hid (by rw [hq, rts_len])
      rw [← hq]
      clear h1 h2 h3 hr2 hlb hq
      go_wp2_with fail
      refine (ltoks_any u HU.out.2 w3 (HX.out.step HB3.out)).mono ?_
      rintro e w4 (⟨m', h1, rfl, h2⟩ | ⟨c, v, h1, rfl, h2, h3⟩)
      · exfalso
        rw [HEU.out] at h1
        cases h1
      · obtain rfl : a ++ b.map (Tk.sh (l.length + 1)) = c := by
          rw [HEU.out] at h1
          injection h1
        obtain ⟨A3, c3, hv, hr3⟩ := own_rdT h2 (by have h9 := lexd_len (l := l ++ 32 :: r) (by rw [← HU.out.1]; exact HEU.out); simp only [List.length_append, List.length_cons] at h9 ⊢; have := HSL.out; omega)
        subst hv
        have hpq : (rts (a ++ b.map (Tk.sh (l.length + 1)))).length = p + q := by rw [rts_len, HP.out, HQ.out]; simp
        have hcap : p + q ≤ c3 := by
          rw [rts_len] at h2 hpq
          have := own_capJ h2
          omega
        have HB4 := Lib.hid (HB3.out.trans (h3.mono HB3.out.size))
        have HR := Lib.hid (And.intro (HAR.out.step h3) (And.intro (HBB.out.2.1.step h3) hr3))
        have HPQ := Lib.hid hpq
        rw [hpq]
        have hpb : p ≤ 1048576 := by rw [HP.out]; have := HA.out.2.2; have := HSL.out; omega
        have hqb : q ≤ 1048576 := by rw [HQ.out]; have := HBB.out.2.2; have := HSL.out; omega
        have HPB := Lib.hid (And.intro hpb hqb)
        clear h1 h2 h3 hr3 hpq
        go_wp2_with fail
        obtain ⟨wo, rfl⟩ : ∃ wo : World, wo = w4 := ⟨_, rfl⟩
        go_loopw [14, 15, 79] (fun _ _ v wr => ∃ i : Nat, i ≤ q ∧ v = .int .i64 (i : Int) ∧ Below wo.heap.size wo wr) (fun _ _ v _ => q - (intOf v).toNat)
        case atStart => exact ⟨0, Nat.zero_le _, rfl, Below.refl _ _⟩
        case round =>
          obtain ⟨i, hi, rfl, hb⟩ := hrel
          by_cases hlt : i < q
          · have hib : i < b.length := by rw [← HQ.out]; exact hlt
            obtain ⟨bb, ob, rfl, hbb, hcb⟩ := HR.out.2.1.rd (by rw [rts_len]; omega)
            obtain ⟨bc, oc, rfl, hbc, hcc⟩ := HR.out.2.2.rd (by rw [HPQ.out]; omega)
            obtain ⟨q0, q1, q2⟩ := hcb i (by rw [rts_len]; exact hib)
            obtain ⟨e0, e1, e2⟩ := hcc (p + i) (by rw [HPQ.out]; omega)
            rw [show p + i = a.length + i by rw [HP.out], rtk_two a b (l.length + 1) i hib, show a.length + i = p + i by rw [HP.out]] at e0 e1 e2
            have hps := rtk_pos HBB.out.1 i
            obtain ⟨⟨K, P, S⟩, hT⟩ : ∃ T, T = rtk (rts b) i := ⟨_, rfl⟩
            rw [← hT] at q0 q1 q2 e0 e1 e2 hps
            dsimp only at q0 q1 q2 e0 e1 e2 hps
            replace q0 := (hb.cell (p := ⟨bb, ob + i * 3, none⟩) hbb).trans q0
            replace q1 := (hb.cell (p := ⟨bb, ob + i * 3 + 1, none⟩) hbb).trans q1
            replace q2 := (hb.cell (p := ⟨bb, ob + i * 3 + 2, none⟩) hbb).trans q2
            replace e0 := (hb.cell (p := ⟨bc, oc + (p + i) * 3, none⟩) hbc).trans e0
            replace e1 := (hb.cell (p := ⟨bc, oc + (p + i) * 3 + 1, none⟩) hbc).trans e1
            replace e2 := (hb.cell (p := ⟨bc, oc + (p + i) * 3 + 2, none⟩) hbc).trans e2
            have hP1 : P + ((l.length + 1 : Nat) : Int) = P + ((s.size : Int) + 1) := by have := HSL.out; omega
            rw [hP1] at e1
            have hpr : P ≤ 1048576 := by have := HSL.out; omega
            have hp0 : 0 ≤ P := hps.1
            have hq := fun W => tk_same K (P + ((s.size : Int) + 1)) S W
            have hbcl : bc < wr.heap.size := Nat.lt_of_lt_of_le hbc hb.size
            have HBR := Lib.hid hb
            clear hcb hcc hT hps hP1 hb
            go_wp2_with fail
            have hbk := World.alloc_heap_new wr (.cells #[.int .i64 K, .int .i64 (P + ((s.size : Int) + 1)), .string S] 28)
            have hal := below_allocJ wr (.cells #[.int .i64 K, .int .i64 (P + ((s.size : Int) + 1)), .string S] 28)
            replace e0 := (hal.cell (p := ⟨bc, oc + (p + i) * 3, none⟩) hbcl).trans e0
            replace e1 := (hal.cell (p := ⟨bc, oc + (p + i) * 3 + 1, none⟩) hbcl).trans e1
            replace e2 := (hal.cell (p := ⟨bc, oc + (p + i) * 3 + 2, none⟩) hbcl).trans e2
            obtain ⟨w6, hw6⟩ : ∃ w6, w6 = wr.alloc (.cells #[.int .i64 K, .int .i64 (P + ((s.size : Int) + 1)), .string S] 28) := ⟨_, rfl⟩
            obtain ⟨D, hD⟩ : ∃ D, D = wr.heap.size := ⟨_, rfl⟩
            rw [← hw6] at hbk hal e0 e1 e2 ⊢
            rw [← hD] at hbk ⊢
            obtain ⟨d0, d1, d2⟩ := (show TkB D K (P + ((s.size : Int) + 1)) S w6 from hbk).cells
            have HB6 := Lib.hid (HBR.out.trans (hal.mono HBR.out.size))
            have hpi0 : (0 : Int) ≤ (p : Int) + (i : Int) := by omega
            have hpi1 : (p : Int) + (i : Int) < (p : Int) + (q : Int) := by omega
            clear hbk hal hw6 hD q0 q1 q2 hbcl
            go_quiet (fail)
            go_wp2_with fail
            go_roundw
            case rel => exact ⟨i + 1, by omega, by go_num, below_drewN' HB6.out nq⟩
            case measure => simp [intOf]; omega
          · obtain rfl : i = q := by omega
            have HBR := Lib.hid hb
            clear hb
            go_wp2_with fail
            have htk : ((rts (a ++ b.map (Tk.sh (l.length + 1)))).take p).length = p := by rw [List.length_take, HPQ.out]; omega
            have hat : ∀ k, k < p → rtk ((rts (a ++ b.map (Tk.sh (l.length + 1)))).take p) k = rtk (rts a) k := fun k hk => by
              unfold rtk rts
              rw [List.map_append, List.take_append_of_le_length (by rw [List.length_map, HP.out]; exact Nat.le_refl _)]
              simp only [List.getD, List.getElem?_take]
              rw [if_pos hk]
            refine (alike_same A3 A1 c3 c1 p ((rts (a ++ b.map (Tk.sh (l.length + 1)))).take p) (rts a) wr htk (by rw [rts_len]; exact HP.out.symm) (fun k hk => by rw [hat k hk]; exact ⟨rfl, rfl⟩) ((HR.out.2.2.step HBR.out).take p) (HR.out.1.step HBR.out) (by omega)).mono ?_
            rintro e w7 ⟨rfl, hb7⟩
            have HF := Lib.hid (HB4.out.trans ((HBR.out.trans (hb7.mono HBR.out.size)).mono HB4.out.size))
            clear hb7 htk hat
            go_wp2_with fail
            go_ret
            exact ⟨rfl, HF.out⟩
end Go.Proofs.YtfekcbkafiiieaaDoor
