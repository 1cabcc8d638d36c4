/-
  Contract of the reference's JTokens.
-/
import Derived.Test.YtfekcbkafiiieaaDoorLxT
import Derived.Test.YtfekcbkafiiieaaDoorBsOps
import Derived.Test.YtfekcbkafiiieaaDoorItO
import Derived.BigRegion
import Derived.Deep.AppendLies
import Derived.Laws.Strings2
import Derived.Laws.Concat
import Derived.Lib.Strings
namespace Go.Proofs.YtfekcbkafiiieaaDoor
open Go.RowKit
set_option maxRecDepth 100000

/-- what a call of Tokens answers -/
def ToksR (l : List UInt8) (w : World) (e : Ending) (w' : World) : Prop :=
  (∃ n : Nat, lexd l = .err n ∧ e = .returned (.tuple #[.slice none 0 0, .int .i64 (n : Int), .int .i64 1]) ∧ Below w.heap.size w w') ∨
  (∃ ts v, lexd l = .ok ts ∧ e = .returned (.tuple #[v, .int .i64 0, .int .i64 0]) ∧ w'.ownsRow w.heap.size 28 3 v ts.length (tVals ts) ∧ Below w.heap.size w w')
theorem own_stpJ {w w' : World} {base e size n : Nat} {v : Value} {xs : List Value} (h : w.ownsRow base e size v n xs) (hb : Below w.heap.size w w') : w'.ownsRow base e size v n xs := by
  rcases h.2 with h0 | ⟨g, cap, cur, hv, hg, hh, hr⟩
  · exact ⟨h.1, .inl h0⟩
  · exact ⟨h.1, .inr ⟨g, cap, cur, hv, hg, (hb.block g (Array.getElem?_eq_some_iff.1 hh).1).trans hh, hr⟩⟩
theorem bts_of {s : ByteArray} {l : List UInt8} (h : s.data.toList = l) : s = bts l := by
  apply ByteArray.ext
  rw [← Array.toList_inj, h]
  simp [bts]
theorem bts_app (a b : List UInt8) : bts a ++ bts b = bts (a ++ b) := by
  apply bts_of
  rw [show (bts a ++ bts b).data = (bts a).data ++ (bts b).data from ByteArray.data_append, Array.toList_append, bts_list, bts_list]
theorem extract_list (s : ByteArray) (a b : Nat) : (s.extract a b).data.toList = (s.data.toList.take b).drop a := by
  rw [ByteArray.data_extract, Array.toList_extract]
  simp [List.extract, List.take_drop]
  rcases Nat.le_total a b with h | h
  · rw [show a + (b - a) = b by omega]
  · rw [show a + (b - a) = a by omega, List.drop_eq_nil_of_le (by simp; omega), List.drop_eq_nil_of_le (by simp; omega)]
theorem extract_one {s : ByteArray} {i : Nat} (h : i < s.size) : s.extract i (i + 1) = bts [s[i]'h] := by
  apply bts_of
  rw [extract_list]
  have h2 : i < s.data.toList.length := by simpa using h
  rw [List.take_succ_eq_append_getElem h2, List.drop_append]
  have : i - min i s.size = 0 := by omega
  simp [this]
  rfl
theorem run_sl1 (s : ByteArray) {i : Nat} (h : i < s.size) {c : UInt8} (hc : c = s[i]'h) (W : World) : (Instr.slice 9 (.string s) (some (.int .i64 (i : Int))) (some (.int .i64 ((i : Int) + 1))) none).run Tryd.prog W = .ok (.string (bts [c])) W := by
  rw [run_slice_string W 9 s .i64 .i64 (i : Int) ((i : Int) + 1) Tryd.underlying9 (by omega) (by omega) (by omega)]
  have : s.extract ((i : Int).toNat) (((i : Int) + 1).toNat) = bts [c] := by
    rw [show ((i : Int)).toNat = i by omega, show ((i : Int) + 1).toNat = i + 1 by omega, extract_one h, hc]
  rw [this]
theorem below_allocJ (w : World) (o : Obj) : Below w.heap.size w (w.alloc o) := (Below.refl _ w).alloc (Nat.le_refl _) _
/-- all that is begun and ended -/
def Ts.all (st : Ts) : List Tk := match st.op with | some t => st.out ++ [t] | none => st.out

theorem Tryd.infoTk : (Tryd.prog.info? 28).map (fun i => (i.zero, i.size, i.bytes)) = some (some (.agg #[.int .i64 0, .int .i64 0, .string ⟨#[]⟩]), 3, 32) := by kernel_rfl
set_option maxHeartbeats 8000000 in
theorem jtokens_any (s : ByteArray) (hs : s.size ≤ 4194304) (w : World) (hx : LxW w) : Calls Tryd.prog 9 #[.string s] w (ToksR s.data.toList w) := by
  obtain ⟨l, hl⟩ : ∃ l, l = s.data.toList := ⟨_, rfl⟩
  have hls : l.length = s.size := by rw [hl]; simp
  have HL := Lib.hid hl
  have HLS := Lib.hid hls
  have HX := Lib.hid hx
  rw [← hl]
  clear hl hls hx
  obtain ⟨i0, hi0, hz0, hz1, hz2⟩ := info_parts Tryd.infoTk
  go_enter Tryd.func9, Tryd.ntmps9
  go_wp2_with fail
  go_loopw [5, 6, 7, 8, 9, 10, 11, 15] (fun v5 v6 _ _ _ _ _ v15 wr => ∃ (i : Nat) (st : Ts), i ≤ s.size ∧ v15 = .int .i64 (i : Int) ∧ stps (l.take i) 0 ⟨[], none⟩ = .ok st ∧ st.good i ∧ v6 = .bool st.op.isSome ∧ wr.ownsRow w.heap.size 28 3 v5 st.all.length (tVals st.all) ∧ Below w.heap.size w wr) (fun _ _ _ _ _ _ _ v _ => s.size - (intOf v).toNat)
  case atStart => exact ⟨0, ⟨[], none⟩, Nat.zero_le _, rfl, rfl, ⟨by simp, fun t ht => by cases ht⟩, rfl, World.ownsRow_nil _ _ _ _, Below.refl _ _⟩
  case round =>
    obtain ⟨i, st, hi, rfl, hst, hgood, rfl, hown, hb⟩ := hrel
    by_cases hlt : i < s.size
    · have hil : i < l.length := by rw [HLS.out]; exact hlt
      obtain ⟨c, hc⟩ : ∃ c, c = s[i]'hlt := ⟨_, rfl⟩
      have hcl : l[i] = c := by rw [hc]; simp only [HL.out]; rfl
      have HST := Lib.hid hst
      have HG := Lib.hid hgood
      clear hst
      obtain ⟨out, op⟩ := st
      cases op with
      | none =>
        obtain ⟨A5, c5, rfl⟩ : ∃ A c, u5 = .slice A (Ts.mk out none).all.length c := by
          rcases hown.2 with ⟨rfl, h0⟩ | ⟨g, cap, cur, hv, _⟩
          · exact ⟨none, 0, by rw [h0]⟩
          · exact ⟨_, _, hv⟩
        have hall : (Ts.mk out none).all = out := rfl
        rw [hall] at hown ⊢
        have hol : out.length ≤ i := by have := hgood.1; simpa using this
        obtain ⟨k, hk⟩ : ∃ k, k = jcls c := ⟨_, rfl⟩
        have hk4 : k ≤ 4 := by rw [hk]; exact jcls_le c
        have HK := Lib.hid hk
        have HC := Lib.hid hc
        have HCL := Lib.hid hcl
        clear hgood hk hc hcl
        go_wp2_with fail
        rw [← HC.out]
        refine (jclass_any c wr).mono ?_
        rintro e w2 ⟨rfl, hb2⟩
        rw [← HK.out]
        have hown2 := own_stpJ hown hb2
        have hB2 := hb.trans (hb2.mono hb.size)
        clear hown hb hb2
        by_cases h4 : k = 4
        · subst h4
          have HE := Lib.hid (lexd_err HST.out hil (n := i) (by rw [HCL.out]; unfold stp; rw [if_pos HK.out.symm]))
          have HB := Lib.hid hB2
          clear hown2 hB2
          go_wp2_with fail
          go_ret3
          exact .inl ⟨i, HE.out, rfl, HB.out⟩
        · have hstp : stp ⟨out, none⟩ i c = .ok (fresh out i c) := by unfold stp; rw [← HK.out, if_neg h4]
          have HS2 := Lib.hid (stps_take HST.out hil (by rw [HCL.out]; exact hstp))
          have HG2 := Lib.hid (stp_good HG.out hstp)
          clear hstp
          by_cases h0 : k = 0
          · subst h0
            have hf : fresh out i c = ⟨out, none⟩ := by unfold fresh; rw [if_pos HK.out.symm]
            rw [hf] at HS2 HG2
            have HO := Lib.hid (And.intro hown2 hB2)
            clear hf hown2 hB2 h4
            go_wp2_with fail
            go_roundw
            case rel => exact ⟨i + 1, ⟨out, none⟩, by omega, by go_num, HS2.out, HG2.out, rfl, HO.out.1, HO.out.2⟩
            case measure => simp [intOf]; omega
          · have hf : fresh out i c = ⟨out, some ⟨k, i, [c]⟩⟩ := by unfold fresh; rw [← HK.out, if_neg h0]
            rw [hf] at HS2 HG2
            have n4 : ((k : Int) == 4) = false := by rw [beq_eq_false_iff_ne]; omega
            have hk0 : (0 : Int) < (k : Int) := by omega
            have hi1 : i + 1 ≤ s.size := by omega
            have hsl := fun W => run_sl1 s hlt HC.out W
            have hbase : w.heap.size ≤ w2.heap.size := hB2.size
            have hKB := TkB.new w2 (k : Int) (i : Int) (bts [c])
            have HB := Lib.hid hB2
            have hown3 := hown2.alloc (.cells #[.int .i64 (k : Int), .int .i64 (i : Int), .string (bts [c])] 28)
            have hbs := own_base hown2
            clear hf h4 h0 hown2 hB2
            go_wp2_with (at_builtin; refine wpList_append_own _ rfl _ _ 22 rfl w.heap.size 28 i0 (.agg #[.int .i64 0, .int .i64 0, .string ⟨#[]⟩]) 3 32 Tryd.underlying22 hi0 hz0 hz1 hz2 rfl (by decide) _ _ _ rfl hown3 ⟨w2.heap.size, 0, none⟩ 1 1 [.int .i64 (k : Int), .int .i64 (i : Int), .string (bts [c])] rfl rfl (World.news_of_block (cs := #[.int .i64 (k : Int), .int .i64 (i : Int), .string (bts [c])]) (t := 28) (fr := (0, 0)) hKB) (by simp [Value.oneCell']) (by unfold maxLen; omega) (by omega) (by simp; omega) ?_; intro v' w6 hown6 hgrow6 _)
            have hB6 : Below w.heap.size w w6 := (HB.out.alloc HB.out.size _).grown hgrow6 (by simp; omega) hbs
            have hown7 : w6.ownsRow w.heap.size 28 3 v' (Ts.mk out (some ⟨k, i, [c]⟩)).all.length (tVals (Ts.mk out (some ⟨k, i, [c]⟩)).all) := by
              show w6.ownsRow w.heap.size _ 3 v' (out ++ [_]).length (tVals (out ++ [_]))
              rw [tVals_snoc, List.length_append]
              exact hown6
            have HO := Lib.hid (And.intro hown7 hB6)
            clear hown7 hB6 hown6 hgrow6 hown3 hKB hbs
            go_wp2_with fail
            go_roundw
            case rel => exact ⟨i + 1, ⟨out, some ⟨k, i, [c]⟩⟩, by omega, by go_num, HS2.out, HG2.out, rfl, HO.out.1, HO.out.2⟩
            case measure => simp [intOf]; omega
      | some t =>
        have hall : (Ts.mk out (some t)).all = out ++ [t] := rfl
        rw [hall, List.length_append, List.length_singleton] at hown
        obtain ⟨g, cap, rfl, hbg, hgl, _, hfz, hcell⟩ := own_shape3 hown (by omega)
        obtain ⟨m1, m2, m3⟩ := tVals_last out t
        have hol : out.length + 1 ≤ i := hgood.1
        obtain ⟨gk, gne, gtl, gp, gd⟩ := hgood.2 t rfl
        have HJ := Lib.hid (jnum_ok_tk gne gd)
        have c0 := (hcell (out.length * 3) (by omega)).trans m1
        have c1 := (hcell (out.length * 3 + 1) (by omega)).trans m2
        have c2 := (hcell (out.length * 3 + 2) (by omega)).trans m3
        obtain ⟨n, hn⟩ : ∃ n, n = out.length := ⟨_, rfl⟩
        have HN := Lib.hid hn
        have hown' : wr.ownsRow w.heap.size 28 3 (.slice (some ⟨g, 0, none⟩) (n + 1) cap) (n + 1) (tVals (out ++ [t])) := by rw [hn]; exact hown
        rw [← hn] at c0 c1 c2 hol ⊢
        have htx : (bts t.tx).size ≤ 281474976710656 := by rw [bts_size]; omega
        have HTX := Lib.hid htx
        obtain ⟨k, hk⟩ : ∃ k, k = jcls c := ⟨_, rfl⟩
        have hk4 : k ≤ 4 := by rw [hk]; exact jcls_le c
        have HK := Lib.hid hk
        have HC := Lib.hid hc
        have HCL := Lib.hid hcl
        have HGT := Lib.hid (And.intro gk (And.intro gtl gp))
        clear hgood hk hc hcl hown hcell m1 m2 m3 hn htx gk gne gtl gd hall
        go_wp2_with fail
        rw [← HC.out]
        refine (jclass_any c wr).mono ?_
        rintro e w2 ⟨rfl, hb2⟩
        rw [← HK.out]
        have hown2 := own_stpJ hown' hb2
        have hB2 := hb.trans (hb2.mono hb.size)
        replace c0 := (hb2.cell (p := ⟨g, n * 3, none⟩) hgl).trans c0
        replace c1 := (hb2.cell (p := ⟨g, n * 3 + 1, none⟩) hgl).trans c1
        replace c2 := (hb2.cell (p := ⟨g, n * 3 + 2, none⟩) hgl).trans c2
        have hgl2 : g < w2.heap.size := Nat.lt_of_lt_of_le hgl hb2.size
        have hfz2 : ∀ i, w2.frozen? ⟨g, i, none⟩ = false := fun i => (hb2.frozen (p := ⟨g, i, none⟩) hgl).trans (hfz i)
        have hx2 := HX.out.step hB2
        have HX2 := Lib.hid hx2
        clear hown' hb hb2 hgl hfz hx2
        by_cases h4 : k = 4
        · subst h4
          have HB := Lib.hid hB2
          clear hown2 hB2
          go_wp2_with fail
          refine (jnumber_any ((t.k : Nat) : Int) ((t.pos : Nat) : Int) (bts t.tx) HTX.out w2 HX2.out).mono ?_
          rintro e w3 ⟨rfl, hb3⟩
          rw [HJ.out]
          have HB3 := Lib.hid (HB.out.trans (hb3.mono HB.out.size))
          replace c1 := (hb3.cell (p := ⟨g, n * 3 + 1, none⟩) hgl2).trans c1
          cases hto : t.ok with
          | false =>
            have HE := Lib.hid (lexd_err HST.out hil (n := t.pos) (by rw [HCL.out]; unfold stp; dsimp only; rw [if_pos HK.out.symm, hto]; rfl))
            clear hto c0 c2 hb3
            go_wp2_with fail
            go_quiet (fail)
            go_wp2_with fail
            go_ret3
            exact .inl ⟨t.pos, HE.out, rfl, below_drewN' HB3.out nq⟩
          | true =>
            have HE := Lib.hid (lexd_err HST.out hil (n := i) (by rw [HCL.out]; unfold stp; dsimp only; rw [if_pos HK.out.symm, hto]; rfl))
            clear hto c0 c1 c2 hb3
            go_wp2_with fail
            go_ret3
            exact .inl ⟨i, HE.out, rfl, HB3.out⟩
        · have n4 : ((k : Int) == 4) = false := by rw [beq_eq_false_iff_ne]; omega
          have hKB := TkB.new w2 ((t.k : Nat) : Int) ((t.pos : Nat) : Int) (bts t.tx)
          have hal := below_allocJ w2 (.cells #[.int .i64 ((t.k : Nat) : Int), .int .i64 ((t.pos : Nat) : Int), .string (bts t.tx)] 28)
          obtain ⟨D, hD⟩ : ∃ D, D = w2.heap.size := ⟨_, rfl⟩
          obtain ⟨w3, hw3⟩ : ∃ w3, w3 = w2.alloc (.cells #[.int .i64 ((t.k : Nat) : Int), .int .i64 ((t.pos : Nat) : Int), .string (bts t.tx)] 28) := ⟨_, rfl⟩
          rw [← hD] at hKB
          rw [← hw3] at hKB hal
          have HW3 := Lib.hid hw3
          have HD := Lib.hid hD
          have hown3 := own_stpJ hown2 hal
          have hB3 := hB2.trans (hal.mono hB2.size)
          have HX3 := Lib.hid (HX2.out.step hal)
          have d0 := (hal.cell (p := ⟨g, n * 3, none⟩) hgl2).trans c0
          have d1 := (hal.cell (p := ⟨g, n * 3 + 1, none⟩) hgl2).trans c1
          have d2 := (hal.cell (p := ⟨g, n * 3 + 2, none⟩) hgl2).trans c2
          have hgl3 : g < w3.heap.size := Nat.lt_of_lt_of_le hgl2 hal.size
          have hfz3 : ∀ i, w3.frozen? ⟨g, i, none⟩ = false := fun i => (hal.frozen (p := ⟨g, i, none⟩) hgl2).trans (hfz2 i)
          have hDg : D ≠ g := by omega
          obtain ⟨k0, k1, k2⟩ := hKB.cells
          have HBW := Lib.hid hbg
          clear hown2 hB2 hal hw3 hD hfz2 hgl2
          go_upto_region 15 with fail
          rw [← HW3.out, ← HD.out]
          clear c0 c1 c2
          go_cut [80] from 50 to 80 (fun v wx => v = .bool (tkext t k c) ∧ wx = w3)
          case first =>
            have HCC := Lib.hid (And.intro HGT.out HC.out)
            have hbc : ∀ (b : Bool), (decide (c = 61)) = b → (((s[i]'hlt).toNat : Int) == 61) = b := fun b hb => by
              rw [← HC.out, ← hb, Bool.eq_iff_iff, beq_iff_eq, decide_eq_true_iff]
              have e61 : (61 : UInt8).toNat = 61 := rfl
              constructor
              · intro e; exact UInt8.toNat_inj.1 (by omega)
              · intro e; rw [e]; rfl
            have htc : ∀ (b : Bool), (decide (t.tx = [61])) = b → ((bts t.tx).toList == [61]) = b := fun b hb => by
              have e61 : (bts [61]).toList = [61] := by rw [ByteArray.toList_eq]; rfl
              rw [← hb]
              by_cases e : t.tx = [61]
              · rw [decide_eq_true e, e, e61]; rfl
              · rw [decide_eq_false e]
                have := bstr_no (a := bts t.tx) (b := bts [61]) (fun h => e (bts_inj (b := [61]) h))
                rw [e61] at this
                exact this
            have hk4' : k ≤ 3 := by omega
            clear d0 d1 d2 hown3 hB3 hfz3
            rcases (show t.k = 1 ∨ t.k = 2 ∨ t.k = 3 from HGT.out.1) with ek | ek | ek
            · rcases (show k = 1 ∨ k = 2 ∨ (k ≠ 1 ∧ k ≠ 2) by omega) with eq | eq | eq
              · have q1 : (((t.k : Nat) : Int) == 1) = true := by rw [beq_iff_eq]; omega
                have q2 : (((t.k : Nat) : Int) == 2) = false := by rw [beq_eq_false_iff_ne]; omega
                have q3 : ((k : Int) == 1) = true := by rw [beq_iff_eq]; omega
                have q4 : ((k : Int) == 2) = false := by rw [beq_eq_false_iff_ne]; omega
                have HV : Hid (tkext t k c = true) := Lib.hid (by unfold tkext; simp [ek, eq])
                clear ek eq htc hbc
                go_wp2_with fail
                go_meet
                case rel => exact ⟨by rw [HV.out], rfl⟩
              · cases et : decide (t.tx = [61])
                · have q1 : (((t.k : Nat) : Int) == 1) = true := by rw [beq_iff_eq]; omega
                  have q2 : (((t.k : Nat) : Int) == 2) = false := by rw [beq_eq_false_iff_ne]; omega
                  have q3 : ((k : Int) == 1) = false := by rw [beq_eq_false_iff_ne]; omega
                  have q4 : ((k : Int) == 2) = true := by rw [beq_iff_eq]; omega
                  have ht3 := htc _ et
                  have HV : Hid (tkext t k c = false) := Lib.hid (by unfold tkext; rw [et]; simp [ek, eq])
                  clear ek eq htc hbc et
                  go_wp2_with fail
                  go_meet
                  case rel => exact ⟨by rw [HV.out], rfl⟩
                · cases ec : decide (c = 61)
                  · have q1 : (((t.k : Nat) : Int) == 1) = true := by rw [beq_iff_eq]; omega
                    have q2 : (((t.k : Nat) : Int) == 2) = false := by rw [beq_eq_false_iff_ne]; omega
                    have q3 : ((k : Int) == 1) = false := by rw [beq_eq_false_iff_ne]; omega
                    have q4 : ((k : Int) == 2) = true := by rw [beq_iff_eq]; omega
                    have ht3 := htc _ et
                    have hc3 := hbc _ ec
                    have HV : Hid (tkext t k c = false) := Lib.hid (by unfold tkext; rw [et, ec]; simp [ek, eq])
                    clear ek eq htc hbc et ec
                    go_wp2_with fail
                    go_meet
                    case rel => exact ⟨by rw [HV.out], rfl⟩
                  · have q1 : (((t.k : Nat) : Int) == 1) = true := by rw [beq_iff_eq]; omega
                    have q2 : (((t.k : Nat) : Int) == 2) = false := by rw [beq_eq_false_iff_ne]; omega
                    have q3 : ((k : Int) == 1) = false := by rw [beq_eq_false_iff_ne]; omega
                    have q4 : ((k : Int) == 2) = true := by rw [beq_iff_eq]; omega
                    have ht3 := htc _ et
                    have hc3 := hbc _ ec
                    have HV : Hid (tkext t k c = true) := Lib.hid (by unfold tkext; rw [et, ec]; simp [ek, eq])
                    clear ek eq htc hbc et ec
                    go_wp2_with fail
                    go_meet
                    case rel => exact ⟨by rw [HV.out], rfl⟩
              · cases et : decide (t.tx = [61])
                · have q1 : (((t.k : Nat) : Int) == 1) = true := by rw [beq_iff_eq]; omega
                  have q2 : (((t.k : Nat) : Int) == 2) = false := by rw [beq_eq_false_iff_ne]; omega
                  have q3 : ((k : Int) == 1) = false := by rw [beq_eq_false_iff_ne]; omega
                  have q4 : ((k : Int) == 2) = false := by rw [beq_eq_false_iff_ne]; omega
                  have ht3 := htc _ et
                  have HV : Hid (tkext t k c = false) := Lib.hid (by unfold tkext; rw [et]; simp [ek, eq])
                  clear ek eq htc hbc et
                  go_wp2_with fail
                  go_meet
                  case rel => exact ⟨by rw [HV.out], rfl⟩
                · cases ec : decide (c = 61)
                  · have q1 : (((t.k : Nat) : Int) == 1) = true := by rw [beq_iff_eq]; omega
                    have q2 : (((t.k : Nat) : Int) == 2) = false := by rw [beq_eq_false_iff_ne]; omega
                    have q3 : ((k : Int) == 1) = false := by rw [beq_eq_false_iff_ne]; omega
                    have q4 : ((k : Int) == 2) = false := by rw [beq_eq_false_iff_ne]; omega
                    have ht3 := htc _ et
                    have hc3 := hbc _ ec
                    have HV : Hid (tkext t k c = false) := Lib.hid (by unfold tkext; rw [et, ec]; simp [ek, eq])
                    clear ek eq htc hbc et ec
                    go_wp2_with fail
                    go_meet
                    case rel => exact ⟨by rw [HV.out], rfl⟩
                  · have q1 : (((t.k : Nat) : Int) == 1) = true := by rw [beq_iff_eq]; omega
                    have q2 : (((t.k : Nat) : Int) == 2) = false := by rw [beq_eq_false_iff_ne]; omega
                    have q3 : ((k : Int) == 1) = false := by rw [beq_eq_false_iff_ne]; omega
                    have q4 : ((k : Int) == 2) = false := by rw [beq_eq_false_iff_ne]; omega
                    have ht3 := htc _ et
                    have hc3 := hbc _ ec
                    have HV : Hid (tkext t k c = true) := Lib.hid (by unfold tkext; rw [et, ec]; simp [ek, eq])
                    clear ek eq htc hbc et ec
                    go_wp2_with fail
                    go_meet
                    case rel => exact ⟨by rw [HV.out], rfl⟩
            · rcases (show k = 1 ∨ k = 2 ∨ (k ≠ 1 ∧ k ≠ 2) by omega) with eq | eq | eq
              · have q1 : (((t.k : Nat) : Int) == 1) = false := by rw [beq_eq_false_iff_ne]; omega
                have q2 : (((t.k : Nat) : Int) == 2) = true := by rw [beq_iff_eq]; omega
                have q3 : ((k : Int) == 1) = true := by rw [beq_iff_eq]; omega
                have q4 : ((k : Int) == 2) = false := by rw [beq_eq_false_iff_ne]; omega
                have HV : Hid (tkext t k c = true) := Lib.hid (by unfold tkext; simp [ek, eq])
                clear ek eq htc hbc
                go_wp2_with fail
                go_meet
                case rel => exact ⟨by rw [HV.out], rfl⟩
              · have q1 : (((t.k : Nat) : Int) == 1) = false := by rw [beq_eq_false_iff_ne]; omega
                have q2 : (((t.k : Nat) : Int) == 2) = true := by rw [beq_iff_eq]; omega
                have q3 : ((k : Int) == 1) = false := by rw [beq_eq_false_iff_ne]; omega
                have q4 : ((k : Int) == 2) = true := by rw [beq_iff_eq]; omega
                have HV : Hid (tkext t k c = true) := Lib.hid (by unfold tkext; simp [ek, eq])
                clear ek eq htc hbc
                go_wp2_with fail
                go_meet
                case rel => exact ⟨by rw [HV.out], rfl⟩
              · cases et : decide (t.tx = [61])
                · have q1 : (((t.k : Nat) : Int) == 1) = false := by rw [beq_eq_false_iff_ne]; omega
                  have q2 : (((t.k : Nat) : Int) == 2) = true := by rw [beq_iff_eq]; omega
                  have q3 : ((k : Int) == 1) = false := by rw [beq_eq_false_iff_ne]; omega
                  have q4 : ((k : Int) == 2) = false := by rw [beq_eq_false_iff_ne]; omega
                  have ht3 := htc _ et
                  have HV : Hid (tkext t k c = false) := Lib.hid (by unfold tkext; rw [et]; simp [ek, eq])
                  clear ek eq htc hbc et
                  go_wp2_with fail
                  go_meet
                  case rel => exact ⟨by rw [HV.out], rfl⟩
                · cases ec : decide (c = 61)
                  · have q1 : (((t.k : Nat) : Int) == 1) = false := by rw [beq_eq_false_iff_ne]; omega
                    have q2 : (((t.k : Nat) : Int) == 2) = true := by rw [beq_iff_eq]; omega
                    have q3 : ((k : Int) == 1) = false := by rw [beq_eq_false_iff_ne]; omega
                    have q4 : ((k : Int) == 2) = false := by rw [beq_eq_false_iff_ne]; omega
                    have ht3 := htc _ et
                    have hc3 := hbc _ ec
                    have HV : Hid (tkext t k c = false) := Lib.hid (by unfold tkext; rw [et, ec]; simp [ek, eq])
                    clear ek eq htc hbc et ec
                    go_wp2_with fail
                    go_meet
                    case rel => exact ⟨by rw [HV.out], rfl⟩
                  · have q1 : (((t.k : Nat) : Int) == 1) = false := by rw [beq_eq_false_iff_ne]; omega
                    have q2 : (((t.k : Nat) : Int) == 2) = true := by rw [beq_iff_eq]; omega
                    have q3 : ((k : Int) == 1) = false := by rw [beq_eq_false_iff_ne]; omega
                    have q4 : ((k : Int) == 2) = false := by rw [beq_eq_false_iff_ne]; omega
                    have ht3 := htc _ et
                    have hc3 := hbc _ ec
                    have HV : Hid (tkext t k c = true) := Lib.hid (by unfold tkext; rw [et, ec]; simp [ek, eq])
                    clear ek eq htc hbc et ec
                    go_wp2_with fail
                    go_meet
                    case rel => exact ⟨by rw [HV.out], rfl⟩
            · rcases (show k = 1 ∨ k = 2 ∨ (k ≠ 1 ∧ k ≠ 2) by omega) with eq | eq | eq
              · cases et : decide (t.tx = [61])
                · have q1 : (((t.k : Nat) : Int) == 1) = false := by rw [beq_eq_false_iff_ne]; omega
                  have q2 : (((t.k : Nat) : Int) == 2) = false := by rw [beq_eq_false_iff_ne]; omega
                  have q3 : ((k : Int) == 1) = true := by rw [beq_iff_eq]; omega
                  have q4 : ((k : Int) == 2) = false := by rw [beq_eq_false_iff_ne]; omega
                  have ht3 := htc _ et
                  have HV : Hid (tkext t k c = false) := Lib.hid (by unfold tkext; rw [et]; simp [ek, eq])
                  clear ek eq htc hbc et
                  go_wp2_with fail
                  go_meet
                  case rel => exact ⟨by rw [HV.out], rfl⟩
                · cases ec : decide (c = 61)
                  · have q1 : (((t.k : Nat) : Int) == 1) = false := by rw [beq_eq_false_iff_ne]; omega
                    have q2 : (((t.k : Nat) : Int) == 2) = false := by rw [beq_eq_false_iff_ne]; omega
                    have q3 : ((k : Int) == 1) = true := by rw [beq_iff_eq]; omega
                    have q4 : ((k : Int) == 2) = false := by rw [beq_eq_false_iff_ne]; omega
                    have ht3 := htc _ et
                    have hc3 := hbc _ ec
                    have HV : Hid (tkext t k c = false) := Lib.hid (by unfold tkext; rw [et, ec]; simp [ek, eq])
                    clear ek eq htc hbc et ec
                    go_wp2_with fail
                    go_meet
                    case rel => exact ⟨by rw [HV.out], rfl⟩
                  · have q1 : (((t.k : Nat) : Int) == 1) = false := by rw [beq_eq_false_iff_ne]; omega
                    have q2 : (((t.k : Nat) : Int) == 2) = false := by rw [beq_eq_false_iff_ne]; omega
                    have q3 : ((k : Int) == 1) = true := by rw [beq_iff_eq]; omega
                    have q4 : ((k : Int) == 2) = false := by rw [beq_eq_false_iff_ne]; omega
                    have ht3 := htc _ et
                    have hc3 := hbc _ ec
                    have HV : Hid (tkext t k c = true) := Lib.hid (by unfold tkext; rw [et, ec]; simp [ek, eq])
                    clear ek eq htc hbc et ec
                    go_wp2_with fail
                    go_meet
                    case rel => exact ⟨by rw [HV.out], rfl⟩
              · cases et : decide (t.tx = [61])
                · have q1 : (((t.k : Nat) : Int) == 1) = false := by rw [beq_eq_false_iff_ne]; omega
                  have q2 : (((t.k : Nat) : Int) == 2) = false := by rw [beq_eq_false_iff_ne]; omega
                  have q3 : ((k : Int) == 1) = false := by rw [beq_eq_false_iff_ne]; omega
                  have q4 : ((k : Int) == 2) = true := by rw [beq_iff_eq]; omega
                  have ht3 := htc _ et
                  have HV : Hid (tkext t k c = false) := Lib.hid (by unfold tkext; rw [et]; simp [ek, eq])
                  clear ek eq htc hbc et
                  go_wp2_with fail
                  go_meet
                  case rel => exact ⟨by rw [HV.out], rfl⟩
                · cases ec : decide (c = 61)
                  · have q1 : (((t.k : Nat) : Int) == 1) = false := by rw [beq_eq_false_iff_ne]; omega
                    have q2 : (((t.k : Nat) : Int) == 2) = false := by rw [beq_eq_false_iff_ne]; omega
                    have q3 : ((k : Int) == 1) = false := by rw [beq_eq_false_iff_ne]; omega
                    have q4 : ((k : Int) == 2) = true := by rw [beq_iff_eq]; omega
                    have ht3 := htc _ et
                    have hc3 := hbc _ ec
                    have HV : Hid (tkext t k c = false) := Lib.hid (by unfold tkext; rw [et, ec]; simp [ek, eq])
                    clear ek eq htc hbc et ec
                    go_wp2_with fail
                    go_meet
                    case rel => exact ⟨by rw [HV.out], rfl⟩
                  · have q1 : (((t.k : Nat) : Int) == 1) = false := by rw [beq_eq_false_iff_ne]; omega
                    have q2 : (((t.k : Nat) : Int) == 2) = false := by rw [beq_eq_false_iff_ne]; omega
                    have q3 : ((k : Int) == 1) = false := by rw [beq_eq_false_iff_ne]; omega
                    have q4 : ((k : Int) == 2) = true := by rw [beq_iff_eq]; omega
                    have ht3 := htc _ et
                    have hc3 := hbc _ ec
                    have HV : Hid (tkext t k c = true) := Lib.hid (by unfold tkext; rw [et, ec]; simp [ek, eq])
                    clear ek eq htc hbc et ec
                    go_wp2_with fail
                    go_meet
                    case rel => exact ⟨by rw [HV.out], rfl⟩
              · cases et : decide (t.tx = [61])
                · have q1 : (((t.k : Nat) : Int) == 1) = false := by rw [beq_eq_false_iff_ne]; omega
                  have q2 : (((t.k : Nat) : Int) == 2) = false := by rw [beq_eq_false_iff_ne]; omega
                  have q3 : ((k : Int) == 1) = false := by rw [beq_eq_false_iff_ne]; omega
                  have q4 : ((k : Int) == 2) = false := by rw [beq_eq_false_iff_ne]; omega
                  have ht3 := htc _ et
                  have HV : Hid (tkext t k c = false) := Lib.hid (by unfold tkext; rw [et]; simp [ek, eq])
                  clear ek eq htc hbc et
                  go_wp2_with fail
                  go_meet
                  case rel => exact ⟨by rw [HV.out], rfl⟩
                · cases ec : decide (c = 61)
                  · have q1 : (((t.k : Nat) : Int) == 1) = false := by rw [beq_eq_false_iff_ne]; omega
                    have q2 : (((t.k : Nat) : Int) == 2) = false := by rw [beq_eq_false_iff_ne]; omega
                    have q3 : ((k : Int) == 1) = false := by rw [beq_eq_false_iff_ne]; omega
                    have q4 : ((k : Int) == 2) = false := by rw [beq_eq_false_iff_ne]; omega
                    have ht3 := htc _ et
                    have hc3 := hbc _ ec
                    have HV : Hid (tkext t k c = false) := Lib.hid (by unfold tkext; rw [et, ec]; simp [ek, eq])
                    clear ek eq htc hbc et ec
                    go_wp2_with fail
                    go_meet
                    case rel => exact ⟨by rw [HV.out], rfl⟩
                  · have q1 : (((t.k : Nat) : Int) == 1) = false := by rw [beq_eq_false_iff_ne]; omega
                    have q2 : (((t.k : Nat) : Int) == 2) = false := by rw [beq_eq_false_iff_ne]; omega
                    have q3 : ((k : Int) == 1) = false := by rw [beq_eq_false_iff_ne]; omega
                    have q4 : ((k : Int) == 2) = false := by rw [beq_eq_false_iff_ne]; omega
                    have ht3 := htc _ et
                    have hc3 := hbc _ ec
                    have HV : Hid (tkext t k c = true) := Lib.hid (by unfold tkext; rw [et, ec]; simp [ek, eq])
                    clear ek eq htc hbc et ec
                    go_wp2_with fail
                    go_meet
                    case rel => exact ⟨by rw [HV.out], rfl⟩
          case rest =>
            obtain ⟨rfl, rfl⟩ := hcut
            have HB := Lib.hid hB3
            cases he : tkext t k c with
            | true =>
              have hstp : stp ⟨out, some t⟩ i c = .ok (Ts.close out ⟨t.k, t.pos, t.tx ++ [c]⟩) := by
                unfold stp
                dsimp only
                rw [← HK.out, if_neg h4, if_pos he]
              have HS2 := Lib.hid (stps_take HST.out hil (by rw [HCL.out]; exact hstp))
              have HG2 := Lib.hid (stp_good HG.out hstp)
              have hset := own_set hown3 (n * 3 + 2) (.string (bts (t.tx ++ [c])))
              have hbl := hB3.setCell (p := ⟨g, n * 3 + 2, none⟩) hbg (.string (bts (t.tx ++ [c])))
              have hts : (tVals (out ++ [t])).set (n * 3 + 2) (.string (bts (t.tx ++ [c]))) = tVals (out ++ [⟨t.k, t.pos, t.tx ++ [c]⟩]) := by rw [HN.out]; exact tVals_set out t _
              rw [hts] at hset
              have HO := Lib.hid (And.intro hset hbl)
              have hfr := hfz3 (n * 3 + 2)
              have hsl := fun W => run_sl1 s hlt HC.out W
              have hi1 : i + 1 ≤ s.size := by omega
              have hn0 : (0 : Int) ≤ (n : Int) := Int.natCast_nonneg _
              have hn1 : (n : Int) < (n : Int) + 1 := by omega
              clear hstp he hset hbl hts hown3 hB3 hfz3 k0 k1 k2
              have hadd : ∀ W, (Op.stringOp .add (bts t.tx) (bts [c])).run Tryd.prog W = .ok (.string (bts (t.tx ++ [c]))) W := fun W => by
                rw [run_string_add W (bts t.tx) (bts [c]) (by rw [bts_size]; have := HGT.out.2.1; omega) (by rw [bts_size]; simp), bts_app]
              by_cases hq : t.tx ++ [c] = [61, 61]
              · have hcl : Ts.close out ⟨t.k, t.pos, t.tx ++ [c]⟩ = ⟨out ++ [⟨t.k, t.pos, t.tx ++ [c]⟩], none⟩ := by unfold Ts.close; rw [if_pos hq]
                rw [hcl] at HS2 HG2
                have hne : ((bts (t.tx ++ [c])).toList == [61, 61]) = true := by
                  rw [hq, show (bts [61, 61]).toList = [61, 61] by rw [ByteArray.toList_eq]; rfl]
                  rfl
                clear hcl hq
                go_wp2_with fail
                go_region
                go_wp2_with fail
                go_roundw
                case rel => exact ⟨i + 1, ⟨out ++ [⟨t.k, t.pos, t.tx ++ [c]⟩], none⟩, by omega, by go_num, HS2.out, HG2.out, rfl, by
                  show (_ : World).ownsRow _ _ 3 _ (out ++ [_]).length (tVals (out ++ [_]))
                  rw [List.length_append, List.length_singleton, ← HN.out]
                  exact HO.out.1, HO.out.2.drew⟩
                case measure => simp [intOf]; omega
              · have hcl : Ts.close out ⟨t.k, t.pos, t.tx ++ [c]⟩ = ⟨out, some ⟨t.k, t.pos, t.tx ++ [c]⟩⟩ := by unfold Ts.close; rw [if_neg hq]
                rw [hcl] at HS2 HG2
                have hne : ((bts (t.tx ++ [c])).toList == [61, 61]) = false := by
                  rw [show ([61, 61] : List UInt8) = (bts [61, 61]).toList by rw [ByteArray.toList_eq]; rfl]
                  exact bstr_no (fun h => hq (bts_inj (b := [61, 61]) h))
                clear hcl hq
                go_wp2_with fail
                go_region
                go_wp2_with fail
                go_roundw
                case rel => exact ⟨i + 1, ⟨out, some ⟨t.k, t.pos, t.tx ++ [c]⟩⟩, by omega, by go_num, HS2.out, HG2.out, rfl, by
                  show (_ : World).ownsRow _ _ 3 _ (out ++ [_]).length (tVals (out ++ [_]))
                  rw [List.length_append, List.length_singleton, ← HN.out]
                  exact HO.out.1, HO.out.2.drew⟩
                case measure => simp [intOf]; omega
            | false =>
              clear d0 d1 d2 hfz3
              go_wp2_with fail
              refine (jnumber_any ((t.k : Nat) : Int) ((t.pos : Nat) : Int) (bts t.tx) HTX.out wc HX3.out).mono ?_
              rintro e w4 ⟨rfl, hb4⟩
              rw [HJ.out]
              have hown4 := own_stpJ hown3 hb4
              have hB4 := hB3.trans (hb4.mono hB3.size)
              obtain ⟨k0', k1', k2'⟩ := (hKB.step hb4).cells
              clear k0 k1 k2 hown3 hB3 hb4
              cases hto : t.ok with
              | false =>
                have HE := Lib.hid (lexd_err HST.out hil (n := t.pos) (by rw [HCL.out]; unfold stp; dsimp only; rw [← HK.out, if_neg h4, he, if_neg (by simp), hto]; rfl))
                have HB4 := Lib.hid hB4
                clear hto he hB4
                go_wp2_with fail
                go_quiet (fail)
                go_wp2_with fail
                go_ret3
                exact .inl ⟨t.pos, HE.out, rfl, below_drewN' HB4.out nq⟩
              | true =>
                have hstp : stp ⟨out, some t⟩ i c = .ok (fresh (out ++ [t]) i c) := by
                  unfold stp
                  dsimp only
                  rw [← HK.out, if_neg h4, he, if_neg (by simp), hto, if_pos rfl]
                have HS2 := Lib.hid (stps_take HST.out hil (by rw [HCL.out]; exact hstp))
                have HG2 := Lib.hid (stp_good HG.out hstp)
                clear hstp hto he k0' k1' k2'
                by_cases h0 : k = 0
                · subst h0
                  have hf : fresh (out ++ [t]) i c = ⟨out ++ [t], none⟩ := by unfold fresh; rw [if_pos HK.out.symm]
                  rw [hf] at HS2 HG2
                  have HO := Lib.hid (And.intro hown4 hB4)
                  clear hf hown4 hB4 h4
                  go_wp2_with fail
                  go_roundw
                  case rel => exact ⟨i + 1, ⟨out ++ [t], none⟩, by omega, by go_num, HS2.out, HG2.out, rfl, by
                    show (_ : World).ownsRow _ _ 3 _ (out ++ [_]).length (tVals (out ++ [_]))
                    rw [List.length_append, List.length_singleton, ← HN.out]
                    exact HO.out.1, HO.out.2⟩
                  case measure => simp [intOf]; omega
                · have hf : fresh (out ++ [t]) i c = ⟨out ++ [t], some ⟨k, i, [c]⟩⟩ := by unfold fresh; rw [← HK.out, if_neg h0]
                  rw [hf] at HS2 HG2
                  have hk0 : (0 : Int) < (k : Int) := by omega
                  have hi1 : i + 1 ≤ s.size := by omega
                  have hsl := fun W => run_sl1 s hlt HC.out W
                  have hbase : w.heap.size ≤ w4.heap.size := hB4.size
                  have hKB4 := TkB.new w4 (k : Int) (i : Int) (bts [c])
                  have HB4 := Lib.hid hB4
                  have hown5 := hown4.alloc (.cells #[.int .i64 (k : Int), .int .i64 (i : Int), .string (bts [c])] 28)
                  have hbs := own_base hown4
                  clear hf h4 h0 hown4 hB4
                  go_wp2_with (at_builtin; refine wpList_append_own _ rfl _ _ 22 rfl w.heap.size 28 i0 (.agg #[.int .i64 0, .int .i64 0, .string ⟨#[]⟩]) 3 32 Tryd.underlying22 hi0 hz0 hz1 hz2 rfl (by decide) _ _ _ rfl hown5 ⟨w4.heap.size, 0, none⟩ 1 1 [.int .i64 (k : Int), .int .i64 (i : Int), .string (bts [c])] rfl rfl (World.news_of_block (cs := #[.int .i64 (k : Int), .int .i64 (i : Int), .string (bts [c])]) (t := 28) (fr := (0, 0)) hKB4) (by simp [Value.oneCell']) (by unfold maxLen; omega) (by omega) (by simp; omega) ?_; intro v' w6 hown6 hgrow6 _)
                  have hB6 : Below w.heap.size w w6 := (HB4.out.alloc HB4.out.size _).grown hgrow6 (by simp; omega) hbs
                  have hown7 : w6.ownsRow w.heap.size 28 3 v' (Ts.mk (out ++ [t]) (some ⟨k, i, [c]⟩)).all.length (tVals (Ts.mk (out ++ [t]) (some ⟨k, i, [c]⟩)).all) := by
                    show w6.ownsRow w.heap.size _ 3 v' ((out ++ [t]) ++ [_]).length (tVals ((out ++ [t]) ++ [_]))
                    rw [tVals_snoc, List.length_append, List.length_append, List.length_singleton, List.length_singleton, ← HN.out]
                    exact hown6
                  have HO := Lib.hid (And.intro hown7 hB6)
                  clear hown7 hB6 hown6 hgrow6 hown5 hKB4 hbs
                  go_wp2_with fail
                  go_roundw
                  case rel => exact ⟨i + 1, ⟨out ++ [t], some ⟨k, i, [c]⟩⟩, by omega, by go_num, HS2.out, HG2.out, rfl, HO.out.1, HO.out.2⟩
                  case measure => simp [intOf]; omega
    · obtain rfl : i = s.size := by omega
      have HF := Lib.hid (lexd_fin (l := l) (st := st) (by rw [HLS.out]; exact hst))
      obtain ⟨out, op⟩ := st
      cases op with
      | none =>
        obtain ⟨A5, c5, rfl⟩ : ∃ A c, u5 = .slice A (Ts.mk out none).all.length c := by
          rcases hown.2 with ⟨rfl, h0⟩ | ⟨g, cap, cur, hv, _⟩
          · exact ⟨none, 0, by rw [h0]⟩
          · exact ⟨_, _, hv⟩
        have hall : (Ts.mk out none).all = out := rfl
        rw [hall] at hown ⊢
        have HO := Lib.hid (And.intro hown hb)
        clear hown hb hgood hst hlt hi
        go_wp2_with fail
        go_ret3
        exact .inr ⟨out, _, HF.out, rfl, HO.out.1, HO.out.2⟩
      | some t =>
        have hall : (Ts.mk out (some t)).all = out ++ [t] := rfl
        rw [hall, List.length_append, List.length_singleton] at hown
        obtain ⟨g, cap, rfl, hbg, hgl, _, hfz, hcell⟩ := own_shape3 hown (by omega)
        obtain ⟨m1, m2, m3⟩ := tVals_last out t
        have hol : out.length + 1 ≤ s.size := hgood.1
        obtain ⟨gk, gne, gtl, gp, gd⟩ := hgood.2 t rfl
        have HJ := Lib.hid (jnum_ok_tk gne gd)
        have c0 := (hcell (out.length * 3) (by omega)).trans m1
        have c1 := (hcell (out.length * 3 + 1) (by omega)).trans m2
        have c2 := (hcell (out.length * 3 + 2) (by omega)).trans m3
        obtain ⟨n, hn⟩ : ∃ n, n = out.length := ⟨_, rfl⟩
        have HN := Lib.hid hn
        have hown' : wr.ownsRow w.heap.size 28 3 (.slice (some ⟨g, 0, none⟩) (n + 1) cap) (n + 1) (tVals (out ++ [t])) := by rw [hn]; exact hown
        rw [← hn] at c0 c1 c2 hol ⊢
        have htx : (bts t.tx).size ≤ 281474976710656 := by rw [bts_size]; omega
        have HTX := Lib.hid htx
        have HX2 := Lib.hid (HX.out.step hb)
        clear hgood hown hcell m1 m2 m3 hn htx gk gne gtl gd gp hall hst hlt hi
        go_wp2_with fail
        refine (jnumber_any ((t.k : Nat) : Int) ((t.pos : Nat) : Int) (bts t.tx) HTX.out wr HX2.out).mono ?_
        rintro e w3 ⟨rfl, hb3⟩
        rw [HJ.out]
        have HB3 := Lib.hid (hb.trans (hb3.mono hb.size))
        have hown3 := own_stpJ hown' hb3
        replace c1 := (hb3.cell (p := ⟨g, n * 3 + 1, none⟩) hgl).trans c1
        cases hto : t.ok with
        | false =>
          have HE : Hid (lexd l = .err t.pos) := Lib.hid (by rw [HF.out]; unfold fin; dsimp only; rw [hto]; rfl)
          clear hto c0 c2 hb3 hb hown' hown3
          go_wp2_with fail
          go_quiet (fail)
          go_wp2_with fail
          go_ret3
          exact .inl ⟨t.pos, HE.out, rfl, below_drewN' HB3.out nq⟩
        | true =>
          have HE : Hid (lexd l = .ok (out ++ [t])) := Lib.hid (by rw [HF.out]; unfold fin; dsimp only; rw [hto]; rfl)
          have HO := Lib.hid hown3
          clear hto c0 c1 c2 hb3 hb hown' hown3
          go_wp2_with fail
          go_ret3
          exact .inr ⟨out ++ [t], _, HE.out, rfl, by rw [List.length_append, List.length_singleton, ← HN.out]; exact HO.out, HB3.out⟩
end Go.Proofs.YtfekcbkafiiieaaDoor
