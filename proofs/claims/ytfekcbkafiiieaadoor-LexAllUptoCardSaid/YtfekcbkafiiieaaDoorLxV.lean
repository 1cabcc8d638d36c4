/-
  The law LexAll.
-/
import Derived.Test.YtfekcbkafiiieaaDoorLxP
import Derived.Lib.ConvBytes
namespace Go.Proofs.YtfekcbkafiiieaaDoor
open Go.RowKit
set_option maxRecDepth 100000

theorem own_shapeJ {w : World} {base n size : Nat} {e : TypeId} {v : Value} {xs : List Value} (h : w.ownsRow base e size v n xs) : ∃ A c, v = .slice A n c := by
  rcases h.2 with ⟨rfl, rfl⟩ | ⟨g, cap, cur, hv, _⟩
  · exact ⟨none, 0, rfl⟩
  · exact ⟨_, _, hv⟩
theorem cov_le {s : List UInt8} : ∀ {l : List Tk} {a e : Nat}, cov s a l e → a ≤ e
  | [], _, _, h => h.1
  | t :: l, a, e, h => by
    have h1 := cov_le h.2.2.2
    have h2 := h.1
    omega
theorem cov_dum {s : List UInt8} : ∀ {l : List Tk} {a : Nat}, cov s a l s.length → cov s a (l ++ [Tk.mk 0 s.length []]) s.length
  | [], a, h => ⟨h.1, h.2, fun j hj => by simp at hj, by simp, fun j h1 h2 => by simp at h1; omega⟩
  | t :: l, a, h => ⟨h.1, h.2.1, h.2.2.1, cov_dum h.2.2.2⟩
theorem is_take {s tx : List UInt8} {p : Nat} (h : Is s p tx) (_hl : p + tx.length ≤ s.length) : (s.take (p + tx.length)).drop p = tx := by
  apply List.ext_getElem?
  intro j
  rw [List.getElem?_drop, List.getElem?_take]
  by_cases hj : j < tx.length
  · rw [if_pos (by omega)]
    exact h j hj
  · rw [if_neg (by omega), List.getElem?_eq_none (by omega)]
theorem blk_byte {c : UInt8} (h : jcls c = 0) : c = 32 ∨ c = 10 ∨ c = 9 := by
  unfold jcls at h
  split at h
  · rename_i hm
    simpa using hm
  · repeat' split at h
    all_goals omega

set_option maxHeartbeats 4000000 in
theorem lexall_any (s : ByteArray) (hs : s.size ≤ 1048576) (w : World) (hx : LxW w) : Calls Tryd.prog 5 #[.string s] w fun e w' => e = .returned (.bool true) ∧ Below w.heap.size w w' := by
  have A0 := alive10_any w hx
  have HX := Lib.hid hx
  obtain ⟨sl, hsl⟩ : ∃ sl, sl = s.data.toList := ⟨_, rfl⟩
  have HSL : Hid (sl.length = s.size) := Lib.hid (by rw [hsl]; simp)
  have HL := Lib.hid hsl
  clear hx hsl
  obtain ⟨i0, hi0, hz0, hz1, hz2⟩ := info_parts Tryd.infoTk
  go_enter Tryd.func5, Tryd.ntmps5
  go_wp2_with fail
  refine A0.mono ?_
  rintro e w1 ⟨rfl, hb1⟩
  have HB1 := Lib.hid hb1
  clear hb1 A0
  go_wp2_with fail
  refine (ltoks_any s (by omega) w1 (HX.out.step HB1.out)).mono ?_
  rw [← HL.out]
  rintro e w2 (⟨n, h1, rfl, h2⟩ | ⟨ts, v, h1, rfl, h2, h3⟩)
  · have H := Lib.hid (HB1.out.trans (h2.mono HB1.out.size))
    clear h1 h2
    go_wp2_with fail
    go_ret
    exact ⟨rfl, H.out⟩
  · obtain ⟨A1, c1, rfl, _⟩ := own_rdT h2 (by have := lexd_len h1; have := HSL.out; omega)
    have hln := lexd_len h1
    rw [HSL.out] at hln
    have hcov := lexd_cov sl
    rw [h1] at hcov
    have hcv := cov_dum (show cov sl 0 ts sl.length from hcov)
    rw [HSL.out] at hcv
    have HCV := Lib.hid hcv
    rw [rts_len]
    obtain ⟨n, hn⟩ : ∃ n, n = ts.length := ⟨_, rfl⟩
    have HN := Lib.hid hn
    rw [rts_len, ← hn] at h2
    rw [← hn] at hln ⊢
    have hbase : w1.heap.size ≤ w2.heap.size := h3.size
    have hKB := TkB.new w2 0 (s.size : Int) ByteArray.empty
    have hown3 := h2.alloc (.cells #[.int .i64 0, .int .i64 (s.size : Int), .string ByteArray.empty] 28)
    have hbs := own_base h2
    have HB2 := Lib.hid h3
    clear h1 h2 h3 hcov hcv hn
    go_wp2_with (at_builtin; refine wpList_append_own _ rfl _ _ 22 rfl w1.heap.size 28 i0 (.agg #[.int .i64 0, .int .i64 0, .string ⟨#[]⟩]) 3 32 Tryd.underlying22 hi0 hz0 hz1 hz2 rfl (by decide) _ _ _ rfl hown3 ⟨w2.heap.size, 0, none⟩ 1 1 [.int .i64 0, .int .i64 (s.size : Int), .string ByteArray.empty] rfl rfl (World.news_of_block (cs := #[.int .i64 0, .int .i64 (s.size : Int), .string ByteArray.empty]) (t := 28) (fr := (0, 0)) hKB) (by simp [Value.oneCell']) (by unfold maxLen; omega) (by omega) (by simp; omega) ?_; intro v' w6 hown6 hgrow6 _; obtain ⟨A7, c7, hv7⟩ := own_shapeJ hown6; subst hv7)
    have hT : w6.ownsRow w1.heap.size 28 3 (.slice A7 (n + 1) c7) (ts ++ [Tk.mk 0 s.size []]).length (tVals (ts ++ [Tk.mk 0 s.size []])) := by
      rw [tVals_snoc, List.length_append, List.length_singleton, ← HN.out]
      exact hown6
    obtain ⟨T, hTT⟩ : ∃ T : List Tk, T = ts ++ [Tk.mk 0 s.size []] := ⟨_, rfl⟩
    rw [← hTT] at hT HCV
    have hTl : T.length = n + 1 := by rw [hTT, HN.out]; simp
    obtain ⟨A8, c8, hv8, hr7⟩ := own_rdT hT (by omega)
    injection hv8 with hA8 hl8 hc8
    clear hl8
    subst hA8
    subst hc8
    have HB6 := Lib.hid (HB1.out.trans (((HB2.out.alloc HB2.out.size _).grown hgrow6 (by simp; omega) hbs).mono HB1.out.size))
    have HR7 := Lib.hid hr7
    have hm : (rts T).length = n + 1 := by rw [rts_len]; exact hTl
    have HM := Lib.hid hm
    have HTL := Lib.hid hTl
    clear hT hTT hTl hr7 hm hown6 hgrow6
    go_wp2_with fail
    obtain ⟨wo, rfl⟩ : ∃ wo : World, wo = w6 := ⟨_, rfl⟩
    go_loopw [6, 8, 10, 28] (fun v6 _ _ v28 wr => ∃ j cur : Nat, j ≤ n + 1 ∧ v28 = .int .i64 (j : Int) ∧ v6 = .int .i64 (cur : Int) ∧ cov sl cur (T.drop j) s.size ∧ Below wo.heap.size wo wr) (fun _ _ _ v _ => n + 1 - (intOf v).toNat)
    case atStart => exact ⟨0, 0, Nat.zero_le _, rfl, rfl, HCV.out, Below.refl _ _⟩
    case round =>
      obtain ⟨j, cur, hj, rfl, rfl, hcv, hb⟩ := hrel
      by_cases hlt : j < n + 1
      · have hjT : j < T.length := by rw [HTL.out]; exact hlt
        rw [List.drop_eq_getElem_cons hjT] at hcv
        obtain ⟨k1, k2, k3, k4⟩ := hcv
        have k5 := cov_le k4
        obtain ⟨b, off, rfl, hbl, hc⟩ := HR7.out.rd (by rw [HM.out]; omega)
        obtain ⟨q0, q1, q2⟩ := hc j (by rw [HM.out]; exact hlt)
        have hrt : rtk (rts T) j = (((T[j]).k : Int), ((T[j]).pos : Int), bts (T[j]).tx) := by
          unfold rtk rts
          simp [List.getD, hjT]
        rw [hrt] at q0 q1 q2
        obtain ⟨⟨K, P, X⟩, hTk⟩ : ∃ x, x = T[j] := ⟨_, rfl⟩
        rw [← hTk] at k1 k2 k3 k4 k5 q0 q1 q2
        dsimp only at k1 k2 k3 k4 k5 q0 q1 q2
        replace q0 := (hb.cell (p := ⟨b, off + j * 3, none⟩) hbl).trans q0
        replace q1 := (hb.cell (p := ⟨b, off + j * 3 + 1, none⟩) hbl).trans q1
        replace q2 := (hb.cell (p := ⟨b, off + j * 3 + 2, none⟩) hbl).trans q2
        have hxs : (bts X).size = X.length := bts_size X
        have hsl1 : ∀ W, (Instr.slice 9 (.string s) (some (.int .i64 (P : Int))) (some (.int .i64 ((P : Int) + (X.length : Int)))) none).run Tryd.prog W = .ok (.string (bts X)) W := fun W => by
          rw [run_slice_string W 9 s .i64 .i64 (P : Int) ((P : Int) + (X.length : Int)) Tryd.underlying9 (by omega) (by omega) (by omega)]
          have : s.extract ((P : Int)).toNat ((P : Int) + (X.length : Int)).toNat = bts X := by
            apply bts_of
            rw [extract_list, ← HL.out, show ((P : Int) + (X.length : Int)).toNat = P + X.length by omega, show ((P : Int)).toNat = P by omega]
            exact is_take k3 (by rw [HSL.out]; omega)
          rw [this]
        have hq := bstr_yes (bts X)
        have hsl2 : ∀ W, (Instr.slice 9 (.string s) (some (.int .i64 (cur : Int))) (some (.int .i64 (P : Int))) none).run Tryd.prog W = .ok (.string (bts ((sl.take P).drop cur))) W := fun W => by
          rw [run_slice_string W 9 s .i64 .i64 (cur : Int) (P : Int) Tryd.underlying9 (by omega) (by omega) (by omega)]
          have : s.extract ((cur : Int)).toNat ((P : Int)).toNat = bts ((sl.take P).drop cur) := by
            apply bts_of
            rw [extract_list, ← HL.out]
            rfl
          rw [this]
        have HK := Lib.hid (And.intro k2 k4)
        have HBR := Lib.hid hb
        clear hc hrt hTk k2 k3 k4 hb
        go_upto_region 10 with fail
        have hbk := World.alloc_heap_new wr (.cells #[.int .i64 (K : Int), .int .i64 (P : Int), .string (bts X)] 28)
        have hal := below_allocJ wr (.cells #[.int .i64 (K : Int), .int .i64 (P : Int), .string (bts X)] 28)
        obtain ⟨w8, hw8⟩ : ∃ w8, w8 = wr.alloc (.cells #[.int .i64 (K : Int), .int .i64 (P : Int), .string (bts X)] 28) := ⟨_, rfl⟩
        obtain ⟨D, hD⟩ : ∃ D, D = wr.heap.size := ⟨_, rfl⟩
        rw [← hw8] at hbk hal ⊢
        rw [← hD] at hbk ⊢
        obtain ⟨d0, d1, d2⟩ := (show TkB D (K : Int) (P : Int) (bts X) w8 from hbk).cells
        have hDl : D < w8.heap.size := (show TkB D (K : Int) (P : Int) (bts X) w8 from hbk).lt
        have HB8 := Lib.hid (HBR.out.trans (hal.mono HBR.out.size))
        have f1 : decide ((P : Int) < (cur : Int)) = false := decide_eq_false (by omega)
        have f2 : decide ((s.size : Int) < (P : Int) + (X.length : Int)) = false := decide_eq_false (by omega)
        have f3 : ((bts X).toList != (bts X).toList) = false := by simp
        have f4 : ¬ ((P : Int) < (cur : Int)) := by omega
        have f5 : ¬ ((s.size : Int) < (P : Int) + (X.length : Int)) := by omega
        have e9 : IntKind.i64.wrap ((P : Int) + (X.length : Int)) = (P : Int) + (X.length : Int) := by rw [IntKind.wrap_i64]; omega
        clear hbk hal hw8 hD q0 q1 q2
        obtain ⟨Y, hY⟩ : ∃ Y, Y = bts ((sl.take P).drop cur) := ⟨_, rfl⟩
        rw [← hY] at hsl2
        have hcon := fun W => Lib.run_convert_string_bytes (P := Tryd.prog) W 9 33 5 Y Tryd.underlying9 Tryd.underlying33 Tryd.underlying5
        have hYl : Y.size = P - cur := by rw [hY, bts_size, List.length_drop, List.length_take, HSL.out]; omega
        have hYb : ∀ i, i < Y.size → (Y.data.toList.getD i 0 = 32 ∨ Y.data.toList.getD i 0 = 10 ∨ Y.data.toList.getD i 0 = 9) := fun i hi => by
          obtain ⟨x, hx1, hx2⟩ := HK.out.1 (cur + i) (by omega) (by omega)
          have : Y.data.toList.getD i 0 = x := by
            rw [hY, bts_list, List.getD_eq_getElem?_getD, List.getElem?_drop, List.getElem?_take, if_pos (by omega), hx1]
            rfl
          rw [this]
          exact blk_byte hx2
        have HYB := Lib.hid hYb
        have HYL := Lib.hid hYl
        clear hY hYb hYl
        go_quiet (fail)
        go_wp2_with fail
        have hal9 := Go.Joins.below_bytesWorld (w8.drewN nq).heap.size (w8.drewN nq) 5 Y (Nat.le_refl _)
        have HB9 := Lib.hid ((below_drewN' HB8.out nq).trans (hal9.mono (below_drewN' HB8.out nq).size))
        have hcl := Lib.bytesWorld_cell (w8.drewN nq) 5 Y
        have e0 := (hal9.cell (p := ⟨D, 1, none⟩) hDl).trans (show (w8.drewN nq).cell? ⟨D, 1, none⟩ = _ from d1)
        have e2 := (hal9.cell (p := ⟨D, 2, none⟩) hDl).trans (show (w8.drewN nq).cell? ⟨D, 2, none⟩ = _ from d2)
        obtain ⟨w9, hw9⟩ : ∃ w9, w9 = Lib.bytesWorld (w8.drewN nq) 5 Y := ⟨_, rfl⟩
        rw [← hw9] at e0 e2 HB9 hcl
        have HW9 := Lib.hid hw9
        have HCL : Hid (∀ i, i < Y.size → w9.cell? ⟨w8.heap.size, i, none⟩ = some (.int .u8 ((Y.data.toList.getD i 0).toNat : Int))) := hcl
        rw [← HW9.out]
        clear hal9 hw9 hcl d0 d1 d2 hDl hcon hsl1 hsl2
        have hys : Y.size ≤ 1048576 := by have := HYL.out; omega
        obtain ⟨w0, rfl⟩ : ∃ w0 : World, w0 = w9 := ⟨_, rfl⟩
        go_loopw [10, 69] (fun _ v wr => ∃ i : Nat, i ≤ Y.size ∧ v = .int .i64 (i : Int) ∧ wr = w0) (fun _ v _ => Y.size - (intOf v).toNat)
        case atStart => exact ⟨0, Nat.zero_le _, rfl, rfl⟩
        case round =>
          obtain ⟨i, hi, rfl, rfl⟩ := hrel
          by_cases hiy : i < Y.size
          · have hci := HCL.out i hiy
            rcases HYB.out i hiy with e | e | e
            all_goals
              rw [e] at hci
              clear e
            · replace hci : wr.cell? ⟨w8.heap.size, i, none⟩ = some (.int .u8 32) := hci
              go_wp2_with fail
              go_roundw
              case rel => exact ⟨i + 1, by omega, by go_num, trivial⟩
              case measure => simp [intOf]; omega
            · replace hci : wr.cell? ⟨w8.heap.size, i, none⟩ = some (.int .u8 10) := hci
              go_wp2_with fail
              go_roundw
              case rel => exact ⟨i + 1, by omega, by go_num, trivial⟩
              case measure => simp [intOf]; omega
            · replace hci : wr.cell? ⟨w8.heap.size, i, none⟩ = some (.int .u8 9) := hci
              go_wp2_with fail
              go_roundw
              case rel => exact ⟨i + 1, by omega, by go_num, trivial⟩
              case measure => simp [intOf]; omega
          · obtain rfl : i = Y.size := by omega
            go_wp2_with fail
            go_roundw
            case rel => exact ⟨j + 1, P + X.length, by omega, by go_num, by go_num, HK.out.2, HB9.out⟩
            case measure => simp [intOf]; omega
      · obtain rfl : j = n + 1 := by omega
        have HBR := Lib.hid hb
        clear hb hcv
        go_wp2_with fail
        go_ret
        exact ⟨rfl, HB6.out.trans (HBR.out.mono HB6.out.size)⟩
end Go.Proofs.YtfekcbkafiiieaaDoor
