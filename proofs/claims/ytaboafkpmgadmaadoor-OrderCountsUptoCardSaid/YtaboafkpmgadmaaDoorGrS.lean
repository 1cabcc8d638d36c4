/-
  slices.Index and slices.Contains over ints, for every slice of ints; the iterator graph.smallestFirst.
-/
import Derived.Test.YtaboafkpmgadmaaDoorGrW
import Derived.Sort.LoopGhostIn
namespace Go.Proofs.YtaboafkpmgadmaaDoor
open Go.RowKit Go.Shelf
set_option maxRecDepth 100000

/-- k is the first place of v -/
def FirstAt (zs : List Int) (v : Int) (k : Nat) : Prop := k < zs.length ∧ zd zs k = v ∧ ∀ j, j < k → zd zs j ≠ v
theorem index_yes (A : Option Addr) (c : Nat) (zs : List Int) (v : Int) (k0 : Nat) (w : World) (hx : RdI w w.heap.size A zs) (hv : FirstAt zs v k0) :
    Calls Tryd.prog 63 #[.slice A zs.length c, .int .i64 v] w fun e w' => e = .returned (.int .i64 (k0 : Int)) ∧ w = w' := by
  obtain ⟨hk0, hz0, hmin⟩ := hv
  have hroom := hx.room
  have HZ := Lib.hid hz0
  have HM := Lib.hid hmin
  clear hz0 hmin
  go_enter Tryd.func63, Tryd.ntmps63
  go_wp2
  go_loop [8] (fun i => ∃ k : Nat, k ≤ k0 ∧ i = .int .i64 k) (fun i => zs.length - (intOf i).toNat)
  case atStart => exact ⟨0, Nat.zero_le _, rfl⟩
  case round =>
    obtain ⟨k, hk, rfl⟩ := hrel
    have hlt : k < zs.length := by omega
    obtain ⟨b, off, rfl, _, hc⟩ := hx.rd (by omega)
    have hci := hc k hlt
    clear hc
    by_cases he : k = k0
    · subst he
      have hb : (v == zd zs k) = true := by rw [HZ.out]; simp
      go_wp2
      go_ret
      exact ⟨rfl, rfl⟩
    · have hb : (v == zd zs k) = false := by simp; exact fun e => HM.out k (by omega) e.symm
      go_wp2
      go_round
      case rel => exact ⟨k + 1, by omega, by go_num⟩
      case measure => simp [intOf]; omega
theorem index_no (A : Option Addr) (c : Nat) (zs : List Int) (v : Int) (w : World) (hx : RdI w w.heap.size A zs) (hv : ∀ j, j < zs.length → zd zs j ≠ v) :
    Calls Tryd.prog 63 #[.slice A zs.length c, .int .i64 v] w fun e w' => e = .returned (.int .i64 (-1)) ∧ w = w' := by
  have hroom := hx.room
  have HM := Lib.hid hv
  clear hv
  go_enter Tryd.func63, Tryd.ntmps63
  go_wp2
  go_loop [8] (fun i => ∃ k : Nat, k ≤ zs.length ∧ i = .int .i64 k) (fun i => zs.length - (intOf i).toNat)
  case atStart => exact ⟨0, Nat.zero_le _, rfl⟩
  case round =>
    obtain ⟨k, hk, rfl⟩ := hrel
    by_cases hlt : k < zs.length
    · obtain ⟨b, off, rfl, _, hc⟩ := hx.rd (by omega)
      have hci := hc k hlt
      clear hc
      have hb : (v == zd zs k) = false := by simp; exact fun e => HM.out k hlt e.symm
      go_wp2
      go_round
      case rel => exact ⟨k + 1, by omega, by go_num⟩
      case measure => simp [intOf]; omega
    · go_wp2
      go_ret
      exact ⟨rfl, rfl⟩
theorem index_yes_len (A : Option Addr) (c len : Nat) (zs : List Int) (hl : zs.length = len) (v : Int) (k0 : Nat) (w : World) (hx : RdI w w.heap.size A zs) (hv : FirstAt zs v k0) :
    Calls Tryd.prog 63 #[.slice A len c, .int .i64 v] w fun e w' => e = .returned (.int .i64 (k0 : Int)) ∧ w = w' := by
  subst hl; exact index_yes A c zs v k0 w hx hv
theorem index_no_len (A : Option Addr) (c len : Nat) (zs : List Int) (hl : zs.length = len) (v : Int) (w : World) (hx : RdI w w.heap.size A zs) (hv : ∀ j, j < zs.length → zd zs j ≠ v) :
    Calls Tryd.prog 63 #[.slice A len c, .int .i64 v] w fun e w' => e = .returned (.int .i64 (-1)) ∧ w = w' := by
  subst hl; exact index_no A c zs v w hx hv
theorem first_of_mem : ∀ {zs : List Int} {v : Int}, v ∈ zs → ∃ k, FirstAt zs v k
  | [], _, h => by simp at h
  | z :: zs, v, h => by
    by_cases e : z = v
    · exact ⟨0, by simp, by simp [zd, e], fun j hj => by omega⟩
    · have hm : v ∈ zs := by
        rcases List.mem_cons.1 h with h | h
        · exact absurd h.symm e
        · exact h
      obtain ⟨k, h1, h2, h3⟩ := first_of_mem hm
      refine ⟨k + 1, by simp; omega, by simpa [zd] using h2, fun j hj => ?_⟩
      rcases j with _ | j
      · simpa [zd] using e
      · have := h3 j (by omega)
        simpa [zd] using this
theorem zd_mem' (zs : List Int) (i : Nat) (h : i < zs.length) : zd zs i ∈ zs := by
  unfold zd
  simp [List.getD, h]
theorem contains_b (A : Option Addr) (c : Nat) (zs : List Int) (v : Int) (w : World) (hx : RdI w w.heap.size A zs) :
    Calls Tryd.prog 26 #[.slice A zs.length c, .int .i64 v] w fun e w' => e = .returned (.bool (decide (v ∈ zs))) ∧ w = w' := by
  have hroom := hx.room
  by_cases hv : v ∈ zs
  · rw [decide_eq_true hv]
    obtain ⟨k, hk⟩ := first_of_mem hv
    clear hv
    go_enter Tryd.func26, Tryd.ntmps26
    go_wp2_with fail
    refine (index_yes A c zs v k _ hx hk).mono ?_
    rintro e w' ⟨rfl, rfl⟩
    go_wp2
    go_ret
    exact ⟨rfl, rfl⟩
  · rw [decide_eq_false hv]
    have hno : ∀ j, j < zs.length → zd zs j ≠ v := fun j hj e => hv (e ▸ zd_mem' zs j hj)
    have HN := Lib.hid hno
    clear hv hno
    go_enter Tryd.func26, Tryd.ntmps26
    go_wp2_with fail
    refine (index_no A c zs v _ hx HN.out).mono ?_
    rintro e w' ⟨rfl, rfl⟩
    go_wp2
    go_ret
    exact ⟨rfl, rfl⟩

/-- a row of ints reads as a list -/
theorem rowIs_rdI {w : World} {g t m : Nat} {z : Nat → Int} (h : w.rowIs g t m (fun k => .int .i64 (z k))) (hb : ∀ k, -9223372036854775808 ≤ z k ∧ z k ≤ 9223372036854775807) (hm : m ≤ 1048576) : RdI w w.heap.size (some ⟨g, 0, none⟩) ((List.range m).map z) := by
  have hz : ∀ k, k < m → zd ((List.range m).map z) k = z k := fun k hk => by unfold zd; simp [List.getD, hk]
  have hbd : ∀ k, -9223372036854775808 ≤ zd ((List.range m).map z) k ∧ zd ((List.range m).map z) k ≤ 9223372036854775807 := zd_bnd (fun x hx => by obtain ⟨k, _, rfl⟩ := List.mem_map.1 hx; exact hb k) (by omega) (by omega)
  refine ⟨fun k => (hbd k).1, fun k => (hbd k).2, by simp; omega, fun _ => ⟨g, 0, rfl, h.lt, fun k hk => ?_⟩⟩
  simp at hk
  dsimp only
  rw [Nat.zero_add, h.cell hk, hz k hk]
theorem range_zd (m : Nat) (z : Nat → Int) (k : Nat) (hk : k < m) : zd ((List.range m).map z) k = z k := by unfold zd; simp [List.getD, hk]

attribute [local go_sem] Oper.semAt_some

theorem smallestFirst_in (n : Nat) (a : Option Addr) (len cap : Nat) (w : World) :
    CallsIn Fence.wide n Tryd.prog 47 #[.slice a len cap] w fun e w' => e = .returned (.func (.func 81) #[] #[.pointer (some ⟨w.heap.size, 0, none⟩)]) ∧ w' = w.alloc (.cells #[.slice a len cap] 29) := by
  refine callsIn_of_wp Tryd.func47 rfl trivial ?_ rfl
  simp only [Tryd.ntmps47, List.size_toArray, List.length_cons, List.length_nil, Nat.reduceAdd, Nat.reduceSub, Array.replicate_succ, Array.replicate_zero, List.push_toArray, List.append_toArray, List.nil_append, List.cons_append]
  gi_wp2
  go_ret
  exact ⟨rfl, rfl⟩

/-- what smallestFirst's first loop holds when k nodes are given out -/
structure SmI {m' : Nat} (E : TypeId) (J : List (Num m') → (Nat → Prop) → World → Prop) (Fp O : Nat → Prop) (W : World) (R : Nat → Nat → Bool) (m g k : Nat) (ys : List (Num m')) (O2 : Nat → Prop) (wr : World) : Prop where
  j : J ys O2 wr
  it : ItInv Fp O W O2 wr
  row : wr.rowIs g E m (fun x => .int .i64 (wv R m (topoN R m k) x))
  out : ¬ O2 g

set_option maxHeartbeats 2000000 in
theorem smallest1_in (n : Nat) (hn : 8 ≤ n) (m : Nat) (hm : m ≤ 200) (Bs c : Nat) (p : Nat → Prop) (A : Option Addr) (xss : List (List Nat)) (hl : xss.length = m) (w : World) (hx : RdUUp w p A xss) (hpl : ∀ b, p b → b < w.heap.size)
    (hc : w.cell? ⟨Bs, 0, none⟩ = some (.slice A m c)) (hBs : Bs < w.heap.size) (hbits : ∀ k, k < m → ∀ j, bitB (st xss k) j = true → j < m) (hroom : ∀ k, k < m → (st xss k).length ≤ 1024) (hT : Tab w) :
    SeqO Fence.wide n Tryd.prog 81 #[.pointer (some ⟨Bs, 0, none⟩)] (fun x : Num m => #[Value.int .i64 (x.1 : Int)]) (fun b => p b ∨ b = Bs ∨ b = 0)
      (fun ys => vals ys = topo (eR xss m) m) (fun _ => True) (fun pre _ => pre.length < m) w := by
  have h1 : 1 ≤ n := by omega
  intro l J Jx O W hkW hO hJ hJx hY h0
  have hTp := hT.pos
  have hF : ∀ k, (p k ∨ k = Bs ∨ k = 0) → k < W.heap.size := fun k hk => by
    have := hkW.size
    rcases hk with hk | hk | hk
    · have := hpl k hk; omega
    · omega
    · omega
  have hcW : W.cell? ⟨Bs, 0, none⟩ = some (.slice A m c) := (World.cell?_of_block (hkW.block Bs hBs (.inr (.inl rfl)))).trans hc
  have hxW := hx.keeps hkW (fun b hb => .inl hb)
  have hTW := hT.keeps hkW (.inr (.inr rfl))
  clear hx hc hT hkW
  refine callsIn_of_wp Tryd.func81 rfl trivial ?_ rfl
  simp only [Tryd.ntmps81, List.size_toArray, List.length_cons, List.length_nil, Nat.reduceAdd, Nat.reduceSub, Array.replicate_succ, Array.replicate_zero, List.push_toArray, List.append_toArray, List.nil_append, List.cons_append]
  gi_wp2_with (refine ⟨trivial, ?_⟩; refine (predecessors_in (n - 1) (by omega) m hm _ _ xss hl _ hxW.toUU hbits hroom hTW).mono ?_; rintro e w1 ⟨g, rfl, hg0, hrow, hb1⟩)
  obtain ⟨R, hR⟩ : ∃ R, R = eR xss m := ⟨_, rfl⟩
  have HR := Lib.hid hR
  have hrow0 : w1.rowIs g 3 m (fun x => .int .i64 (wv R m (topoN R m 0) x)) := hrow.congr fun x hx => by
    show _ = Value.int .i64 (wv R m [] x)
    have : wv R m [] x = (cntTo (elist xss m) x : Int) := by unfold wv; rw [if_neg (by simp), opn_nil, hR, cnt_eR]
    rw [this]
  have hS0 : SmI 3 J (fun b => p b ∨ b = Bs ∨ b = 0) O W R m g 0 [] O w1 := ⟨stable_below hJ h0 hb1, (ItInv.start hO).below hb1, hrow0, fun ho => by have := (hO g ho).1; omega⟩
  clear hrow hrow0 hR h0 hb1
  gi_loopg [] m (fun r wr => ∃ k ys O2, r + k = m ∧ Hid ((topoN R m k).length = k) ∧ Hid (vals ys = topoN R m k) ∧ SmI 3 J (fun b => p b ∨ b = Bs ∨ b = 0) O W R m g k ys O2 wr)
  case atStart => exact ⟨0, [], O, by omega, Lib.hid rfl, Lib.hid rfl, hS0⟩
  case round =>
    clear hS0
    obtain ⟨k, ys, O2, hrk, hkl, hys, hS⟩ := hrel
    have hgood := good_topoN R m k
    have hrdI := rowIs_rdI hS.row (fun x => by have := wv_bd R m (topoN R m k) x; omega) (by omega)
    have hlenr : ((List.range m).map (wv R m (topoN R m k))).length = m := by simp
    cases hp : pick R m (topoN R m k) with
    | none =>
      have htopo : topo R m = topoN R m k := topo_at (by omega) hp
      have hno : ∀ j, j < ((List.range m).map (wv R m (topoN R m k))).length → zd ((List.range m).map (wv R m (topoN R m k))) j ≠ 0 := fun j hj => by
        rw [hlenr] at hj
        rw [range_zd m _ j hj]
        intro e
        have h3 := find_range_none hp j hj
        rw [wv_zero.1 e] at h3
        cases h3
      have HNO := Lib.hid hno
      have HT := Lib.hid htopo
      have HLr := Lib.hid hlenr
      clear hno htopo hp hgood hlenr
      gi_wp2_with (refine ⟨trivial, ?_⟩; refine (callsIn_wide.2 (index_no_len _ _ _ _ HLr.out 0 _ hrdI HNO.out)).mono ?_; rintro e w' ⟨rfl, rfl⟩)
      refine ⟨fun _ h => (by cases h), ?_⟩
      gi_wp2
      refine bodyPost_ret (results_none rfl _ _ _) rfl ?_
      exact ⟨⟨_, rfl⟩, .inl ⟨ys, O2, by rw [hys.out, ← HT.out, HR.out], hS.j⟩⟩
    | some x =>
      obtain ⟨hxm, hrx, hmin⟩ := find_range hp
      have hfirst : FirstAt ((List.range m).map (wv R m (topoN R m k))) 0 x := by
        refine ⟨by simpa using hxm, ?_, fun j hj => ?_⟩
        · rw [range_zd m _ x hxm]; exact wv_zero.2 hrx
        · rw [range_zd m _ j (by omega)]
          intro e
          have h3 := hmin j hj
          rw [wv_zero.1 e] at h3
          cases h3
      have HFI := Lib.hid hfirst
      have HLr := Lib.hid hlenr
      have hkm : k < m ∧ ys.length < m := by
        have e1 := vals_len ys
        rw [hys.out] at e1
        have e2 := (hgood.snoc hxm hrx).len
        simp at e2
        have e3 := hkl.out
        omega
      obtain ⟨hkm, hlen⟩ := hkm
      have HTS := Lib.hid (topoN_some hp)
      have HRD := Lib.hid hrx
      have HGD := Lib.hid hgood
      clear hfirst hlenr hp hrx hmin hgood
      obtain ⟨fn, tmps, assign, body, hy, hR⟩ := hY ys ⟨x, hxm⟩ O2 wr hS.j hlen
      gi_wp2_with (refine ⟨trivial, ?_⟩; refine (callsIn_wide.2 (index_yes_len _ _ _ _ HLr.out 0 x _ hrdI HFI.out)).mono ?_; rintro e w' ⟨rfl, rfl⟩)
      refine hR.mono ?_
      rintro e W3 ⟨O3, hs3, (⟨rfl, hJ3⟩ | ⟨rfl, hJx3⟩)⟩
      · have hI3 := hS.it.step hO hF hs3
        have hgl := hS.row.lt
        have hg3 : ¬ O3 g := hs3.not hgl hS.out
        have hrow3 := rowIs_keeps hS.row hs3.keeps hS.out
        have hck := hrow3.cell hxm
        have hfk := hrow3.frozen x
        have hBsg : Bs ≠ g := by have := hF Bs (.inr (.inl rfl)); omega
        have hcB : W3.cell? ⟨Bs, 0, none⟩ = some (.slice A m c) := (World.cell?_of_block (hI3.keeps.block Bs (hF Bs (.inr (.inl rfl))) (.inr (.inl rfl)))).trans hcW
        obtain ⟨b, off, A2, c2, rfl, hb, hcx, hset⟩ := (hxW.keeps hI3.keeps (fun b hb => .inl hb)).at_ (k := x) (by rw [hl]; exact hxm)
        have hbg : b ≠ g := by have := hF b (.inl hb); omega
        have hx0 : (0 : Int) ≤ (x : Int) := Int.natCast_nonneg _
        have hx1 : (x : Int) < (m : Int) := by omega
        clear hrdI
        gi_wp2_with fail
        obtain ⟨W4, hW4⟩ : ∃ W4, W4 = W3.setCell ⟨g, x, none⟩ (.int .i64 (-1)) := ⟨_, rfl⟩
        rw [← hW4]
        have hs4 : W4.heap.size = W3.heap.size := by rw [hW4]; simp
        have hgF : ¬ (p g ∨ g = Bs ∨ g = 0) := fun h => by have := hF g h; omega
        have hk4 : Keeps (fun b => b ≠ g) W3 W4 := by rw [hW4]; exact (Keeps.refl _ W3).setCell (q := ⟨g, x, none⟩) (fun _ h => h rfl) _
        have hJ4 : J (ys ++ [⟨x, hxm⟩]) O3 W4 := hJ _ _ _ _ hJ3 (hk4.mono fun k' _ hp' e => by
          rcases hp' with hp' | hp'
          · omega
          · exact hg3 (e ▸ hp'))
        have hI4 : ItInv (fun b => p b ∨ b = Bs ∨ b = 0) O W O3 W4 := ⟨hI3.keeps.trans (hk4.mono fun k' _ hp' e => hgF (e ▸ hp')), hI3.own, fun b' hb' => by rw [hs4]; exact hI3.top b' hb'⟩
        have hrow4 : W4.rowIs g 3 m (fun y => .int .i64 (wvt R m (topoN R m k) x (mem (st xss x)) 0 y)) := by
          rw [hW4]
          refine (hrow3.set x (.int .i64 (-1))).congr fun y hy' => ?_
          rw [wvt_zero]
          by_cases e : y = x
          · simp [e]
          · simp [e]
        have hsz4 : W.heap.size ≤ W4.heap.size := hI4.keeps.size
        have hset4 := (hset.keeps hk4 (fun b hb e => hgF (.inl (e ▸ hb)))).toU
        have hT4 := hTW.keeps hI4.keeps (.inr (.inr rfl))
        have hgl4 : g < W4.heap.size := hrow4.lt
        clear hW4 hrow3 hck hfk hcB hcx hset hJ3 hI3 hk4 hs3
        gi_wp2_with (refine ⟨trivial, ?_⟩; refine (list_own (n - 1) (by omega) _ _ _ _ hset4 (Nat.le_trans (hroom x hxm) (by omega)) hT4).mono ?_; rintro e wl ⟨A3, c3, rfl, hown, hbl⟩)
        gi_wp2
        have hJl := stable_below hJ hJ4 hbl
        have hIl := hI4.below hbl
        have hrl := rowIs_step hrow4 hbl
        have hLR : ∀ y, y ∈ mem (st xss x) ↔ R x y = true := fun y => by rw [mem_iff, HR.out]; unfold eR; simp [hxm]
        have hnd := mem_nodup (st xss x)
        obtain ⟨L, hL⟩ : ∃ L, L = mem (st xss x) := ⟨_, rfl⟩
        rw [← hL] at hown hrl hLR hnd ⊢
        have hmlen : L.length ≤ 65536 := by rw [hL]; exact mem_len _ (hroom x hxm)
        have hLm : ∀ y, y ∈ L → y < m := fun y hy' => by rw [hL] at hy'; exact hbits x hxm y (mem_bit hy')
        have HLR := Lib.hid hLR
        have HND := Lib.hid hnd
        have HLM := Lib.hid hLm
        clear hL hJ4 hI4 hrow4 hset4 hT4 hLR hnd hLm hbl
        gi_loopw [28] (fun i wr2 => ∃ t : Nat, t ≤ L.length ∧ i = .int .i64 t ∧ J (ys ++ [⟨x, hxm⟩]) O3 wr2 ∧ ItInv (fun b => p b ∨ b = Bs ∨ b = 0) O W O3 wr2 ∧ wr2.rowIs g 3 m (fun y => .int .i64 (wvt R m (topoN R m k) x L t y)) ∧
            Keeps (fun b => b ≠ g) wl wr2) (fun i _ => L.length - (intOf i).toNat)
        case atStart => exact ⟨0, Nat.zero_le _, rfl, hJl, hIl, hrl, Keeps.refl _ _⟩
        case round =>
          clear hJl hIl hrl
          obtain ⟨t, ht, rfl, hJ5, hI5, hr5, hk5⟩ := hrel
          by_cases htl : t < L.length
          · obtain ⟨gl, cap, hA3, hgl1, hgl2⟩ := own_shape hown (by omega)
            injection hA3 with hA3 _ hc3
            subst hA3
            subst hc3
            obtain ⟨y, hy1, hy2⟩ := zd_toI L t htl
            have hym : y < m := HLM.out y (by obtain ⟨h1, h2⟩ := List.getElem?_eq_some_iff.1 hy2; rw [← h2]; exact List.getElem_mem h1)
            have hcg : wr.cell? ⟨gl, t, none⟩ = some (.int .i64 (y : Int)) := by
              rw [World.cell?_of_block (hk5.block gl hgl2 (by omega)), hown.cellAt t (by omega), iVals_at _ _ (by rw [toI_len]; exact htl), hy1]
            have hst := wvt_step HGD.out hxm HRD.out HLR.out HND.out hy2
            have hbd := wvt_bd R m (topoN R m k) x L t y
            have hcy := hr5.cell hym
            have hfy := hr5.frozen y
            obtain ⟨v5, hv5⟩ : ∃ v5, v5 = wvt R m (topoN R m k) x L t y := ⟨_, rfl⟩
            rw [← hv5] at hcy hst hbd
            have HST := Lib.hid hst
            have hglg : gl ≠ g := by omega
            have hy0 : (0 : Int) ≤ (y : Int) := Int.natCast_nonneg _
            have hy1 : (y : Int) < (m : Int) := by omega
            clear hst hv5 hy1 hy2
            gi_wp2
            have hk6 : Keeps (fun b => b ≠ g) wr (wr.setCell ⟨g, y, none⟩ (.int .i64 (v5 - 1))) := (Keeps.refl _ wr).setCell (q := ⟨g, y, none⟩) (fun _ h => h rfl) _
            have hJ6 := hJ _ _ _ _ hJ5 (hk6.mono fun k' _ hp' e => by
              rcases hp' with hp' | hp'
              · omega
              · exact hg3 (e ▸ hp'))
            have hI6 : ItInv (fun b => p b ∨ b = Bs ∨ b = 0) O W O3 (wr.setCell ⟨g, y, none⟩ (.int .i64 (v5 - 1))) := ⟨hI5.keeps.trans (hk6.mono fun k' _ hp' e => hgF (e ▸ hp')), hI5.own, fun b' hb' => by simpa using hI5.top b' hb'⟩
            have hr6 : (wr.setCell ⟨g, y, none⟩ (.int .i64 (v5 - 1))).rowIs g 3 m (fun y => .int .i64 (wvt R m (topoN R m k) x L (t + 1) y)) := (hr5.set y (.int .i64 (v5 - 1))).congr fun j hj => by
              rw [HST.out]
              by_cases e : j = y
              · simp [e]
              · simp [e]
            go_roundw
            case rel => exact ⟨t + 1, by omega, by simp, hJ6, hI6, hr6, hk5.trans hk6⟩
            case measure => simp [intOf]; omega
          · obtain rfl : t = L.length := by omega
            have hr7 : wr.rowIs g 3 m (fun y => .int .i64 (wv R m (topoN R m (k + 1)) y)) := by
              rw [HTS.out, ← wvt_all hxm (ready_iff.1 HRD.out).1 HLR.out]
              exact hr5
            have hkl7 : Hid ((topoN R m (k + 1)).length = k + 1) := Lib.hid (by rw [HTS.out, List.length_append, hkl.out]; rfl)
            have hys7 : Hid (vals (ys ++ [⟨x, hxm⟩]) = topoN R m (k + 1)) := Lib.hid (by rw [vals_snoc, hys.out, HTS.out])
            gi_wp2
            gi_roundg (m - (k + 1))
            case measure => omega
            case rel => exact ⟨k + 1, _, O3, by omega, hkl7, hys7, hJ5, hI5, hr7, hg3⟩
      · gi_wp2
        refine bodyPost_ret (results_none rfl _ _ _) rfl ?_
        exact ⟨⟨_, rfl⟩, .inr ⟨_, _, trivial, hJx3⟩⟩
end Go.Proofs.YtaboafkpmgadmaaDoor
