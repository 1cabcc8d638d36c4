/-
  slices.Index and slices.Contains over ints, for every slice of ints; the iterator graph.smallestFirst.
  A loop over an iterator that collects: a variable's box and the row that it owns, between two rounds. Plain lemmas.
  Sets as lists of words: the laws of a Boolean algebra, inclusion as an order. Plain lemmas; no condition but a word's 64 bits.
  The set of a list's numbers: its bits, its last word, its list. Plain lemmas.
-/
import Derived.Test.YtaboafkpmgadmaaDoorPk05
import Derived.Sort.LoopGhostIn
import Derived.Test.YtaboafkpmgadmaaDoorPk01
import Derived.Maps.AppendAt
import Derived.Test.YtaboafkpmgadmaaDoorPk00
import Derived.Test.YtaboafkpmgadmaaDoorPk04
namespace Go.Proofs.YtaboafkpmgadmaaDoor
open Go.RowKit Go.Shelf
set_option maxRecDepth 100000

/-- k is the first place of v -/
def FirstAt (zs : List Int) (v : Int) (k : Nat) : Prop := k < zs.length ∧ zd zs k = v ∧ ∀ j, j < k → zd zs j ≠ v
theorem index_yes (A : Option Addr) (c : Nat) (zs : List Int) (v : Int) (k0 : Nat) (w : World) (hx : RdI w w.heap.size A zs) (hv : FirstAt zs v k0) :
    Calls Tryd.prog 63 #[.slice A zs.length c, .int .i64 v] w fun e w' => e = .returned (.int .i64 (k0 : Int)) ∧ w = w' := by
  obtain ⟨hk0, hz0, hmin⟩ := hv
  have hroom := hx.room
  have HZ := Lib.hid hz0
  have HM := Lib.hid hmin
  clear hz0 hmin
  go_enter Tryd.func63, Tryd.ntmps63
  go_wp2
  go_loop [8] (fun i => ∃ k : Nat, k ≤ k0 ∧ i = .int .i64 k) (fun i => zs.length - (intOf i).toNat)
  case atStart => exact ⟨0, Nat.zero_le _, rfl⟩
  case round =>
    obtain ⟨k, hk, rfl⟩ := hrel
    have hlt : k < zs.length := by omega
    obtain ⟨b, off, rfl, _, hc⟩ := hx.rd (by omega)
    have hci := hc k hlt
    clear hc
    by_cases he : k = k0
    · subst he
      have hb : (v == zd zs k) = true := by rw [HZ.out]; simp
      go_wp2
      go_ret
      exact ⟨rfl, rfl⟩
    · have hb : (v == zd zs k) = false := by simp; exact fun e => HM.out k (by omega) e.symm
      go_wp2
      go_round
      case rel => exact ⟨k + 1, by omega, by go_num⟩
      case measure => simp [intOf]; omega
theorem index_no (A : Option Addr) (c : Nat) (zs : List Int) (v : Int) (w : World) (hx : RdI w w.heap.size A zs) (hv : ∀ j, j < zs.length → zd zs j ≠ v) :
    Calls Tryd.prog 63 #[.slice A zs.length c, .int .i64 v] w fun e w' => e = .returned (.int .i64 (-1)) ∧ w = w' := by
  have hroom := hx.room
  have HM := Lib.hid hv
  clear hv
  go_enter Tryd.func63, Tryd.ntmps63
  go_wp2
  go_loop [8] (fun i => ∃ k : Nat, k ≤ zs.length ∧ i = .int .i64 k) (fun i => zs.length - (intOf i).toNat)
  case atStart => exact ⟨0, Nat.zero_le _, rfl⟩
  case round =>
    obtain ⟨k, hk, rfl⟩ := hrel
    by_cases hlt : k < zs.length
    · obtain ⟨b, off, rfl, _, hc⟩ := hx.rd (by omega)
      have hci := hc k hlt
      clear hc
      have hb : (v == zd zs k) = false := by simp; exact fun e => HM.out k hlt e.symm
      go_wp2
      go_round
      case rel => exact ⟨k + 1, by omega, by go_num⟩
      case measure => simp [intOf]; omega
    · go_wp2
      go_ret
      exact ⟨rfl, rfl⟩
theorem index_yes_len (A : Option Addr) (c len : Nat) (zs : List Int) (hl : zs.length = len) (v : Int) (k0 : Nat) (w : World) (hx : RdI w w.heap.size A zs) (hv : FirstAt zs v k0) :
    Calls Tryd.prog 63 #[.slice A len c, .int .i64 v] w fun e w' => e = .returned (.int .i64 (k0 : Int)) ∧ w = w' := by
  subst hl; exact index_yes A c zs v k0 w hx hv
theorem index_no_len (A : Option Addr) (c len : Nat) (zs : List Int) (hl : zs.length = len) (v : Int) (w : World) (hx : RdI w w.heap.size A zs) (hv : ∀ j, j < zs.length → zd zs j ≠ v) :
    Calls Tryd.prog 63 #[.slice A len c, .int .i64 v] w fun e w' => e = .returned (.int .i64 (-1)) ∧ w = w' := by
  subst hl; exact index_no A c zs v w hx hv
theorem first_of_mem : ∀ {zs : List Int} {v : Int}, v ∈ zs → ∃ k, FirstAt zs v k
  | [], _, h => by simp at h
  | z :: zs, v, h => by
    by_cases e : z = v
    · exact ⟨0, by simp, by simp [zd, e], fun j hj => by omega⟩
    · have hm : v ∈ zs := by
        rcases List.mem_cons.1 h with h | h
        · exact absurd h.symm e
        · exact h
      obtain ⟨k, h1, h2, h3⟩ := first_of_mem hm
      refine ⟨k + 1, by simp; omega, by simpa [zd] using h2, fun j hj => ?_⟩
      rcases j with _ | j
      · simpa [zd] using e
      · have := h3 j (by omega)
        simpa [zd] using this
theorem zd_mem' (zs : List Int) (i : Nat) (h : i < zs.length) : zd zs i ∈ zs := by
  unfold zd
  simp [List.getD, h]
theorem contains_b (A : Option Addr) (c : Nat) (zs : List Int) (v : Int) (w : World) (hx : RdI w w.heap.size A zs) :
    Calls Tryd.prog 26 #[.slice A zs.length c, .int .i64 v] w fun e w' => e = .returned (.bool (decide (v ∈ zs))) ∧ w = w' := by
  have hroom := hx.room
  by_cases hv : v ∈ zs
  · rw [decide_eq_true hv]
    obtain ⟨k, hk⟩ := first_of_mem hv
    clear hv
    go_enter Tryd.func26, Tryd.ntmps26
    go_wp2_with fail
    refine (index_yes A c zs v k _ hx hk).mono ?_
    rintro e w' ⟨rfl, rfl⟩
    go_wp2
    go_ret
    exact ⟨rfl, rfl⟩
  · rw [decide_eq_false hv]
    have hno : ∀ j, j < zs.length → zd zs j ≠ v := fun j hj e => hv (e ▸ zd_mem' zs j hj)
    have HN := Lib.hid hno
    clear hv hno
    go_enter Tryd.func26, Tryd.ntmps26
    go_wp2_with fail
    refine (index_no A c zs v _ hx HN.out).mono ?_
    rintro e w' ⟨rfl, rfl⟩
    go_wp2
    go_ret
    exact ⟨rfl, rfl⟩

/-- a row of ints reads as a list -/
theorem rowIs_rdI {w : World} {g t m : Nat} {z : Nat → Int} (h : w.rowIs g t m (fun k => .int .i64 (z k))) (hb : ∀ k, -9223372036854775808 ≤ z k ∧ z k ≤ 9223372036854775807) (hm : m ≤ 1048576) : RdI w w.heap.size (some ⟨g, 0, none⟩) ((List.range m).map z) := by
  have hz : ∀ k, k < m → zd ((List.range m).map z) k = z k := fun k hk => by unfold zd; simp [List.getD, hk]
  have hbd : ∀ k, -9223372036854775808 ≤ zd ((List.range m).map z) k ∧ zd ((List.range m).map z) k ≤ 9223372036854775807 := zd_bnd (fun x hx => by obtain ⟨k, _, rfl⟩ := List.mem_map.1 hx; exact hb k) (by omega) (by omega)
  refine ⟨fun k => (hbd k).1, fun k => (hbd k).2, by simp; omega, fun _ => ⟨g, 0, rfl, h.lt, fun k hk => ?_⟩⟩
  simp at hk
  dsimp only
  rw [Nat.zero_add, h.cell hk, hz k hk]
theorem range_zd (m : Nat) (z : Nat → Int) (k : Nat) (hk : k < m) : zd ((List.range m).map z) k = z k := by unfold zd; simp [List.getD, hk]

attribute [local go_sem] Oper.semAt_some

theorem smallestFirst_in (n : Nat) (a : Option Addr) (len cap : Nat) (w : World) :
    CallsIn Fence.wide n Tryd.prog 47 #[.slice a len cap] w fun e w' => e = .returned (.func (.func 81) #[] #[.pointer (some ⟨w.heap.size, 0, none⟩)]) ∧ w' = w.alloc (.cells #[.slice a len cap] 29) := by
  refine callsIn_of_wp Tryd.func47 rfl trivial ?_ rfl
  simp only [Tryd.ntmps47, List.size_toArray, List.length_cons, List.length_nil, Nat.reduceAdd, Nat.reduceSub, Array.replicate_succ, Array.replicate_zero, List.push_toArray, List.append_toArray, List.nil_append, List.cons_append]
  gi_wp2
  go_ret
  exact ⟨rfl, rfl⟩

/-- what smallestFirst's first loop holds when k nodes are given out -/
structure SmI {m' : Nat} (E : TypeId) (J : List (Num m') → (Nat → Prop) → World → Prop) (Fp O : Nat → Prop) (W : World) (R : Nat → Nat → Bool) (m g k : Nat) (ys : List (Num m')) (O2 : Nat → Prop) (wr : World) : Prop where
  j : J ys O2 wr
  it : ItInv Fp O W O2 wr
  row : wr.rowIs g E m (fun x => .int .i64 (wv R m (topoN R m k) x))
  out : ¬ O2 g

set_option maxHeartbeats 2000000 in
theorem smallest1_in (n : Nat) (hn : 8 ≤ n) (m : Nat) (hm : m ≤ 200) (Bs c : Nat) (p : Nat → Prop) (A : Option Addr) (xss : List (List Nat)) (hl : xss.length = m) (w : World) (hx : RdUUp w p A xss) (hpl : ∀ b, p b → b < w.heap.size)
    (hc : w.cell? ⟨Bs, 0, none⟩ = some (.slice A m c)) (hBs : Bs < w.heap.size) (hbits : ∀ k, k < m → ∀ j, bitB (st xss k) j = true → j < m) (hroom : ∀ k, k < m → (st xss k).length ≤ 1024) (hT : Tab w) :
    SeqO Fence.wide n Tryd.prog 81 #[.pointer (some ⟨Bs, 0, none⟩)] (fun x : Num m => #[Value.int .i64 (x.1 : Int)]) (fun b => p b ∨ b = Bs ∨ b = 0)
      (fun ys => vals ys = topo (eR xss m) m) (fun _ => True) (fun pre _ => pre.length < m) w := by
  have h1 : 1 ≤ n := by omega
  intro l J Jx O W hkW hO hJ hJx hY h0
  have hTp := hT.pos
  have hF : ∀ k, (p k ∨ k = Bs ∨ k = 0) → k < W.heap.size := fun k hk => by
    have := hkW.size
    rcases hk with hk | hk | hk
    · have := hpl k hk; omega
    · omega
    · omega
  have hcW : W.cell? ⟨Bs, 0, none⟩ = some (.slice A m c) := (World.cell?_of_block (hkW.block Bs hBs (.inr (.inl rfl)))).trans hc
  have hxW := hx.keeps hkW (fun b hb => .inl hb)
  have hTW := hT.keeps hkW (.inr (.inr rfl))
  clear hx hc hT hkW
  refine callsIn_of_wp Tryd.func81 rfl trivial ?_ rfl
  simp only [Tryd.ntmps81, List.size_toArray, List.length_cons, List.length_nil, Nat.reduceAdd, Nat.reduceSub, Array.replicate_succ, Array.replicate_zero, List.push_toArray, List.append_toArray, List.nil_append, List.cons_append]
  gi_wp2_with (refine ⟨trivial, ?_⟩; refine (predecessors_in (n - 1) (by omega) m hm _ _ xss hl _ hxW.toUU hbits hroom hTW).mono ?_; rintro e w1 ⟨g, rfl, hg0, hrow, hb1⟩)
  obtain ⟨R, hR⟩ : ∃ R, R = eR xss m := ⟨_, rfl⟩
  have HR := Lib.hid hR
  have hrow0 : w1.rowIs g 3 m (fun x => .int .i64 (wv R m (topoN R m 0) x)) := hrow.congr fun x hx => by
    show _ = Value.int .i64 (wv R m [] x)
    have : wv R m [] x = (cntTo (elist xss m) x : Int) := by unfold wv; rw [if_neg (by simp), opn_nil, hR, cnt_eR]
    rw [this]
  have hS0 : SmI 3 J (fun b => p b ∨ b = Bs ∨ b = 0) O W R m g 0 [] O w1 := ⟨stable_below hJ h0 hb1, (ItInv.start hO).below hb1, hrow0, fun ho => by have := (hO g ho).1; omega⟩
  clear hrow hrow0 hR h0 hb1
  gi_loopg [] m (fun r wr => ∃ k ys O2, r + k = m ∧ Hid ((topoN R m k).length = k) ∧ Hid (vals ys = topoN R m k) ∧ SmI 3 J (fun b => p b ∨ b = Bs ∨ b = 0) O W R m g k ys O2 wr)
  case atStart => exact ⟨0, [], O, by omega, Lib.hid rfl, Lib.hid rfl, hS0⟩
  case round =>
    clear hS0
    obtain ⟨k, ys, O2, hrk, hkl, hys, hS⟩ := hrel
    have hgood := good_topoN R m k
    have hrdI := rowIs_rdI hS.row (fun x => by have := wv_bd R m (topoN R m k) x; omega) (by omega)
    have hlenr : ((List.range m).map (wv R m (topoN R m k))).length = m := by simp
    cases hp : pick R m (topoN R m k) with
    | none =>
      have htopo : topo R m = topoN R m k := topo_at (by omega) hp
      have hno : ∀ j, j < ((List.range m).map (wv R m (topoN R m k))).length → zd ((List.range m).map (wv R m (topoN R m k))) j ≠ 0 := fun j hj => by
        rw [hlenr] at hj
        rw [range_zd m _ j hj]
        intro e
        have h3 := find_range_none hp j hj
        rw [wv_zero.1 e] at h3
        cases h3
      have HNO := Lib.hid hno
      have HT := Lib.hid htopo
      have HLr := Lib.hid hlenr
      clear hno htopo hp hgood hlenr
      gi_wp2_with (refine ⟨trivial, ?_⟩; refine (callsIn_wide.2 (index_no_len _ _ _ _ HLr.out 0 _ hrdI HNO.out)).mono ?_; rintro e w' ⟨rfl, rfl⟩)
      refine ⟨fun _ h => (by cases h), ?_⟩
      gi_wp2
      refine bodyPost_ret (results_none rfl _ _ _) rfl ?_
      exact ⟨⟨_, rfl⟩, .inl ⟨ys, O2, by rw [hys.out, ← HT.out, HR.out], hS.j⟩⟩
    | some x =>
      obtain ⟨hxm, hrx, hmin⟩ := find_range hp
      have hfirst : FirstAt ((List.range m).map (wv R m (topoN R m k))) 0 x := by
        refine ⟨by simpa using hxm, ?_, fun j hj => ?_⟩
        · rw [range_zd m _ x hxm]; exact wv_zero.2 hrx
        · rw [range_zd m _ j (by omega)]
          intro e
          have h3 := hmin j hj
          rw [wv_zero.1 e] at h3
          cases h3
      have HFI := Lib.hid hfirst
      have HLr := Lib.hid hlenr
      have hkm : k < m ∧ ys.length < m := by
        have e1 := vals_len ys
        rw [hys.out] at e1
        have e2 := (hgood.snoc hxm hrx).len
        simp at e2
        have e3 := hkl.out
        omega
      obtain ⟨hkm, hlen⟩ := hkm
      have HTS := Lib.hid (topoN_some hp)
      have HRD := Lib.hid hrx
      have HGD := Lib.hid hgood
      clear hfirst hlenr hp hrx hmin hgood
      obtain ⟨fn, tmps, assign, body, hy, hR⟩ := hY ys ⟨x, hxm⟩ O2 wr hS.j hlen
      gi_wp2_with (refine ⟨trivial, ?_⟩; refine (callsIn_wide.2 (index_yes_len _ _ _ _ HLr.out 0 x _ hrdI HFI.out)).mono ?_; rintro e w' ⟨rfl, rfl⟩)
      refine hR.mono ?_
      rintro e W3 ⟨O3, hs3, (⟨rfl, hJ3⟩ | ⟨rfl, hJx3⟩)⟩
      · have hI3 := hS.it.step hO hF hs3
        have hgl := hS.row.lt
        have hg3 : ¬ O3 g := hs3.not hgl hS.out
        have hrow3 := rowIs_keeps hS.row hs3.keeps hS.out
        have hck := hrow3.cell hxm
        have hfk := hrow3.frozen x
        have hBsg : Bs ≠ g := by have := hF Bs (.inr (.inl rfl)); omega
        have hcB : W3.cell? ⟨Bs, 0, none⟩ = some (.slice A m c) := (World.cell?_of_block (hI3.keeps.block Bs (hF Bs (.inr (.inl rfl))) (.inr (.inl rfl)))).trans hcW
        obtain ⟨b, off, A2, c2, rfl, hb, hcx, hset⟩ := (hxW.keeps hI3.keeps (fun b hb => .inl hb)).at_ (k := x) (by rw [hl]; exact hxm)
        have hbg : b ≠ g := by have := hF b (.inl hb); omega
        have hx0 : (0 : Int) ≤ (x : Int) := Int.natCast_nonneg _
        have hx1 : (x : Int) < (m : Int) := by omega
        clear hrdI
        gi_wp2_with fail
        obtain ⟨W4, hW4⟩ : ∃ W4, W4 = W3.setCell ⟨g, x, none⟩ (.int .i64 (-1)) := ⟨_, rfl⟩
        rw [← hW4]
        have hs4 : W4.heap.size = W3.heap.size := by rw [hW4]; simp
        have hgF : ¬ (p g ∨ g = Bs ∨ g = 0) := fun h => by have := hF g h; omega
        have hk4 : Keeps (fun b => b ≠ g) W3 W4 := by rw [hW4]; exact (Keeps.refl _ W3).setCell (q := ⟨g, x, none⟩) (fun _ h => h rfl) _
        have hJ4 : J (ys ++ [⟨x, hxm⟩]) O3 W4 := hJ _ _ _ _ hJ3 (hk4.mono fun k' _ hp' e => by
          rcases hp' with hp' | hp'
          · omega
          · exact hg3 (e ▸ hp'))
        have hI4 : ItInv (fun b => p b ∨ b = Bs ∨ b = 0) O W O3 W4 := ⟨hI3.keeps.trans (hk4.mono fun k' _ hp' e => hgF (e ▸ hp')), hI3.own, fun b' hb' => by rw [hs4]; exact hI3.top b' hb'⟩
        have hrow4 : W4.rowIs g 3 m (fun y => .int .i64 (wvt R m (topoN R m k) x (mem (st xss x)) 0 y)) := by
          rw [hW4]
          refine (hrow3.set x (.int .i64 (-1))).congr fun y hy' => ?_
          rw [wvt_zero]
          by_cases e : y = x
          · simp [e]
          · simp [e]
        have hsz4 : W.heap.size ≤ W4.heap.size := hI4.keeps.size
        have hset4 := (hset.keeps hk4 (fun b hb e => hgF (.inl (e ▸ hb)))).toU
        have hT4 := hTW.keeps hI4.keeps (.inr (.inr rfl))
        have hgl4 : g < W4.heap.size := hrow4.lt
        clear hW4 hrow3 hck hfk hcB hcx hset hJ3 hI3 hk4 hs3
        gi_wp2_with (refine ⟨trivial, ?_⟩; refine (list_own (n - 1) (by omega) _ _ _ _ hset4 (Nat.le_trans (hroom x hxm) (by omega)) hT4).mono ?_; rintro e wl ⟨A3, c3, rfl, hown, hbl⟩)
        gi_wp2
        have hJl := stable_below hJ hJ4 hbl
        have hIl := hI4.below hbl
        have hrl := rowIs_step hrow4 hbl
        have hLR : ∀ y, y ∈ mem (st xss x) ↔ R x y = true := fun y => by rw [mem_iff, HR.out]; unfold eR; simp [hxm]
        have hnd := mem_nodup (st xss x)
        obtain ⟨L, hL⟩ : ∃ L, L = mem (st xss x) := ⟨_, rfl⟩
        rw [← hL] at hown hrl hLR hnd ⊢
        have hmlen : L.length ≤ 65536 := by rw [hL]; exact mem_len _ (hroom x hxm)
        have hLm : ∀ y, y ∈ L → y < m := fun y hy' => by rw [hL] at hy'; exact hbits x hxm y (mem_bit hy')
        have HLR := Lib.hid hLR
        have HND := Lib.hid hnd
        have HLM := Lib.hid hLm
        clear hL hJ4 hI4 hrow4 hset4 hT4 hLR hnd hLm hbl
        gi_loopw [28] (fun i wr2 => ∃ t : Nat, t ≤ L.length ∧ i = .int .i64 t ∧ J (ys ++ [⟨x, hxm⟩]) O3 wr2 ∧ ItInv (fun b => p b ∨ b = Bs ∨ b = 0) O W O3 wr2 ∧ wr2.rowIs g 3 m (fun y => .int .i64 (wvt R m (topoN R m k) x L t y)) ∧
            Keeps (fun b => b ≠ g) wl wr2) (fun i _ => L.length - (intOf i).toNat)
        case atStart => exact ⟨0, Nat.zero_le _, rfl, hJl, hIl, hrl, Keeps.refl _ _⟩
        case round =>
          clear hJl hIl hrl
          obtain ⟨t, ht, rfl, hJ5, hI5, hr5, hk5⟩ := hrel
          by_cases htl : t < L.length
          · obtain ⟨gl, cap, hA3, hgl1, hgl2⟩ := own_shape hown (by omega)
            injection hA3 with hA3 _ hc3
            subst hA3
            subst hc3
            obtain ⟨y, hy1, hy2⟩ := zd_toI L t htl
            have hym : y < m := HLM.out y (by obtain ⟨h1, h2⟩ := List.getElem?_eq_some_iff.1 hy2; rw [← h2]; exact List.getElem_mem h1)
            have hcg : wr.cell? ⟨gl, t, none⟩ = some (.int .i64 (y : Int)) := by
              rw [World.cell?_of_block (hk5.block gl hgl2 (by omega)), hown.cellAt t (by omega), iVals_at _ _ (by rw [toI_len]; exact htl), hy1]
            have hst := wvt_step HGD.out hxm HRD.out HLR.out HND.out hy2
            have hbd := wvt_bd R m (topoN R m k) x L t y
            have hcy := hr5.cell hym
            have hfy := hr5.frozen y
            obtain ⟨v5, hv5⟩ : ∃ v5, v5 = wvt R m (topoN R m k) x L t y := ⟨_, rfl⟩
            rw [← hv5] at hcy hst hbd
            have HST := Lib.hid hst
            have hglg : gl ≠ g := by omega
            have hy0 : (0 : Int) ≤ (y : Int) := Int.natCast_nonneg _
            have hy1 : (y : Int) < (m : Int) := by omega
            clear hst hv5 hy1 hy2
            gi_wp2
            have hk6 : Keeps (fun b => b ≠ g) wr (wr.setCell ⟨g, y, none⟩ (.int .i64 (v5 - 1))) := (Keeps.refl _ wr).setCell (q := ⟨g, y, none⟩) (fun _ h => h rfl) _
            have hJ6 := hJ _ _ _ _ hJ5 (hk6.mono fun k' _ hp' e => by
              rcases hp' with hp' | hp'
              · omega
              · exact hg3 (e ▸ hp'))
            have hI6 : ItInv (fun b => p b ∨ b = Bs ∨ b = 0) O W O3 (wr.setCell ⟨g, y, none⟩ (.int .i64 (v5 - 1))) := ⟨hI5.keeps.trans (hk6.mono fun k' _ hp' e => hgF (e ▸ hp')), hI5.own, fun b' hb' => by simpa using hI5.top b' hb'⟩
            have hr6 : (wr.setCell ⟨g, y, none⟩ (.int .i64 (v5 - 1))).rowIs g 3 m (fun y => .int .i64 (wvt R m (topoN R m k) x L (t + 1) y)) := (hr5.set y (.int .i64 (v5 - 1))).congr fun j hj => by
              rw [HST.out]
              by_cases e : j = y
              · simp [e]
              · simp [e]
            go_roundw
            case rel => exact ⟨t + 1, by omega, by simp, hJ6, hI6, hr6, hk5.trans hk6⟩
            case measure => simp [intOf]; omega
          · obtain rfl : t = L.length := by omega
            have hr7 : wr.rowIs g 3 m (fun y => .int .i64 (wv R m (topoN R m (k + 1)) y)) := by
              rw [HTS.out, ← wvt_all hxm (ready_iff.1 HRD.out).1 HLR.out]
              exact hr5
            have hkl7 : Hid ((topoN R m (k + 1)).length = k + 1) := Lib.hid (by rw [HTS.out, List.length_append, hkl.out]; rfl)
            have hys7 : Hid (vals (ys ++ [⟨x, hxm⟩]) = topoN R m (k + 1)) := Lib.hid (by rw [vals_snoc, hys.out, HTS.out])
            gi_wp2
            gi_roundg (m - (k + 1))
            case measure => omega
            case rel => exact ⟨k + 1, _, O3, by omega, hkl7, hys7, hJ5, hI5, hr7, hg3⟩
      · gi_wp2
        refine bodyPost_ret (results_none rfl _ _ _) rfl ?_
        exact ⟨⟨_, rfl⟩, .inr ⟨_, _, trivial, hJx3⟩⟩
end Go.Proofs.YtaboafkpmgadmaaDoor

namespace Go.Proofs.YtaboafkpmgadmaaDoor
open Go.RowKit

theorem ownsRow_keeps {p : Nat → Prop} {w w' : World} {base e size n : Nat} {v : Value} {xs : List Value} (h : w.ownsRow base e size v n xs) (hk : Keeps p w w') (hp : ∀ b, v.ownBlock = some b → p b) : w'.ownsRow base e size v n xs := by
  refine ⟨h.1, ?_⟩
  rcases h.2 with h0 | ⟨g, cap, cur, hv, hb, hg, hr⟩
  · exact .inl h0
  · exact .inr ⟨g, cap, cur, hv, hb, (hk.block g (Array.getElem?_eq_some_iff.1 hg).1 (hp g (by rw [hv]; rfl))).trans hg, hr⟩
theorem own_block_lt {w : World} {base e size n : Nat} {v : Value} {xs : List Value} (h : w.ownsRow base e size v n xs) : ∀ b, v.ownBlock = some b → b < w.heap.size := fun b hb => by
  rcases h.2 with ⟨h0, _⟩ | ⟨g, cap, cur, hv, _, hg, _⟩
  · rw [h0] at hb; simp [Value.ownBlock] at hb
  · rw [hv] at hb
    obtain rfl : g = b := by simpa [Value.ownBlock] using hb
    exact (Array.getElem?_eq_some_iff.1 hg).1
theorem own_base' {w : World} {base n size : Nat} {e : TypeId} {v : Value} {xs : List Value} (h : w.ownsRow base e size v n xs) : ∀ k, v.ownBlock = some k → base ≤ k := by
  intro k hk
  rcases h.2 with ⟨rfl, _⟩ | ⟨g, cap, cur, rfl, hb, _⟩
  · simp [Value.ownBlock] at hk
  · have : g = k := by simpa [Value.ownBlock] using hk
    omega

/-- the box Bo holds a slice that owns xs; both are the body's -/
def CollI (T E : TypeId) (size n₀ Bo k : Nat) (xs : List Value) (O : Nat → Prop) (W : World) : Prop :=
  ∃ v, Boxed W Bo T v ∧ W.ownsRow n₀ E size v k xs ∧ O Bo ∧ ∀ b, v.ownBlock = some b → O b
theorem CollI.keeps {T E : TypeId} {size n₀ Bo k : Nat} {xs : List Value} {O p : Nat → Prop} {W W' : World} (h : CollI T E size n₀ Bo k xs O W) (hk : Keeps p W W') (hp : ∀ b, O b → p b) : CollI T E size n₀ Bo k xs O W' := by
  obtain ⟨v, h1, h2, h3, h4⟩ := h
  exact ⟨v, (hk.block Bo h1.lt (hp Bo h3)).trans h1, ownsRow_keeps h2 hk fun b hb => hp b (h4 b hb), h3, h4⟩
/-- behind an append and the store of its answer -/
theorem CollI.step {T E : TypeId} {size n₀ Bo k m : Nat} {xs ys : List Value} {O : Nat → Prop} {W w1 : World} {v v' : Value} {tmp : Obj}
    (hv : Boxed W Bo T v) (hTE : T ≠ E) (hrow : W.ownsRow n₀ E size v k xs) (hn₀ : n₀ ≤ W.heap.size) (hB : n₀ ≤ Bo) (hO : O Bo) (hOv : ∀ b, v.ownBlock = some b → O b)
    (hown' : w1.ownsRow n₀ E size v' m ys) (hgrow : (W.alloc tmp).grownBy w1 v.ownBlock) (hat : v'.ownBlock = v.ownBlock ∨ v'.ownBlock = some (W.alloc tmp).heap.size) :
    CollI T E size n₀ Bo m ys (fun b => b = Bo ∨ v'.ownBlock = some b) (w1.setCell ⟨Bo, 0, none⟩ v') ∧ StepO O (fun b => b = Bo ∨ v'.ownBlock = some b) W (w1.setCell ⟨Bo, 0, none⟩ v') ∧ Below n₀ W (w1.setCell ⟨Bo, 0, none⟩ v') := by
  obtain ⟨_, h2, h3, _, h5⟩ := hv.appended hTE hrow hn₀ hB hown' hgrow
  refine ⟨⟨v', h2, h3, .inl rfl, fun b hb => .inr hb⟩, ⟨?_, fun b hb => ?_, fun b hb => ?_⟩, h5⟩
  · exact (((Keeps.refl _ W).alloc tmp).grown hgrow (fun r hr _ h => h (hOv r hr))).setCell (q := ⟨Bo, 0, none⟩) (fun _ h => h hO) v'
  · rcases hb with rfl | hb
    · exact .inl hO
    · rcases hat with h | h
      · exact .inl (hOv b (h ▸ hb))
      · rw [h] at hb
        injection hb with hb
        exact .inr (by rw [← hb]; simp)
  · rcases hb with rfl | hb
    · exact h2.lt
    · exact own_block_lt h3 b hb
end Go.Proofs.YtaboafkpmgadmaaDoor

namespace Go.Proofs.YtaboafkpmgadmaaDoor

/-- words of 64 bits -/
def Ws (xs : List Nat) : Prop := ∀ k, wd xs k < 18446744073709551616
/-- bit j of word k -/
def tb (xs : List Nat) (k j : Nat) : Bool := (wd xs k).testBit j
theorem ws_nil : Ws [] := fun k => by simp [wd]
theorem tb_nil (k j : Nat) : tb [] k j = false := by simp [tb, wd]
theorem ws_and {xs ys : List Nat} (hx : Ws xs) : Ws (mrg andN xs ys) := fun k => by rw [mrg_wd rfl]; exact andN_lt _ _ (hx k)
theorem ws_or {xs ys : List Nat} (hx : Ws xs) (hy : Ws ys) : Ws (mrg orN xs ys) := fun k => by rw [mrg_wd rfl]; exact orN_lt _ _ (hx k) (hy k)
theorem ws_less {xs ys : List Nat} (hx : Ws xs) : Ws (mrg lessN xs ys) := fun k => by rw [mrg_wd rfl]; exact lessN_lt _ _ (hx k)
theorem tb_and (xs ys : List Nat) (k j : Nat) : tb (mrg andN xs ys) k j = (tb xs k j && tb ys k j) := by unfold tb; rw [mrg_wd rfl]; unfold andN; exact Nat.testBit_and _ _ _
theorem tb_or (xs ys : List Nat) (k j : Nat) : tb (mrg orN xs ys) k j = (tb xs k j || tb ys k j) := by unfold tb; rw [mrg_wd rfl]; unfold orN; exact Nat.testBit_or _ _ _
theorem tb_less (xs ys : List Nat) (hy : Ws ys) (k j : Nat) (hj : j < 64) : tb (mrg lessN xs ys) k j = (tb xs k j && !tb ys k j) := by unfold tb; rw [mrg_wd rfl]; exact testBit_lessN _ _ (hy k) j hj
theorem same_sets {xs ys : List Nat} (hx : NoTail xs) (hy : NoTail ys) (lx : Ws xs) (ly : Ws ys) (h : ∀ k j, j < 64 → tb xs k j = tb ys k j) : xs = ys :=
  noTail_ext hx hy fun k => eq_of_bits (lx k) (ly k) (h k)
theorem noTail_nil : NoTail [] := .inl rfl

theorem and_comm' {s t : List Nat} (hs : Ws s) (ht : Ws t) : mrg andN s t = mrg andN t s :=
  same_sets (mrg_noTail _ _ _) (mrg_noTail _ _ _) (ws_and hs) (ws_and ht) fun k j _ => by rw [tb_and, tb_and, Bool.and_comm]
theorem or_comm' {s t : List Nat} (hs : Ws s) (ht : Ws t) : mrg orN s t = mrg orN t s :=
  same_sets (mrg_noTail _ _ _) (mrg_noTail _ _ _) (ws_or hs ht) (ws_or ht hs) fun k j _ => by rw [tb_or, tb_or, Bool.or_comm]
theorem and_over {s t u : List Nat} (hs : Ws s) (_ht : Ws t) (_hu : Ws u) : mrg andN s (mrg orN t u) = mrg orN (mrg andN s t) (mrg andN s u) :=
  same_sets (mrg_noTail _ _ _) (mrg_noTail _ _ _) (ws_and hs) (ws_or (ws_and hs) (ws_and hs)) fun k j _ => by rw [tb_and, tb_or, tb_or, tb_and, tb_and, Bool.and_or_distrib_left]
theorem or_over {s t u : List Nat} (hs : Ws s) (ht : Ws t) (_hu : Ws u) : mrg orN s (mrg andN t u) = mrg andN (mrg orN s t) (mrg orN s u) :=
  same_sets (mrg_noTail _ _ _) (mrg_noTail _ _ _) (ws_or hs (ws_and ht)) (ws_and (ws_or hs ht)) fun k j _ => by rw [tb_or, tb_and, tb_and, tb_or, tb_or, Bool.or_and_distrib_left]
theorem and_less {s t : List Nat} (hs : Ws s) (ht : Ws t) : mrg orN (mrg andN s t) (mrg lessN s t) = mrg orN s [] :=
  same_sets (mrg_noTail _ _ _) (mrg_noTail _ _ _) (ws_or (ws_and hs) (ws_less hs)) (ws_or hs ws_nil) fun k j hj => by rw [tb_or, tb_and, tb_less _ _ ht k j hj, tb_or, tb_nil]; cases tb s k j <;> cases tb t k j <;> rfl
theorem less_and {s t : List Nat} (hs : Ws s) (ht : Ws t) : mrg andN (mrg lessN s t) t = [] :=
  same_sets (mrg_noTail _ _ _) noTail_nil (ws_and (ws_less hs)) ws_nil fun k j hj => by rw [tb_and, tb_less _ _ ht k j hj, tb_nil]; cases tb s k j <;> cases tb t k j <;> rfl

theorem inB_iff {xs ys : List Nat} (hx : Ws xs) (hy : Ws ys) : inB xs ys = true ↔ ∀ k j, j < 64 → tb xs k j = true → tb ys k j = true := by
  unfold inB
  rw [decide_eq_true_iff]
  constructor
  · intro h k j hj hb
    by_cases hk : k < xs.length
    · have h1 := testBit_lessN (wd xs k) (wd ys k) (hy k) j hj
      rw [h k hk] at h1
      unfold tb at hb ⊢
      rw [hb] at h1
      simpa using h1.symm
    · unfold tb at hb
      rw [wd_out xs k (by omega)] at hb
      simp at hb
  · intro h k _
    refine eq_of_bits (lessN_lt _ _ (hx k)) (by omega) fun j hj => ?_
    rw [testBit_lessN _ _ (hy k) j hj]
    have h1 := h k j hj
    unfold tb at h1
    cases e : (wd xs k).testBit j
    · simp
    · rw [h1 e]; simp
theorem inB_self {xs : List Nat} (hx : Ws xs) : inB xs xs = true := (inB_iff hx hx).2 fun _ _ _ h => h
theorem inB_and {us xs ys : List Nat} (hu : Ws us) (hx : Ws xs) (hy : Ws ys) : inB us (mrg andN xs ys) = (inB us xs && inB us ys) := by
  rw [Bool.eq_iff_iff, Bool.and_eq_true, inB_iff hu (ws_and hx), inB_iff hu hx, inB_iff hu hy]
  constructor
  · intro h
    exact ⟨fun k j hj hb => by have := h k j hj hb; rw [tb_and, Bool.and_eq_true] at this; exact this.1, fun k j hj hb => by have := h k j hj hb; rw [tb_and, Bool.and_eq_true] at this; exact this.2⟩
  · rintro ⟨h1, h2⟩ k j hj hb
    rw [tb_and, h1 k j hj hb, h2 k j hj hb]; rfl
theorem inB_or {us xs ys : List Nat} (hu : Ws us) (hx : Ws xs) (hy : Ws ys) : inB (mrg orN xs ys) us = (inB xs us && inB ys us) := by
  rw [Bool.eq_iff_iff, Bool.and_eq_true, inB_iff (ws_or hx hy) hu, inB_iff hx hu, inB_iff hy hu]
  constructor
  · intro h
    exact ⟨fun k j hj hb => h k j hj (by rw [tb_or, hb]; rfl), fun k j hj hb => h k j hj (by rw [tb_or, hb]; simp)⟩
  · rintro ⟨h1, h2⟩ k j hj hb
    rw [tb_or, Bool.or_eq_true] at hb
    rcases hb with hb | hb
    · exact h1 k j hj hb
    · exact h2 k j hj hb
theorem inB_trans {xs ys us : List Nat} (hx : Ws xs) (hy : Ws ys) (hu : Ws us) (h1 : inB xs ys = true) (h2 : inB ys us = true) : inB xs us = true := by
  rw [inB_iff hx hy] at h1
  rw [inB_iff hy hu] at h2
  exact (inB_iff hx hu).2 fun k j hj hb => h2 k j hj (h1 k j hj hb)
theorem inB_eq {xs ys : List Nat} (hx : Ws xs) (hy : Ws ys) : decide (mrg orN xs [] = mrg orN ys []) = (inB xs ys && inB ys xs) := by
  rw [Bool.eq_iff_iff, Bool.and_eq_true, decide_eq_true_iff, inB_iff hx hy, inB_iff hy hx]
  constructor
  · intro h
    have e : ∀ k j, tb xs k j = tb ys k j := fun k j => by
      have h1 := tb_or xs [] k j
      rw [h, tb_or, tb_nil, Bool.or_false, Bool.or_false] at h1
      exact h1.symm
    exact ⟨fun k j _ hb => by rw [← e]; exact hb, fun k j _ hb => by rw [e]; exact hb⟩
  · rintro ⟨h1, h2⟩
    refine same_sets (mrg_noTail _ _ _) (mrg_noTail _ _ _) (ws_or hx ws_nil) (ws_or hy ws_nil) fun k j hj => ?_
    rw [tb_or, tb_or, tb_nil, Bool.or_false, Bool.or_false, Bool.eq_iff_iff]
    exact ⟨h1 k j hj, h2 k j hj⟩
end Go.Proofs.YtaboafkpmgadmaaDoor

namespace Go.Proofs.YtaboafkpmgadmaaDoor

theorem pw_bit (x j : Nat) : (pw x).testBit j = decide (x % 64 = j) := by unfold pw; rw [Nat.testBit_two_pow]
theorem setB_bit (l : List Nat) (k j : Nat) (hj : j < 64) : (setB l k).testBit j = decide (64 * k + j ∈ l) := by
  have : ∀ (l : List Nat) (a : Nat), (l.foldl (fun a x => if k = x / 64 then orN a (pw x) else a) a).testBit j = (a.testBit j || decide (64 * k + j ∈ l)) := by
    intro l
    induction l with
    | nil => intro a; simp
    | cons x l ih =>
      intro a
      show (l.foldl (fun a x => if k = x / 64 then orN a (pw x) else a) (if k = x / 64 then orN a (pw x) else a)).testBit j = _
      rw [ih]
      by_cases hk : k = x / 64
      · rw [if_pos hk]
        unfold orN
        rw [Nat.testBit_or, pw_bit]
        by_cases hx : x % 64 = j
        · have e : x = 64 * k + j := by omega
          simp [hx, ← e]
        · have e : ¬ 64 * k + j = x := by omega
          simp [hx, e]
      · rw [if_neg hk]
        have e : ¬ 64 * k + j = x := by omega
        simp [e]
  have h := this l 0
  rw [Nat.zero_testBit, Bool.false_or] at h
  exact h
theorem ofS_tb (zs : List Int) (k j : Nat) (hj : j < 64) : tb (ofS zs) k j = decide (64 * k + j ∈ alw zs) := by
  unfold tb ofS ofL
  rw [wd_map]
  split
  · exact setB_bit _ k j hj
  · rename_i hk
    rw [Nat.zero_testBit]
    symm
    rw [decide_eq_false_iff_not]
    intro hm
    have := gN_ge (alw zs) _ hm
    omega
theorem gN_mem (l : List Nat) (h : 0 < gN l) : gN l - 1 ∈ l := by
  have : ∀ (l : List Nat) (g : Nat), l.foldl (fun g x => max g (x + 1)) g = g ∨ (l.foldl (fun g x => max g (x + 1)) g - 1 ∈ l ∧ 0 < l.foldl (fun g x => max g (x + 1)) g) := by
    intro l
    induction l with
    | nil => intro g; exact .inl rfl
    | cons a l ih =>
      intro g
      rcases ih (max g (a + 1)) with h | h
      · rcases Nat.le_total g (a + 1) with hg | hg
        · right
          show l.foldl (fun g x => max g (x + 1)) (max g (a + 1)) - 1 ∈ a :: l ∧ 0 < l.foldl (fun g x => max g (x + 1)) (max g (a + 1))
          rw [h, Nat.max_eq_right hg]
          simp
        · left
          show l.foldl (fun g x => max g (x + 1)) (max g (a + 1)) = g
          rw [h, Nat.max_eq_left hg]
      · right
        exact ⟨List.mem_cons_of_mem _ h.1, h.2⟩
  rcases this l 0 with h' | h'
  · unfold gN at h; omega
  · exact h'.1
theorem ofS_noTail (zs : List Int) : NoTail (ofS zs) := by
  by_cases h : 0 < gN (alw zs)
  · right
    intro h0
    have hl : (ofS zs).length = (gN (alw zs) + 63) / 64 := by unfold ofS; rw [ofL_len]
    have hb := ofS_tb zs ((ofS zs).length - 1) ((gN (alw zs) - 1) % 64) (by omega)
    unfold tb at hb
    rw [h0, Nat.zero_testBit] at hb
    have e : 64 * ((ofS zs).length - 1) + (gN (alw zs) - 1) % 64 = gN (alw zs) - 1 := by rw [hl]; omega
    rw [e, decide_eq_true (gN_mem _ h)] at hb
    cases hb
  · left
    have e : gN (alw zs) = 0 := by omega
    unfold ofS
    rw [e]
    rfl
theorem mem_alw (zs : List Int) (n : Nat) : n ∈ alw zs ↔ (n : Int) ∈ zs ∧ n ≤ 65535 := by
  unfold alw
  rw [List.mem_filterMap]
  constructor
  · rintro ⟨z, hz, h⟩
    unfold okN at h
    split at h
    · injection h with h
      have e : z = (n : Int) := by omega
      subst e
      exact ⟨hz, by omega⟩
    · cases h
  · rintro ⟨hz, hn⟩
    refine ⟨n, hz, ?_⟩
    unfold okN
    rw [if_pos ⟨by omega, by omega⟩]
    simp
theorem ofS_congr {ys zs : List Int} (h : ∀ n, n ∈ alw ys ↔ n ∈ alw zs) : ofS ys = ofS zs :=
  same_sets (ofS_noTail ys) (ofS_noTail zs) (ofS_wd ys) (ofS_wd zs) fun k j hj => by
    rw [ofS_tb ys k j hj, ofS_tb zs k j hj, Bool.eq_iff_iff, decide_eq_true_iff, decide_eq_true_iff]
    exact h _

/-- the list of the set of zs -/
def lst (zs : List Int) : List Int := alist (ofS zs) (64 * (ofS zs).length)
theorem mem_alist (xs : List Nat) (n : Nat) (z : Int) : z ∈ alist xs n ↔ ∃ k, k < n ∧ bitB xs k = true ∧ z = (k : Int) := by
  unfold alist
  rw [List.mem_map]
  constructor
  · rintro ⟨k, hk, rfl⟩
    obtain ⟨h1, h2⟩ := List.mem_filter.1 hk
    exact ⟨k, List.mem_range.1 h1, h2, rfl⟩
  · rintro ⟨k, h1, h2, rfl⟩
    exact ⟨k, List.mem_filter.2 ⟨List.mem_range.2 h1, h2⟩, rfl⟩
theorem bitB_tb (xs : List Nat) (n : Nat) : bitB xs n = tb xs (n / 64) (n % 64) := rfl
theorem ofS_bit (zs : List Int) (n : Nat) : bitB (ofS zs) n = decide (n ∈ alw zs) := by
  rw [bitB_tb, ofS_tb zs _ _ (by omega), show 64 * (n / 64) + n % 64 = n by omega]
theorem bit_in (xs : List Nat) (n : Nat) (h : bitB xs n = true) : n < 64 * xs.length := by
  rcases Nat.lt_or_ge n (64 * xs.length) with h1 | h1
  · exact h1
  · unfold bitB at h
    rw [wd_out xs _ (by omega), Nat.zero_testBit] at h
    cases h
theorem mem_lst (zs : List Int) (z : Int) : z ∈ lst zs ↔ ∃ k, k ∈ alw zs ∧ z = (k : Int) := by
  unfold lst
  rw [mem_alist]
  constructor
  · rintro ⟨k, _, h2, rfl⟩
    rw [ofS_bit, decide_eq_true_iff] at h2
    exact ⟨k, h2, rfl⟩
  · rintro ⟨k, h, rfl⟩
    have hb : bitB (ofS zs) k = true := by rw [ofS_bit]; exact decide_eq_true h
    exact ⟨k, bit_in _ _ hb, hb, rfl⟩
theorem lst_sub (zs : List Int) (z : Int) (h : z ∈ lst zs) : z ∈ zs := by
  obtain ⟨k, hk, rfl⟩ := (mem_lst zs z).1 h
  exact ((mem_alw zs k).1 hk).1
theorem of_lst (zs : List Int) : ofS (lst zs) = ofS zs := ofS_congr fun n => by
  rw [mem_alw]
  constructor
  · rintro ⟨h, _⟩
    obtain ⟨k, hk, e⟩ := (mem_lst zs _).1 h
    have : k = n := by omega
    subst this
    exact hk
  · intro h
    exact ⟨(mem_lst zs _).2 ⟨n, h, rfl⟩, by have := alw_lt zs n h; omega⟩
theorem alist_sorted (xs : List Nat) (n : Nat) : (alist xs n).Pairwise (· < ·) := by
  unfold alist
  rw [List.pairwise_map]
  refine List.Pairwise.filter _ ?_
  exact List.pairwise_lt_range.imp fun h => by omega
theorem alist_up (xs : List Nat) (n i : Nat) (h : i + 1 < (alist xs n).length) : zd (alist xs n) i < zd (alist xs n) (i + 1) := by
  have hp := List.pairwise_iff_getElem.1 (alist_sorted xs n) i (i + 1) (by omega) h (by omega)
  unfold zd
  simpa [List.getD, h, show i < (alist xs n).length by omega] using hp
theorem zd_mem (zs : List Int) (i : Nat) (h : i < zs.length) : zd zs i ∈ zs := by
  unfold zd
  simp [List.getD, h]
end Go.Proofs.YtaboafkpmgadmaaDoor
