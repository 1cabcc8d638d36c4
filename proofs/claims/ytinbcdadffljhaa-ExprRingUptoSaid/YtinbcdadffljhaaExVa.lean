/-
  Contracts of the program's values and of the closure that it answers: a name's number, the last that binds it.
-/
import Derived.Test.YtinbcdadffljhaaExFrI
import Derived.Test.YtinbcdadffljhaaExX
import Derived.Maps.OwnOps
import Derived.Maps.OwnSet
import Derived.Maps.Views
namespace Go.Proofs.Ytinbcdadffljhaa
open Go.RowKit Go.Maps Go.WideMaps
set_option maxRecDepth 100000

/-- does one of these bind the name? -/
def hasB (l : List (ByteArray × Int)) (s : ByteArray) : Bool := l.any fun b => decide (b.1 = s)
theorem hasB_cons (p : ByteArray × Int) (l : List (ByteArray × Int)) (s : ByteArray) : hasB (p :: l) s = (decide (p.1 = s) || hasB l s) := rfl
theorem fold_has (l : List (ByteArray × Int)) (s : ByteArray) : ∀ v, l.foldl (fun v b => if b.1 = s then b.2 else v) v = if hasB l s then bnd l s else v := by
  induction l with
  | nil => exact fun v => rfl
  | cons p l ih =>
    intro v
    have e : bnd (p :: l) s = if hasB l s then bnd l s else (if p.1 = s then p.2 else 0) := ih _
    show l.foldl _ (if p.1 = s then p.2 else v) = _
    rw [ih, e, hasB_cons]
    by_cases h : p.1 = s <;> cases hl : hasB l s <;> simp [h]
theorem bnd_cons (p : ByteArray × Int) (l : List (ByteArray × Int)) (s : ByteArray) : bnd (p :: l) s = if hasB l s then bnd l s else (if p.1 = s then p.2 else 0) := fold_has l s _
theorem bnd_none {l : List (ByteArray × Int)} {s : ByteArray} (h : hasB l s = false) : bnd l s = 0 := by
  have := fold_has l s 0
  rw [h] at this
  exact this
theorem bnd_drop {l : List (ByteArray × Int)} {s : ByteArray} {k : Nat} (h : hasB (l.drop k) s = true) : bnd l s = bnd (l.drop k) s := by
  have e : bnd l s = (l.drop k).foldl (fun v b => if b.1 = s then b.2 else v) (bnd (l.take k) s) := by
    unfold bnd
    rw [← List.foldl_append, List.take_append_drop]
  rw [e, fold_has, h]
  rfl
theorem drop_bd {l : List (ByteArray × Int)} {k : Nat} (h : k < l.length) : l.drop k = bd l k :: l.drop (k + 1) := by
  rw [List.drop_eq_getElem_cons h]
  unfold bd
  simp [List.getD, h]

theorem keyS_ne {s t : ByteArray} (h : s ≠ t) : Lit.string s.data.toList ≠ Lit.string t.data.toList := fun e => by
  injection e with e
  exact h (ByteArray.ext (Array.toList_inj.1 e))
/-- the map tells what these bind -/
structure VMap (l : List (ByteArray × Int)) (D : DataW Unit) : Prop where
  tidy : Tidy D
  has : ∀ s : ByteArray, Maps.has D (.string s.data.toList) = hasB l s
  val : ∀ s : ByteArray, D.atKey (.string s.data.toList) (.lit (.int .i64 0)) = .lit (.int .i64 (bnd l s))
theorem VMap.start : VMap [] (.map []) := ⟨tidy_empty, fun _ => rfl, fun _ => rfl⟩
theorem VMap.skip {l : List (ByteArray × Int)} {D : DataW Unit} {p : ByteArray × Int} (h : VMap l D) (hp : hasB l p.1 = true) : VMap (p :: l) D := by
  have e : ∀ s, hasB (p :: l) s = hasB l s := fun s => by
    unfold hasB
    rw [List.any_cons]
    by_cases hs : p.1 = s
    · have := hp
      rw [hs] at this
      unfold hasB at this
      rw [this, Bool.or_true]
    · simp [hs]
  refine ⟨h.tidy, fun s => by rw [h.has, e], fun s => ?_⟩
  rw [h.val, bnd_cons]
  by_cases hs : hasB l s = true
  · rw [if_pos hs]
  · rw [if_neg hs, if_neg (fun e : p.1 = s => hs (e ▸ hp)), bnd_none (by simpa using hs)]
theorem VMap.put {l : List (ByteArray × Int)} {D : DataW Unit} {p : ByteArray × Int} (h : VMap l D) (hp : hasB l p.1 = false) : VMap (p :: l) (D.put (.string p.1.data.toList) (.lit (.int .i64 p.2))) := by
  have hk : WideAt.IsKeyLit (.string p.1.data.toList) := by trivial
  refine ⟨h.tidy.put hk _, fun s => ?_, fun s => ?_⟩
  · by_cases hs : s = p.1
    · subst hs
      rw [has_put_same h.tidy.isMap hk]
      unfold hasB
      simp
    · rw [has_put_other (keyS_ne hs), h.has]
      unfold hasB
      rw [List.any_cons]
      simp [Ne.symm hs]
  · by_cases hs : s = p.1
    · subst hs
      rw [atKey_put_same h.tidy.isMap hk, bnd_cons, hp]
      simp
    · rw [atKey_put_other (keyS_ne hs), h.val, bnd_cons, if_neg (Ne.symm hs)]
      by_cases h2 : hasB l s = true
      · rw [if_pos h2]
      · rw [if_neg h2, bnd_none (by simpa using h2)]

theorem wf_of {x : Int} (h : inI x) : (Lit.int IntKind.i64 x).wf = true := by
  unfold inI at h
  exact WalkArith.wf_i64 (by omega)
theorem vaS_law : Keyed Try.prog 9 := string_keyed Try.underlying9
theorem vaI_zero (w : World) : (zeroValue 3).run Try.prog w = .ok (.int .i64 0) w := by kernel_rfl

/-- what values keeps: the binds that are not passed yet, the map of those that are -/
structure VI (base D g p : Nat) (A : Option Addr) (env : List (ByteArray × Int)) (k : Nat) (W : World) : Prop where
  hk : k ≤ env.length
  low : base ≤ D ∧ base ≤ g ∧ base ≤ p ∧ D ≠ g ∧ D ≠ p ∧ g ≠ p
  box : ∃ c, k ≤ c ∧ W.heap[D]? = some (.cells #[.slice A k c] 25 (0, 0))
  mbox : W.heap[p]? = some (.cells #[.map (some g)] 72 (0, 0))
  map : ∃ n Dt, W.ownsMap Try.prog 9 (plainElem Try.prog 3) g n Dt ∧ n + k ≤ env.length ∧ VMap (env.drop k) Dt
  rd : RdB W base A env
theorem map_keep {H : Type} {P : Program} {k : TypeId} {R : Value → Option (DataW H × List MemPlace)} {w w' : World} {b n : Nat} {D : DataW H} (h : w.ownsMap P k R b n D) (hb : w'.heap[b]? = w.heap[b]?) : w'.ownsMap P k R b n D := by
  obtain ⟨es, clock, h1, r⟩ := h
  exact ⟨es, clock, hb.trans h1, r⟩
section
variable {base D g p k : Nat} {A : Option Addr} {env : List (ByteArray × Int)} {W W' : World}
theorem VI.lt (h : VI base D g p A env k W) : D < W.heap.size ∧ g < W.heap.size ∧ p < W.heap.size := by
  obtain ⟨c, _, hb⟩ := h.box
  obtain ⟨n, Dt, hm, _⟩ := h.map
  exact ⟨(Array.getElem?_eq_some_iff.1 hb).1, hm.lt, (Array.getElem?_eq_some_iff.1 h.mbox).1⟩
theorem VI.step (h : VI base D g p A env k W) (hb : Below W.heap.size W W') : VI base D g p A env k W' := by
  obtain ⟨l1, l2, l3⟩ := h.lt
  obtain ⟨c, hc, h1⟩ := h.box
  obtain ⟨n, Dt, hm, h2⟩ := h.map
  exact ⟨h.hk, h.low, ⟨c, hc, (hb.block D l1).trans h1⟩, (hb.block p l3).trans h.mbox, ⟨n, Dt, map_keep hm (hb.block g l2), h2⟩, h.rd.below (hb.mono (by have := h.low; omega))⟩
end
theorem VI.inv (base D g p : Nat) (A : Option Addr) (env : List (ByteArray × Int)) (hb : base ≤ D ∧ base ≤ g) : Inv base (fun k => k = D ∨ k = g) (fun W => ∃ k, VI base D g p A env k W) :=
  ⟨fun k hk => by have := hb; omega, fun W ⟨k, h⟩ q hq => by have := h.lt; omega, fun W W' ⟨k, h⟩ hb => ⟨k, h.step hb⟩⟩
/-- how many binds are left -/
def leftB (D : Nat) (w : World) : Nat := match w.cell? ⟨D, 0, none⟩ with | some (.slice _ n _) => n | _ => 0

set_option maxHeartbeats 8000000 in
theorem vals_any {base D g p : Nat} {A : Option Addr} {env : List (ByteArray × Int)} (hl : env.length ≤ 1048577) (s : ByteArray) (W : World) (hs : s.size ≤ maxLen) (hW : ∃ k, VI base D g p A env k W) :
    Calls Try.prog 47 #[.string s, .pointer (some ⟨p, 0, none⟩), .pointer (some ⟨D, 0, none⟩)] W fun e W' => e = .returned (.int .i64 (bnd env s)) ∧ (∃ k, VI base D g p A env k W') ∧ Keeps (fun k => ¬ (k = D ∨ k = g)) W W' := by
  have hkey : keyOf Try.prog 9 (.string s) = some (.string s.data.toList) := keyOf_string_mk Try.underlying9 hs
  have HKEY := Lib.hid hkey
  obtain ⟨V, hV⟩ : ∃ V, V = bnd env s := ⟨_, rfl⟩
  have HV := Lib.hid hV
  rw [← hV]
  clear hkey hV
  go_enter Try.func47, Try.ntmps47
  go_wp2_with fail
  obtain ⟨wo, rfl⟩ : ∃ wo : World, wo = W := ⟨_, rfl⟩
  go_loopw [] (fun wr => (∃ k, VI base D g p A env k wr) ∧ Keeps (fun k => ¬ (k = D ∨ k = g)) wo wr) (fun wr => leftB D wr)
  case atStart => exact ⟨hW, Keeps.refl _ _⟩
  case round =>
    obtain ⟨⟨k, hv⟩, hk⟩ := hrel
    obtain ⟨n, Dt, hm, hn, hM⟩ := hv.map
    obtain ⟨c, hc, hbx⟩ := hv.box
    obtain ⟨x, ps, hrun, hx⟩ := hm.look_ok vaS_law Try.underlying72 (vaI_zero wr) (zd := .lit (.int .i64 0)) (zp := []) (plainElem_int Try.underlying3 (by decide)) HKEY.out
    obtain ⟨x, rfl, hx1, _⟩ := plainElem_int_inv Try.underlying3 hx
    rw [hM.has] at hrun
    rw [hM.val] at hx1
    have hx2 : bnd (env.drop k) s = x := by injection hx1 with h1 _; injection h1 with h1; injection h1
    have p0 : wr.cell? ⟨p, 0, none⟩ = some (.map (some g)) := by simp only [World.cell?, hv.mbox]; rfl
    have b0 : wr.cell? ⟨D, 0, none⟩ = some (.slice A k c) := by simp only [World.cell?, hbx]; rfl
    have b1 : wr.frozen? ⟨D, 0, none⟩ = false := by simp [World.frozen?, hbx]
    have hlt := hv.lt
    have HVI := Lib.hid hv
    have HK := Lib.hid hk
    have HM := Lib.hid hM
    have HN := Lib.hid hn
    have HMM := Lib.hid hm
    have hkl := hv.hk
    have X2 := Lib.hid hx2
    obtain ⟨q, hq⟩ : ∃ q, q = hasB (env.drop k) s := ⟨_, rfl⟩
    have HQ := Lib.hid hq
    rw [← hq] at hrun
    clear hx hx1 hx2 hv hk hM hn hm hbx hq hW
    cases q with
    | true =>
      have hx3 : bnd env s = x := (bnd_drop HQ.out.symm).trans X2.out
      have hx4 := HV.out.trans hx3
      have HX4 := Lib.hid hx4
      clear hx3 hx4
      go_wp2_with fail
      go_ret
      exact ⟨ret_n HX4.out.symm, ⟨_, HVI.out⟩, HK.out⟩
    | false =>
      rcases Nat.eq_zero_or_pos k with h0 | h0
      · have hx3 : bnd env s = x := by
          have := X2.out
          rw [h0] at this
          exact this
        have HX4 := Lib.hid (HV.out.trans hx3)
        subst h0
        clear hx3
        go_wp2_with fail
        go_ret
        exact ⟨ret_n HX4.out.symm, ⟨_, HVI.out⟩, HK.out⟩
      · obtain ⟨j, hj⟩ : ∃ j, k = j + 1 := ⟨k - 1, by omega⟩
        obtain ⟨b, off, hA, hbb, hcc⟩ := HVI.out.rd.rd (by omega)
        obtain ⟨q0, q1⟩ := hcc j (by omega)
        obtain ⟨⟨nm, vl⟩, hbd⟩ : ∃ t, t = bd env j := ⟨_, rfl⟩
        rw [← hbd] at q0 q1
        dsimp only at q0 q1
        subst hA
        have e1 : IntKind.i64.wrap ((k : Int) - 1) = (j : Int) := by rw [IntKind.wrap_i64]; omega
        have e2 : (k : Int) - 1 = (j : Int) := by omega
        have e3 : ¬ ((k : Int) = 0) := by omega
        have e4 : ((k : Int) == 0) = false := by simpa using e3
        have HJ := Lib.hid hj
        have HBD := Lib.hid hbd
        have e5 : j < k := by omega
        have e6 : j ≤ c := by omega
        clear hcc hj hbd
        go_upto_region 5 with fail
        -- the box of the last, the binds that are left
        have hb1 : Below wr.heap.size wr (wr.alloc (.cells #[.string nm, .int .i64 vl] 38)) := (Below.refl _ _).alloc (Nat.le_refl _) _
        have n1 := World.alloc_heap_new wr (.cells #[.string nm, .int .i64 vl] 38)
        have z1 : (wr.alloc (.cells #[.string nm, .int .i64 vl] 38)).heap.size = wr.heap.size + 1 := by simp
        obtain ⟨w1, hw1⟩ : ∃ w1, w1 = wr.alloc (.cells #[.string nm, .int .i64 vl] 38) := ⟨_, rfl⟩
        rw [← hw1] at hb1 n1 z1
        have bb := (hb1.cell (p := ⟨D, 0, none⟩) hlt.1).trans b0
        have bf : w1.frozen? ⟨D, 0, none⟩ = false := by
          have := HVI.out.box
          obtain ⟨c9, _, h9⟩ := this
          simp [World.frozen?, (hb1.block D hlt.1).trans h9]
        have k2 : Keeps (fun k => ¬ (k = D ∨ k = g)) wr (w1.setCell ⟨D, 0, none⟩ (.slice (some ⟨b, off, none⟩) j c)) := (Keeps.of_below hb1 (fun k hk _ => hk)).setCell (fun _ h => h (.inl rfl)) _
        have hD2 : (w1.setCell ⟨D, 0, none⟩ (.slice (some ⟨b, off, none⟩) j c)).heap[D]? = some (.cells #[.slice (some ⟨b, off, none⟩) j c] 25 (0, 0)) := by
          obtain ⟨c9, _, h9⟩ := HVI.out.box
          exact heap_set_inE ((hb1.block D hlt.1).trans h9) _
        have hlow := HVI.out.low
        have hm2 : (w1.setCell ⟨D, 0, none⟩ (.slice (some ⟨b, off, none⟩) j c)).ownsMap Try.prog 9 (plainElem Try.prog 3) g n Dt := (map_keep HMM.out (hb1.block g hlt.2.1)).setCell (fun h => hlow.2.2.2.1 h.symm) _
        have l0 : (w1.setCell ⟨D, 0, none⟩ (.slice (some ⟨b, off, none⟩) j c)).cell? ⟨wr.heap.size, 0, none⟩ = some (.string nm) := by
          simp only [World.cell?]
          rw [Below.heap_setCell _ _ _ _ (by show wr.heap.size ≠ D; omega), n1]
          rfl
        have l1 : (w1.setCell ⟨D, 0, none⟩ (.slice (some ⟨b, off, none⟩) j c)).cell? ⟨wr.heap.size, 1, none⟩ = some (.int .i64 vl) := by
          simp only [World.cell?]
          rw [Below.heap_setCell _ _ _ _ (by show wr.heap.size ≠ D; omega), n1]
          rfl
        have pp : (w1.setCell ⟨D, 0, none⟩ (.slice (some ⟨b, off, none⟩) j c)).cell? ⟨p, 0, none⟩ = some (.map (some g)) := by
          simp only [World.cell?]
          rw [Below.heap_setCell _ _ _ _ (by show p ≠ D; exact fun h => hlow.2.2.2.2.1 h.symm), hb1.block p hlt.2.2, HVI.out.mbox]
          rfl
        obtain ⟨w2, hw2⟩ : ∃ w2, w2 = w1.setCell ⟨D, 0, none⟩ (.slice (some ⟨b, off, none⟩) j c) := ⟨_, rfl⟩
        rw [← hw2] at k2 hD2 hm2 l0 l1 pp
        have hkey2 : keyOf Try.prog 9 (.string nm) = some (.string nm.data.toList) := keyOf_string_mk Try.underlying9 (by
          have := HVI.out.rd.str (bd env j) (by unfold bd; rw [List.getD, List.getElem?_eq_getElem (by omega)]; exact List.getElem_mem _)
          rwa [← HBD.out] at this)
        obtain ⟨x2, ps2, hrun2, hx2⟩ := hm2.look_ok vaS_law Try.underlying72 (vaI_zero w2) (zd := .lit (.int .i64 0)) (zp := []) (plainElem_int Try.underlying3 (by decide)) hkey2
        obtain ⟨x2, rfl, _, _⟩ := plainElem_int_inv Try.underlying3 hx2
        rw [HM.out.has] at hrun2
        obtain ⟨r, hr⟩ : ∃ r, r = hasB (env.drop k) nm := ⟨_, rfl⟩
        rw [← hr] at hrun2
        have HR := Lib.hid hr
        have HW1 := Lib.hid hw1
        have HW2 := Lib.hid hw2
        have HD2 := Lib.hid hD2
        have HM2 := Lib.hid hm2
        have hvl : inI vl := by
          have := HVI.out.rd.int (bd env j) (by unfold bd; rw [List.getD, List.getElem?_eq_getElem (by omega)]; exact List.getElem_mem _)
          rwa [← HBD.out] at this
        have hcons : (nm, vl) :: env.drop k = env.drop j := by
          rw [HJ.out, drop_bd (show j < env.length by omega), ← HBD.out]
        have HCO := Lib.hid hcons
        have hkB : Keeps (fun q => q < base ∨ q = p) wr w2 := k2.mono (fun q _ hq h => by rcases h with rfl | rfl <;> omega)
        have HKB := Lib.hid hkB
        have hpb := (hkB.block p hlt.2.2 (.inr rfl)).trans HVI.out.mbox
        have HPB := Lib.hid hpb
        have hrd2 : RdB w2 base (some ⟨b, off, none⟩) env := HVI.out.rd.below (hkB.below (by omega) (fun q hq => .inl hq))
        have HRD2 := Lib.hid hrd2
        have HB0 := Lib.hid b0
        have HK2 := Lib.hid k2
        have hnx := HN.out
        clear hr hw1 hw2 n1 hD2 hm2 hx2 hcons k2 hkB hpb hrd2 hb1 hlow b0
        rw [← HW1.out]
        cases r with
        | true =>
          go_upto_region 6 with fail
          rw [← HW2.out]
          go_wp2_with fail
          go_roundw
          case rel =>
            refine ⟨⟨j, by omega, HVI.out.low, ⟨c, by omega, HD2.out⟩, HPB.out, ⟨n, Dt, HM2.out, by omega, ?_⟩, HRD2.out⟩, HK.out.trans HK2.out⟩
            rw [← HCO.out]
            exact HM.out.skip HR.out.symm
          case measure =>
            have m1 : leftB D wr = k := by unfold leftB; rw [HB0.out]
            have m2 : leftB D w2 = j := by unfold leftB; simp only [World.cell?, HD2.out]; rfl
            omega
        | false =>
          obtain ⟨w3, hst, hm3, htn⟩ := HM2.out.store vaS_law Try.underlying72 (by unfold maxLen; omega) hkey2 (plainElem_int (H := Unit) Try.underlying3 (wf_of hvl))
          have hg3 := htn.grown
          have k3 : Keeps (fun k => ¬ (k = D ∨ k = g)) w2 w3 := (Keeps.refl _ _).grown hg3 (fun r hr _ h => h (by injection hr with hr; exact .inr hr.symm))
          have k4 : Keeps (fun q => q < base ∨ q = p ∨ q = D) w2 w3 := (Keeps.refl _ _).grown hg3 (fun r hr _ h => by injection hr with hr; have := HVI.out.low; omega)
          have hD3 := (k4.block D (Array.getElem?_eq_some_iff.1 HD2.out).1 (.inr (.inr rfl))).trans HD2.out
          have hp3 := (k4.block p (Array.getElem?_eq_some_iff.1 HPB.out).1 (.inr (.inl rfl))).trans HPB.out
          have hr3 : RdB w3 base (some ⟨b, off, none⟩) env := HRD2.out.below (k4.below (by have := HVI.out.low; have := (Array.getElem?_eq_some_iff.1 HPB.out).1; omega) (fun q hq => .inl hq))
          have R3 := Lib.hid (And.intro hm3 (And.intro k3 (And.intro hD3 (And.intro hp3 hr3))))
          clear hm3 k3 hD3 hp3 hr3 htn hg3 k4
          go_upto_region 6 with fail
          rw [← HW2.out]
          go_wp2_with fail
          go_roundw
          case rel =>
            obtain ⟨hm3, k3, hD3, hp3, hr3⟩ := R3.out
            refine ⟨⟨j, by omega, HVI.out.low, ⟨c, by omega, hD3⟩, hp3, ⟨n + 1, _, hm3, by omega, ?_⟩, hr3⟩, (HK.out.trans HK2.out).trans k3⟩
            rw [← HCO.out]
            exact HM.out.put HR.out.symm
          case measure =>
            obtain ⟨hm3, k3, hD3, hp3, hr3⟩ := R3.out
            have m1 : leftB D wr = k := by unfold leftB; rw [HB0.out]
            have m2 : leftB D w3 = j := by unfold leftB; simp only [World.cell?, hD3]; rfl
            omega
end Go.Proofs.Ytinbcdadffljhaa
