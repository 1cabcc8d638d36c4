/-
  Contracts of the reference's ccount and CCount; the law OrderCounts.
-/
import Derived.Test.YtaboafkpmgadmaaDoorOrO
import Derived.Test.YtaboafkpmgadmaaDoorGrRd
import Derived.Maps.OwnSet
import Derived.Deep.CutRange
namespace Go.Proofs.YtaboafkpmgadmaaDoor
open Go.RowKit Go.Maps
set_option maxRecDepth 100000

/-- how many are not in d -/
def miss (m d : Nat) : Nat := sumN m fun n => if d.testBit n = true then 0 else 1
theorem miss_ins {m d k : Nat} (hk : k < m) (hb : d.testBit k = false) : miss m d = miss m (ins d k) + 1 := by
  unfold miss
  refine sumN_single hk (fun n _ hne => ?_) ?_
  · rw [ins_bit]
    have : decide (k = n) = false := by simp; omega
    rw [this, Bool.or_false]
  · rw [ins_bit, hb]; simp
theorem miss_pos {m d : Nat} (hd : d < 2 ^ m) (hne : d ≠ 2 ^ m - 1) : 0 < miss m d := by
  rcases Nat.eq_zero_or_pos (miss m d) with h | h
  · exfalso
    apply hne
    have hall : ∀ n, n < m → d.testBit n = true := fun n hn => by
      rw [← Bool.not_eq_false]
      intro hb
      have := miss_ins hn hb
      omega
    apply Nat.eq_of_testBit_eq
    intro j
    rw [Nat.testBit_two_pow_sub_one]
    by_cases hj : j < m
    · rw [hall j hj]; simpa using hj
    · have : d.testBit j = false := Nat.testBit_lt_two_pow (Nat.lt_of_lt_of_le hd (Nat.pow_le_pow_right (by omega) (by omega)))
      rw [this]; simp; omega
  · exact h
/-- may n come next, by the first j edges? -/
def okJ (es : List (Int × Int)) (d n j : Nat) : Bool := !d.testBit n && (es.take j).all fun e => (e.2 != (n : Int)) || d.testBit e.1.toNat
theorem okJ_succ {es : List (Int × Int)} {d n j : Nat} (hj : j < es.length) {x y : Nat} (he : ed es j = ((x : Int), (y : Int))) : okJ es d n (j + 1) = (okJ es d n j && (((y : Int) != (n : Int)) || d.testBit x)) := by
  unfold okJ
  rw [take_ed es j hj, List.all_append, he, Bool.and_assoc]
  simp
theorem okJ_full {m : Nat} {es : List (Int × Int)} (hin : inR m es = true) {d n : Nat} : okJ es d n es.length = okF (gR es) m d n := by
  unfold okJ
  rw [List.take_length, Bool.eq_iff_iff, okF_iff, Bool.and_eq_true, Bool.not_eq_true', List.all_eq_true]
  refine and_congr_right fun _ => ⟨fun h p hp hr => ?_, fun h e he => ?_⟩
  · have := h _ (of_decide_eq_true hr)
    simpa using this
  · obtain ⟨a, b⟩ := e
    have hab := edge_in hin he
    by_cases hbn : b = (n : Int)
    · subst hbn
      obtain ⟨p, rfl⟩ : ∃ p : Nat, a = (p : Int) := ⟨a.toNat, by omega⟩
      have := h p (by omega) (decide_eq_true he)
      simp [this]
    · simp [hbn]

/-- what is remembered is right -/
def MOk (f : Nat → Nat → Bool) (m : Nat) (D : DataW Unit) : Prop := IsMap D ∧ ∀ d : Nat, d < 2 ^ m → has D (.int .i64 (d : Int)) = true → D.atKey (.int .i64 (d : Int)) (.lit (.int .u64 0)) = .lit (.int .u64 ((gC f m (co m d) % 18446744073709551616 : Nat) : Int))
theorem MOk.put {f : Nat → Nat → Bool} {m : Nat} {D : DataW Unit} (h : MOk f m D) (d : Nat) : MOk f m (D.put (.int .i64 (d : Int)) (.lit (.int .u64 ((gC f m (co m d) % 18446744073709551616 : Nat) : Int)))) := by
  refine ⟨h.1.put _ _, fun d' hd' hh => ?_⟩
  by_cases e : d' = d
  · subst e
    exact atKey_put_same (k := .int .i64 (d' : Int)) h.1 (by trivial) _ _
  · have hne : (Lit.int .i64 (d' : Int)) ≠ Lit.int .i64 (d : Int) := fun e' => e (by have := (Lit.int.inj e').2; omega)
    rw [has_put_other hne] at hh
    rw [atKey_put_other hne]
    exact h.2 d' hd' hh
theorem MOk.nil (f : Nat → Nat → Bool) (m : Nat) : MOk f m (.map []) := ⟨isMap_empty, fun d _ h => by cases h⟩
theorem zeroU (w : World) : (zeroValue 54).run Tryd.prog w = .ok (.int .u64 0) w := by kernel_rfl
theorem look_ok_at {f : Nat → Nat → Bool} {m : Nat} {w : World} {b n : Nat} {D : DataW Unit} (h : w.ownsMap Tryd.prog 3 (plainElem Tryd.prog 54) b n D) (hM : MOk f m D) {d : Nat} (hd : d < 2 ^ m) (hm : m ≤ 14) :
    ∃ c : Int, (Instr.lookup 93 (.map (some b)) (.int .i64 (d : Int)) true).run Tryd.prog w = .ok (.tuple #[.int .u64 c, .bool (has D (.int .i64 (d : Int)))]) w ∧ (has D (.int .i64 (d : Int)) = true → c = ((gC f m (co m d) % 18446744073709551616 : Nat) : Int)) := by
  have h14 : 2 ^ m ≤ 2 ^ 14 := Nat.pow_le_pow_right (by omega) hm
  obtain ⟨v, ps, hrun, hv⟩ := h.look_ok lawI Tryd.underlying93 (zeroU _) (plainElem_int Tryd.underlying54 (by decide)) (mk_int Tryd.prog 3 (d : Int) Tryd.underlying3 (by omega))
  obtain ⟨c, rfl, hc, _⟩ := plainElem_int_inv Tryd.underlying54 hv
  refine ⟨c, hrun, fun hh => ?_⟩
  have h2 := hM.2 d hd hh
  have h3 := congrArg Prod.fst hc
  dsimp only at h3
  rw [h2] at h3
  injection h3 with h3
  injection h3 with _ h3
  exact h3.symm
theorem ownsMap_keeps {H : Type} {P : Program} {k : TypeId} {R : Value → Option (DataW H × List MemPlace)} {w w' : World} {b n : Nat} {D : DataW H} (h : w.ownsMap P k R b n D) (hb : w'.heap[b]? = w.heap[b]?) : w'.ownsMap P k R b n D := by
  obtain ⟨es, clock, h1, r⟩ := h
  exact ⟨es, clock, hb.trans h1, r⟩
theorem RdE.keepsB {w w' : World} {B h : Nat} {A : Option Addr} {es : List (Int × Int)} (he : RdE w B A es) (hk : Keeps (fun b => b ≠ h) w w') (hB : B ≤ h) (hw : h < w.heap.size) : RdE w' B A es := he.keep fun b o hb => World.cell?_of_block (hk.block b (by omega) (by omega))

/-- the two cells of the graph's box -/
abbrev HeldQ (B : Nat) (x : Int) (v : Value) (w' : World) : Prop := w'.cell? ⟨B, 0, none⟩ = some (.int .i64 x) ∧ w'.cell? ⟨B, 1, none⟩ = some v
theorem HeldQ.drew {W : World} {B : Nat} {x : Int} {v : Value} (h : HeldQ B x v W) : HeldQ B x v W.drew := h

set_option maxHeartbeats 8000000 in
theorem ccount_any (A : Option Addr) (c m : Nat) (hm : m ≤ 14) (es : List (Int × Int)) (hin : inR m es = true) (hfull : (ordr m es).length = m) (f : Nat → Nat → Bool) (hf : f = fw (gR es) m) (h : Nat) :
    ∀ s, ∀ d, d < 2 ^ m → Dn (gR es) d → miss m d ≤ s → ∀ (n0 : Nat) (D0 : DataW Unit) (w : World), w.ownsMap Tryd.prog 3 (plainElem Tryd.prog 54) h n0 D0 → MOk f m D0 → n0 + 15 ^ s ≤ 4611686018427387904 → RdE w h A es →
    Calls Tryd.prog 75 #[.agg #[.int .i64 (m : Int), .slice A es.length c], .map (some h), .int .i64 (d : Int)] w fun e w' => e = .returned (.int .u64 ((gC f m (co m d) % 18446744073709551616 : Nat) : Int)) ∧
      (∃ n1 D1, w'.ownsMap Tryd.prog 3 (plainElem Tryd.prog 54) h n1 D1 ∧ MOk f m D1 ∧ n1 ≤ n0 + 15 ^ s) ∧ Keeps (fun b => b ≠ h) w w' := by
  intro s
  induction s using Nat.strongRecOn with
  | ind s ih =>
    intro d hd hdn hms n0 D0 w hown hM hn0 he
    have hroom := he.room
    have hh := hown.lt
    have hR := gR_lt hin
    obtain ⟨q, hq⟩ : ∃ q, q = 2 ^ m := ⟨_, rfl⟩
    have hq1 : 1 ≤ q := by rw [hq]; exact Nat.pow_pos (by omega)
    have hq2 : q ≤ 16384 := by rw [hq]; exact Nat.pow_le_pow_right (n := 2) (by omega) hm
    have hdq : d < q := by omega
    have p1 : IntKind.i64.wrap (2 ^ m) = (q : Int) := by rw [shl_nat m hm, hq]
    have p2 : IntKind.i64.wrap (1 * 2 ^ m) = (q : Int) := by rw [Int.one_mul]; exact p1
    have hmle : (m : Int) ≤ 14 := by omega
    go_enter Tryd.func75, Tryd.ntmps75
    by_cases hfu : d = 2 ^ m - 1
    · have b1 : ((d : Int) == (q : Int) - 1) = true := by simp; omega
      have hval : gC f m (co m d) % 18446744073709551616 = 1 := by rw [hfu, co_full, gC_zero]
      have HV := Lib.hid hval
      have HM := Lib.hid hM
      have HO := Lib.hid hown
      clear hval hM hfu ih hown hq
      go_wp2_with fail
      go_ret
      refine ⟨by rw [HV.out]; rfl, ⟨n0, D0, World.ownsMap.alloc HO.out _, HM.out, Nat.le_add_right _ _⟩, (Keeps.refl _ w).alloc _⟩
    · have b1 : ((d : Int) == (q : Int) - 1) = false := by simp; omega
      have hmp := miss_pos hd hfu
      obtain ⟨s', hs'⟩ : ∃ s', s = s' + 1 := ⟨s - 1, by omega⟩
      have hIH := ih s' (by omega)
      obtain ⟨U, hU⟩ : ∃ U, U = 15 ^ s' := ⟨_, rfl⟩
      have hU1 : 1 ≤ U := by rw [hU]; exact Nat.pow_pos (by omega)
      have hsU : 15 ^ s = 15 * U := by rw [hs', Nat.pow_succ, hU, Nat.mul_comm]
      rw [hsU] at hn0
      rw [← hU] at hIH
      have HSU := Lib.hid hsU
      have hfr := gC_front (f := f) hm hR (fun i j => by rw [hf]; exact fw_iff hR i j) (fun x => by rw [hf]; exact fw_irr hin hfull x) hd hdn hfu
      have hfn : ∀ n, okF (gR es) m d n = true → n < m → ins d n < 2 ^ m ∧ Dn (gR es) (ins d n) ∧ miss m (ins d n) ≤ s' ∧ ins d n = d + 2 ^ n := fun n ho hn => by
        have hb := (okF_iff.1 ho).1
        have h1 := miss_ins hn hb
        exact ⟨ins_lt hd hn, hdn.ins hR ho, by omega, ins_add hd hn hm hb⟩
      obtain ⟨cv, hlook, hcv⟩ := look_ok_at hown hM hd hm
      have g1 := GB.new w 24 m (.slice A es.length c)
      have hk1 : Keeps (fun b => b ≠ h) w (w.alloc (.cells #[.int .i64 (m : Int), .slice A es.length c] 24)) := (Keeps.refl _ w).alloc _
      have hown1 := World.ownsMap.alloc hown (.cells #[.int .i64 (m : Int), .slice A es.length c] 24)
      obtain ⟨cv, hlook, hcv⟩ := look_ok_at hown1 hM hd hm
      have he1 := he.keepsB hk1 (Nat.le_refl _) hh
      obtain ⟨T, hT⟩ : ∃ T : Nat → Nat, T = fun n => if okF (gR es) m d n = true then gC f m (co m (ins d n)) else 0 := ⟨_, rfl⟩
      rw [← hT] at hfr
      have HFR := Lib.hid hfr
      have HTT := Lib.hid hT
      have HIH := Lib.hid hIH
      have HFN := Lib.hid hfn
      have HM := Lib.hid hM
      have HCV := Lib.hid hcv
      have HIN := Lib.hid hin
      clear ih hIH hfr hT hfn hM hcv hin hfull hR hf hown hs' hsU hU hfu hmp hms hq
      cases hhas : has D0 (.int .i64 (d : Int)) with
      | true =>
        rw [hhas] at hlook
        have hv := HCV.out hhas
        have HV := Lib.hid hv
        clear hhas hv he g1
        have HO := Lib.hid hown1
        have HK := Lib.hid hk1
        clear hown1 hk1
        go_wp2_with fail
        go_ret
        refine ⟨by rw [← HV.out]; rfl, ⟨n0, D0, HO.out, HM.out, Nat.le_add_right _ _⟩, HK.out⟩
      | false =>
        rw [hhas] at hlook
        clear hhas he
        obtain ⟨w1, hw1⟩ : ∃ w1, w1 = w.alloc (.cells #[.int .i64 (m : Int), .slice A es.length c] 24) := ⟨_, rfl⟩
        obtain ⟨B3, hB3⟩ : ∃ B3, B3 = w.heap.size := ⟨_, rfl⟩
        have hh1 : h < w1.heap.size := by rw [hw1]; simp; omega
        have hne : B3 ≠ h := by omega
        rw [← hw1] at hlook g1 hk1 hown1 he1
        rw [← hB3] at g1
        have n1 := g1.n
        have e1 := g1.e
        have HG := Lib.hid g1
        have HK1 := Lib.hid hk1
        have HO1 := Lib.hid hown1
        have HE1 := Lib.hid he1
        have HW1 := Lib.hid hw1
        have HB3 := Lib.hid hB3
        have hb3l := g1.lt
        go_upto_region 1 with fail
        rw [← hw1, ← hB3]
        clear hw1 hB3 g1 hk1 hown1 he1
        go_wp2_with fail
        go_loopw [30, 9] (fun i a wr => ∃ k : Nat, k ≤ m ∧ i = .int .i64 k ∧ a = .int .u64 ((sumN k T % 18446744073709551616 : Nat) : Int) ∧ (∃ nn D, wr.ownsMap Tryd.prog 3 (plainElem Tryd.prog 54) h nn D ∧ MOk f m D ∧ nn ≤ n0 + k * U) ∧ Keeps (fun b => b ≠ h) w1 wr) (fun i _ _ => m - (intOf i).toNat)
        case atStart => exact ⟨0, Nat.zero_le _, rfl, rfl, ⟨n0, D0, HO1.out, HM.out, by omega⟩, Keeps.refl _ _⟩
        case round =>
          obtain ⟨k, hk, rfl, rfl, ⟨nn, D, hown, hMD, hnn⟩, hkp⟩ := hrel
          clear hlook
          by_cases hkm : k < m
          · obtain ⟨r, hr0⟩ : ∃ r, r = d / 2 ^ k := ⟨_, rfl⟩
            have hrd : r ≤ d := by rw [hr0]; exact Nat.div_le_self _ _
            have s1 : (d : Int) / 2 ^ k = (r : Int) := by rw [shr_nat, hr0]
            have htb : d.testBit k = decide (r % 2 = 1) := by rw [hr0]; exact Nat.testBit_eq_decide_div_mod_eq
            have t1 : ((r : Int) % 2 == 0) = okJ es d k 0 := by
              unfold okJ
              rw [List.take_zero, List.all_nil, Bool.and_true, htb]
              rcases Nat.mod_two_eq_zero_or_one r with h2 | h2
              · rw [show (r : Int) % 2 = 0 by omega, h2]; rfl
              · rw [show (r : Int) % 2 = 1 by omega, h2]; rfl
            have hk0 : (0 : Int) ≤ (k : Int) := Int.natCast_nonneg _
            have hk64 : (k : Int) ≤ 64 := by omega
            have eb := (World.cell?_of_block (a := ⟨B3, 1, none⟩) (hkp.block B3 hb3l hne)).trans e1
            have nb := (World.cell?_of_block (a := ⟨B3, 0, none⟩) (hkp.block B3 hb3l hne)).trans n1
            have he2 := HE1.out.keepsB hkp (Nat.le_refl _) hh1
            have hsz := hkp.size
            clear hr0
            clear htb
            go_wp2_with fail
            obtain ⟨wo, rfl⟩ : ∃ wo : World, wo = wr := ⟨_, rfl⟩
            go_loopw [41, 11] (fun i v wq => ∃ j : Nat, j ≤ es.length ∧ i = .int .i64 j ∧ v = .bool (okJ es d k j) ∧ Below wo.heap.size wo wq) (fun i _ _ => es.length - (intOf i).toNat)
            case atStart => exact ⟨0, Nat.zero_le _, rfl, by first | rfl | rw [t1], Below.refl _ _⟩
            case round =>
              obtain ⟨j, hj, rfl, rfl, hb2⟩ := hrel
              clear t1
              by_cases hjl : j < es.length
              · obtain ⟨b6, off6, rfl, hb6, hc6⟩ := he2.rd (by omega)
                have hcx := (hb2.cell (p := ⟨b6, off6 + j * 2, none⟩) (by show b6 < _; omega)).trans (hc6 j hjl).1
                have hcy := (hb2.cell (p := ⟨b6, off6 + j * 2 + 1, none⟩) (by show b6 < _; omega)).trans (hc6 j hjl).2
                obtain ⟨x, y, hex, hey, hxm, hym, hxy⟩ : ∃ x y : Nat, (ed es j).1 = (x : Int) ∧ (ed es j).2 = (y : Int) ∧ x < m ∧ y < m ∧ ed es j = ((x : Int), (y : Int)) := by
                  have := edge_in (a := (ed es j).1) (b := (ed es j).2) HIN.out (ed_mem es j hjl)
                  exact ⟨(ed es j).1.toNat, (ed es j).2.toNat, by omega, by omega, by omega, by omega, Prod.ext (by show (ed es j).1 = _; omega) (by show (ed es j).2 = _; omega)⟩
                rw [hex] at hcx
                rw [hey] at hcy
                have HS := Lib.hid (okJ_succ (d := d) (n := k) hjl hxy)
                obtain ⟨rx, hrx⟩ : ∃ rx, rx = d / 2 ^ x := ⟨_, rfl⟩
                have hrxd : rx ≤ d := by rw [hrx]; exact Nat.div_le_self _ _
                have s2 : (d : Int) / 2 ^ x = (rx : Int) := by rw [shr_nat, hrx]
                have tbx : d.testBit x = decide (rx % 2 = 1) := by rw [hrx]; exact Nat.testBit_eq_decide_div_mod_eq
                have t2 : ((rx : Int) % 2 == 1) = d.testBit x := by
                  rw [tbx]
                  rcases Nat.mod_two_eq_zero_or_one rx with h2 | h2
                  · rw [show (rx : Int) % 2 = 0 by omega, h2]; rfl
                  · rw [show (rx : Int) % 2 = 1 by omega, h2]; rfl
                have x0 : (0 : Int) ≤ (x : Int) := Int.natCast_nonneg _
                have x64 : (x : Int) ≤ 64 := by omega
                have hE := EBox.new wr x y 38
                have bx := hE.x
                have bY := hE.y
                have hb4 := below_alloc wr (.cells #[.int .i64 (x : Int), .int .i64 (y : Int)] 38)
                have hB4 := hb2.trans (hb4.mono hb2.size)
                obtain ⟨pj, hpj⟩ : ∃ pj, pj = okJ es d k j := ⟨_, rfl⟩
                rw [← hpj] at HS ⊢
                obtain ⟨tb, htb⟩ : ∃ tb, tb = d.testBit x := ⟨_, rfl⟩
                rw [← htb] at HS t2
                clear hc6 hex hey hxy hrx tbx hE hb4 hb2 hown eb nb he2 hpj htb
                by_cases hyk : (y : Int) = (k : Int)
                · obtain rfl : y = k := by omega
                  have hyb : ((y : Int) != (y : Int)) = false := by simp
                  rw [hyb] at HS
                  cases pj with
                  | false =>
                    go_wp2_with fail
                    go_roundw
                    case rel => exact ⟨j + 1, by omega, by go_num, by rw [HS.out]; rfl, hB4⟩
                    case measure => simp [intOf]; omega
                  | true =>
                    go_wp2_with fail
                    go_roundw
                    case rel => exact ⟨j + 1, by omega, by go_num, by rw [HS.out]; rfl, hB4⟩
                    case measure => simp [intOf]; omega
                · have hyb : ((y : Int) != (k : Int)) = true := by simpa using hyk
                  rw [hyb] at HS
                  cases pj with
                  | false =>
                    go_wp2_with fail
                    go_roundw
                    case rel => exact ⟨j + 1, by omega, by go_num, by rw [HS.out]; rfl, hB4⟩
                    case measure => simp [intOf]; omega
                  | true =>
                    go_wp2_with fail
                    go_roundw
                    case rel => exact ⟨j + 1, by omega, by go_num, by rw [HS.out]; rfl, hB4⟩
                    case measure => simp [intOf]; omega
              · obtain rfl : j = es.length := by omega
                rw [okJ_full HIN.out]
                have hks : Keeps (fun b => b ≠ h) wo wr := Keeps.of_below hb2 fun k hk _ => hk
                have hkp2 : Keeps (fun b => b ≠ h) w1 wr := hkp.trans hks
                have hown2 := ownsMap_step hown hb2
                cases hok : okF (gR es) m d k with
                | false =>
                  have hTk : T k = 0 := by rw [HTT.out]; dsimp only; rw [hok]; rfl
                  have HT0 : Hid (sumN (k + 1) T = sumN k T) := Lib.hid (by show sumN k T + T k = _; rw [hTk]; rfl)
                  clear hok hTk
                  go_wp2_with fail
                  go_roundw
                  case rel => exact ⟨k + 1, by omega, by go_num, by rw [HT0.out], ⟨nn, D, hown2, hMD, by rw [Nat.succ_mul]; omega⟩, hkp2⟩
                  case measure => simp [intOf]; omega
                | true =>
                  obtain ⟨q1, q2', q3, q4⟩ := HFN.out k hok hkm
                  have hTk : T k = gC f m (co m (ins d k)) := by rw [HTT.out]; dsimp only; rw [hok]; rfl
                  obtain ⟨vv, hvv⟩ : ∃ vv, vv = gC f m (co m (ins d k)) % 18446744073709551616 := ⟨_, rfl⟩
                  obtain ⟨va, hva⟩ : ∃ va, va = sumN k T % 18446744073709551616 := ⟨_, rfl⟩
                  have hvvl : vv < 18446744073709551616 := by rw [hvv]; exact Nat.mod_lt _ (by omega)
                  have hval : va < 18446744073709551616 := by rw [hva]; exact Nat.mod_lt _ (by omega)
                  have hsum : (va + vv) % 18446744073709551616 = sumN (k + 1) T % 18446744073709551616 := by
                    show _ = (sumN k T + T k) % 18446744073709551616
                    rw [hva, hvv, hTk, ← Nat.add_mod]
                  have hadd : IntKind.u64.wrap ((va : Int) + (vv : Int)) = ((sumN (k + 1) T % 18446744073709551616 : Nat) : Int) := by rw [← hsum, IntKind.wrap_u64]; omega
                  have hkU : k * U ≤ 13 * U := Nat.mul_le_mul_right U (by omega)
                  have hkU2 : (k + 1) * U = k * U + U := Nat.succ_mul k U
                  have he3 : RdE wr h A es := he2.below (hb2.mono (by omega))
                  have eb3 := (World.cell?_of_block (a := ⟨B3, 1, none⟩) (hkp2.block B3 hb3l hne)).trans e1
                  have nb3 := (World.cell?_of_block (a := ⟨B3, 0, none⟩) (hkp2.block B3 hb3l hne)).trans n1
                  have hb3w : B3 < wr.heap.size := Nat.lt_of_lt_of_le hb3l hkp2.size
                  obtain ⟨p, hp⟩ : ∃ p, p = 2 ^ k := ⟨_, rfl⟩
                  have hpq := (pow_le hkm hm).1
                  have hpq2 := (pow_le hkm hm).2
                  rw [← hp] at hpq q4
                  have p3 : IntKind.i64.wrap (2 ^ k) = (p : Int) := by rw [shl_nat k (by omega), hp]
                  have p4 : IntKind.i64.wrap (1 * 2 ^ k) = (p : Int) := by rw [Int.one_mul]; exact p3
                  have HC : Hid (∀ W : World, W.ownsMap Tryd.prog 3 (plainElem Tryd.prog 54) h nn D → RdE W h A es → B3 < W.heap.size → HeldQ B3 m (.slice A es.length c) W →
                      Calls Tryd.prog 75 #[.agg #[.int .i64 (m : Int), .slice A es.length c], .map (some h), .int .i64 (IntKind.i64.wrap ((d : Int) + (p : Int)))] W fun e w' => e = .returned (.int .u64 (vv : Int)) ∧
                        (∃ n1 D1, w'.ownsMap Tryd.prog 3 (plainElem Tryd.prog 54) h n1 D1 ∧ MOk f m D1 ∧ n1 ≤ nn + U) ∧ Keeps (fun b => b ≠ h) W w' ∧ HeldQ B3 m (.slice A es.length c) w') := fun W h1 h2 h3 h4 => by
                    have hw : IntKind.i64.wrap ((d : Int) + (p : Int)) = ((ins d k : Nat) : Int) := by rw [IntKind.wrap_i64, q4]; omega
                    rw [hw, hvv]
                    refine (HIH.out (ins d k) q1 q2' q3 nn D W h1 hMD (by omega) h2).mono ?_
                    rintro e w' ⟨rfl, h5, h6⟩
                    exact ⟨rfl, h5, h6, (World.cell?_of_block (a := ⟨B3, 0, none⟩) (h6.block B3 h3 hne)).trans h4.1, (World.cell?_of_block (a := ⟨B3, 1, none⟩) (h6.block B3 h3 hne)).trans h4.2⟩
                  have hod : wr.drew.ownsMap Tryd.prog 3 (plainElem Tryd.prog 54) h nn D := hown2
                  have hed : RdE wr.drew h A es := he3.keep fun b o _ => rfl
                  have hbd : B3 < wr.drew.heap.size := hb3w
                  have HKP := Lib.hid hkp2
                  rw [← hva]
                  clear hvv hva hsum hTk hp hok q1 q2' q3 q4 eb nb he2 he3 hown hown2 hkp hks hkp2 hb2
                  go_upto_region 17 with fail
                  go_region_held3 (HeldQ B3 m (.slice A es.length c))
                    (first
                      | (go_split_ands; refine ⟨?_, ?_⟩ <;> assumption)
                      | (go_split_ands; exact HeldQ.drew ⟨‹_›, ‹_›⟩))
                    (first
                      | (go_at_call 75; refine (HC.out _ (by assumption) (by assumption) (by assumption) (by assumption)).mono ?_; rintro e w5 ⟨rfl, ⟨n5, D5, ho5, hM5, hn5⟩, hk5, hq5⟩))
                  all_goals
                    go_wp2_with fail
                    go_roundw
                    case rel => exact ⟨k + 1, by omega, by go_num, rfl, ⟨n5, D5, ho5, hM5, by rw [hkU2]; omega⟩, (HKP.out.drew).trans hk5⟩
                    case measure => simp [intOf]; omega
          · obtain rfl : k = m := by omega
            have HFR2 : Hid (sumN k T % 18446744073709551616 = gC f k (co k d) % 18446744073709551616) := Lib.hid (by rw [HFR.out])
            have hmU : k * U ≤ 14 * U := Nat.mul_le_mul_right U (by omega)
            have hkey := mk_int Tryd.prog 3 (d : Int) Tryd.underlying3 (by omega)
            have hMP := hMD.put d
            obtain ⟨v, hv⟩ : ∃ v, v = sumN k T % 18446744073709551616 := ⟨_, rfl⟩
            have hvl : v < 18446744073709551616 := by rw [hv]; exact Nat.mod_lt _ (by omega)
            have hve : gC f k (co k d) % 18446744073709551616 = v := by rw [hv]; exact HFR2.out.symm
            rw [hve] at hMP
            rw [← hv]
            have HVE := Lib.hid hve
            clear hv hve HFR2 HFR HTT hMD
            go_wp2_with (first
              | (at_mapUpdate; refine wpList_mapUpdate_own _ rfl _ _ _ 93 rfl 3 54 lawI Tryd.underlying93 _ h nn _ rfl hown (by unfold maxLen; omega) _ _ _ rfl rfl hkey _ [] (plainElem_int Tryd.underlying54 (WalkArith.wf_u64 (by omega))) ?_; intro w9 hown9 hgrow9)
              | fail)
            go_ret
            refine ⟨by rw [HVE.out]; rfl, ⟨nn + 1, _, hown9, hMP, by rw [HSU.out]; omega⟩, (HK1.out.trans hkp).grown hgrow9 (fun r hr _ => by cases hr; exact fun h => h rfl)⟩

theorem miss_le (m d : Nat) : miss m d ≤ m := by
  unfold miss
  have : ∀ N, sumN N (fun n => if d.testBit n = true then 0 else 1) ≤ N := by
    intro N
    induction N with
    | zero => exact Nat.le_refl _
    | succ N ih =>
      show sumN N _ + (if d.testBit N = true then 0 else 1) ≤ N + 1
      split <;> omega
  exact this m
theorem co_nil (m : Nat) : co m 0 = 2 ^ m - 1 := by unfold co; exact Nat.xor_zero _

set_option maxHeartbeats 4000000 in
theorem ccountG_any (A : Option Addr) (c : Nat) (N : Int) (es : List (Int × Int)) (w : World) (he : RdE w w.heap.size A es) :
    Calls Tryd.prog 38 #[.agg #[.int .i64 N, .slice A es.length c]] w fun e w' => e = .returned (.tuple #[.int .u64 (cntV N es), .int .i64 (cntE N es)]) ∧ Below w.heap.size w w' := by
  have hmm := @run_makeMap Tryd.prog
  go_enter Tryd.func38, Tryd.ntmps38
  go_wp2_with fail
  have g1 := GB.new w 24 N (.slice A es.length c)
  have hB := below_alloc w (.cells #[.int .i64 N, .slice A es.length c] 24)
  obtain ⟨w1, hw1⟩ : ∃ w1, w1 = w.alloc (.cells #[.int .i64 N, .slice A es.length c] 24) := ⟨_, rfl⟩
  rw [← hw1] at g1 hB ⊢
  have hs := hB.size
  replace he := he.step hB
  clear hw1
  refine (bwrong_any A c N es _ he).mono ?_
  rintro e w2 ⟨rfl, hb⟩
  replace g1 := g1.step hb
  replace he := he.step hb
  replace hB := below_step hB hs hb
  replace hs := hB.size
  clear hb
  have n1 := g1.n
  have e1 := g1.e
  by_cases hE : errn N es = 0
  · by_cases h14 : N ≤ 14
    · obtain ⟨m, rfl, hin, hfull⟩ := errn_split hE
      have hm : m ≤ 14 := by omega
      obtain ⟨hcv, hce⟩ := cnt_ok hE hm
      rw [hE]
      have HCV := Lib.hid hcv
      have HCE := Lib.hid hce
      have hpow : 15 ^ m ≤ 15 ^ 14 := Nat.pow_le_pow_right (by omega) hm
      have hmo := World.ownsMap_made (H := Unit) w2 Tryd.prog 3 (plainElem Tryd.prog 54)
      have hba := below_alloc w2 (.map #[] 0)
      have hcall := ccount_any A c m hm es hin hfull (fw (gR es) m) rfl w2.heap.size m 0 (Nat.pow_pos (by omega)) (Dn.zero _) (miss_le m 0) 0 (.map []) _ hmo (MOk.nil _ _) (by omega) (he.below hba)
      rw [co_nil] at hcall
      have HCALL := Lib.hid hcall
      have hm14 : ¬ (14 : Int) < (m : Int) := by omega
      clear hE hcv hce hin hfull h14 hcall hmo hpow he
      go_wp2_with (first
        | (go_at_call 75; refine HCALL.out.mono ?_; rintro e w5 ⟨rfl, _, hk5⟩)
        | fail)
      go_ret2
      rw [HCV.out, HCE.out]
      exact ⟨rfl, (hB.trans (hba.mono hs)).trans (hk5.below (by have := hba.size; omega) fun k hk => by omega)⟩
    · obtain ⟨hcv, hce⟩ := cnt_big hE h14
      have HCV := Lib.hid hcv
      have HCE := Lib.hid hce
      rw [hE]
      have h15 : (14 : Int) < N := by omega
      clear hE hcv hce
      go_wp2_with fail
      go_ret2
      rw [HCV.out, HCE.out]
      exact ⟨rfl, hB⟩
  · obtain ⟨hcv, hce⟩ := cnt_no hE
    have HCV := Lib.hid hcv
    have HCE := Lib.hid hce
    have h3 : (errn N es != 0) = true := by simpa using hE
    obtain ⟨E, hEE⟩ : ∃ E, E = errn N es := ⟨_, rfl⟩
    have HEE := Lib.hid hEE
    rw [← hEE] at h3 ⊢
    clear hE hcv hce hEE
    go_wp2
    go_ret2
    rw [HCV.out, HCE.out, ← HEE.out]
    exact ⟨rfl, hB⟩

set_option maxHeartbeats 4000000 in
theorem countsLaw_any (A : Option Addr) (c : Nat) (N : Int) (es : List (Int × Int)) (w : World) (he : RdE w w.heap.size A es) (_hl : es.length ≤ 1048576) (hT : Tab w) :
    Calls Tryd.prog 8 #[.agg #[.int .i64 N, .slice A es.length c]] w fun e w' => e = .returned (.bool true) ∧ Below w.heap.size w w' := by
  have f1 := fun (W : World) (h1 : RdE W W.heap.size A es) (h2 : Tab W) => count_any A c N es W h1 h2
  have f2 := fun (W : World) (h1 : RdE W W.heap.size A es) => ccountG_any A c N es W h1
  obtain ⟨E, hE⟩ : ∃ E, E = cntE N es := ⟨_, rfl⟩
  obtain ⟨V, hV⟩ : ∃ V, V = cntV N es := ⟨_, rfl⟩
  rw [← hE, ← hV] at f1 f2
  have F1 := Lib.hid f1
  have F2 := Lib.hid f2
  clear f1 f2 hE hV
  go_enter Tryd.func8, Tryd.ntmps8
  go_wp2_with fail
  have g1 := GB.new w 24 N (.slice A es.length c)
  have hB := below_alloc w (.cells #[.int .i64 N, .slice A es.length c] 24)
  obtain ⟨w1, hw1⟩ : ∃ w1, w1 = w.alloc (.cells #[.int .i64 N, .slice A es.length c] 24) := ⟨_, rfl⟩
  rw [← hw1] at g1 hB ⊢
  have hs := hB.size
  replace he := he.step hB
  replace hT := hT.step hB
  clear hw1
  refine (F1.out _ he hT).mono ?_
  rintro e w2 ⟨rfl, hb⟩
  replace g1 := g1.step hb
  replace he := he.step hb
  replace hB := below_step hB hs hb
  replace hs := hB.size
  clear hb
  have n1 := g1.n
  have e1 := g1.e
  go_wp2_with fail
  refine (F2.out _ he).mono ?_
  rintro e w3 ⟨rfl, hb⟩
  replace hB := below_step hB hs hb
  clear hb n1 e1 g1 he hT
  go_wp2_with fail
  go_ret
  exact ⟨by simp, hB⟩
end Go.Proofs.YtaboafkpmgadmaaDoor
