/-
  Contracts of slices.Contains at an edge that is none, and of the reference's CChain.
  Contract of order.Chain, whole; the law OrderLevels.
-/
import Derived.Test.YtaboafkpmgadmaaDoorOrK
import Derived.Laws.AppendOwnNone
import Derived.Deep.CutRange
import Derived.Lib.SliceRun
namespace Go.Proofs.YtaboafkpmgadmaaDoor
open Go.RowKit
set_option maxRecDepth 100000

theorem indexE_no (A : Option Addr) (c : Nat) (es : List (Int × Int)) (x y : Int) (w : World) (hx : RdE w w.heap.size A es) (hv : (x, y) ∉ es) :
    Calls Tryd.prog 65 #[.slice A es.length c, .agg #[.int .i64 x, .int .i64 y]] w fun e w' => e = .returned (.int .i64 (-1)) ∧ Below w.heap.size w w' := by
  have hmin : ∀ k, k < es.length → ed es k ≠ (x, y) := fun k hk e => hv (e ▸ ed_mem es k hk)
  have hroom := hx.room
  go_enter Tryd.func65, Tryd.ntmps65
  go_wp2
  have hE := EBox.new w x y 38
  obtain ⟨w1, hw1⟩ : ∃ w1, w1 = w.alloc (.cells #[.int .i64 x, .int .i64 y] 38) := ⟨_, rfl⟩
  have hb1 : Below w.heap.size w w1 := by rw [hw1]; exact below_alloc _ _
  rw [← hw1] at hE ⊢
  have hx1 := hx.step hb1
  obtain ⟨B, hB⟩ : ∃ B, B = w.heap.size := ⟨_, rfl⟩
  rw [← hB] at hE ⊢
  have HB := Lib.hid hB
  have HM := Lib.hid hmin
  have hex := hE.x
  have hey := hE.y
  clear hw1 hB hmin hx hE hv
  go_loopw [8] (fun i wr => ∃ k n : Nat, k ≤ es.length ∧ i = .int .i64 k ∧ wr = w1.drewN n) (fun i _ => es.length - (intOf i).toNat)
  case atStart => exact ⟨0, 0, Nat.zero_le _, rfl, rfl⟩
  case round =>
    obtain ⟨k, n, hk, rfl, rfl⟩ := hrel
    by_cases hlt : k < es.length
    · obtain ⟨b, off, rfl, _, hc⟩ := hx1.rd (by omega)
      obtain ⟨ha1, ha2⟩ := hc k hlt
      clear hc
      have hne := HM.out k hlt
      obtain ⟨p, hp⟩ : ∃ p, p = (ed es k).1 := ⟨_, rfl⟩
      obtain ⟨q, hq⟩ : ∃ q, q = (ed es k).2 := ⟨_, rfl⟩
      rw [← hp] at ha1
      rw [← hq] at ha2
      by_cases e : x = p
      · have e2 : (y == q) = false := by
          rw [beq_eq_false_iff_ne]
          intro e2
          exact hne (Prod.ext (by rw [← hp, e]) (by rw [← hq, e2]))
        subst e
        clear hne hp hq
        go_wp2
        go_quiet (fail)
        go_wp2
        go_roundw
        case rel => exact ⟨k + 1, _, by omega, by go_num, rfl⟩
        case measure => simp [intOf]; omega
      · have e1 : (x == p) = false := by
          rw [beq_eq_false_iff_ne]
          exact e
        clear hne hp hq e
        go_wp2
        go_quiet (fail)
        go_wp2
        go_roundw
        case rel => exact ⟨k + 1, _, by omega, by go_num, rfl⟩
        case measure => simp [intOf]; omega
    · obtain rfl : k = es.length := by omega
      go_wp2
      go_ret
      exact ⟨rfl, below_drewN hb1 _⟩

theorem containsE_no (A : Option Addr) (c : Nat) (es : List (Int × Int)) (x y : Int) (w : World) (hx : RdE w w.heap.size A es) (hv : (x, y) ∉ es) :
    Calls Tryd.prog 28 #[.slice A es.length c, .agg #[.int .i64 x, .int .i64 y]] w fun e w' => e = .returned (.bool false) ∧ Below w.heap.size w w' := by
  go_enter Tryd.func28, Tryd.ntmps28
  go_wp2_with fail
  have hb1 := below_alloc w (.cells #[.int .i64 x, .int .i64 y] 38)
  obtain ⟨w1, hw1⟩ : ∃ w1, w1 = w.alloc (.cells #[.int .i64 x, .int .i64 y] 38) := ⟨_, rfl⟩
  rw [← hw1] at hb1 ⊢
  refine (indexE_no A c es x y _ (hx.step hb1) hv).mono ?_
  rintro e w2 ⟨rfl, hb2⟩
  have hB := hb1.trans (hb2.mono hb1.size)
  clear hw1 hv
  go_wp2
  go_ret
  exact ⟨rfl, hB⟩
theorem containsE_any (A : Option Addr) (c : Nat) (es : List (Int × Int)) (x y : Int) (w : World) (hx : RdE w w.heap.size A es) :
    Calls Tryd.prog 28 #[.slice A es.length c, .agg #[.int .i64 x, .int .i64 y]] w fun e w' => e = .returned (.bool (decide ((x, y) ∈ es))) ∧ Below w.heap.size w w' := by
  by_cases h : (x, y) ∈ es
  · rw [decide_eq_true h]; exact containsE_yes A c es x y w hx h
  · rw [decide_eq_false h]; exact containsE_no A c es x y w hx h

/-- may n be placed after j? -/
def okC (R : Nat → Nat → Bool) (f : Nat → Nat) (m j n : Nat) : Bool := decide (f n + j + 1 = hgt f m) && (j == 0 || R n (chn R f m (j - 1)))
theorem chn_first {R : Nat → Nat → Bool} {f : Nat → Nat} {m j : Nat} (hl : Lev R f) (hR : ∀ i j, R i j = true → i < m ∧ j < m) (hj : j < hgt f m) :
    chn R f m j < m ∧ okC R f m j (chn R f m j) = true ∧ ∀ y, y < chn R f m j → okC R f m j y = false := by
  cases j with
  | zero =>
    have hN : 0 < m := by
      rcases Nat.eq_zero_or_pos m with h0 | h0
      · subst h0; simp [hgt] at hj
      · exact h0
    obtain ⟨a, h1, h2, h3, h4⟩ := fst0_some (f := f) hN
    have hc : chn R f m 0 = a := by show (fst0 f m).getD 0 = a; rw [h1]; rfl
    rw [hc]
    refine ⟨h2, by unfold okC; simp; exact h3, fun y hy => ?_⟩
    have := h4 y hy
    unfold okC
    simp
    exact this
  | succ j =>
    obtain ⟨h1, h2⟩ := chn_at hl hR j (by omega)
    obtain ⟨a, h3, h4, h5, h6, h7⟩ := prv_some hl hR (b := chn R f m j) (by omega)
    have hc : chn R f m (j + 1) = a := by show (prv R f m (chn R f m j)).getD 0 = a; rw [h3]; rfl
    rw [hc]
    refine ⟨h4, ?_, fun y hy => ?_⟩
    · unfold okC
      rw [Nat.add_sub_cancel, h6]
      simp
      omega
    · have := h7 y hy
      unfold fit at this
      unfold okC
      rw [Nat.add_sub_cancel]
      rw [Bool.and_eq_false_iff] at this ⊢
      rcases this with h | h
      · left
        simp at h ⊢
        omega
      · right
        rw [h]
        rfl
theorem tailC_len (R : Nat → Nat → Bool) (f : Nat → Nat) (m j : Nat) : (tailC R f m j).length = j := by unfold tailC; simp
theorem toI_cons (x : Nat) (l : List Nat) : toI (x :: l) = (x : Int) :: toI l := rfl
theorem own_lit1 (w : World) (T : TypeId) (v : Value) (base : Nat) (hb : base ≤ w.heap.size) : (w.alloc (.cells #[v] T)).ownsRow base T 1 (.slice (some ⟨w.heap.size, 0, none⟩) 1 1) 1 [v] :=
  ⟨rfl, .inr ⟨w.heap.size, 1, #[v], rfl, hb, World.alloc_heap_new w _, Nat.le_refl _, by unfold maxLen; omega, rfl, rfl⟩⟩

/-- two cells lie as they lay, and all that lay -/
abbrev HeldJ (w0 : World) (B : Nat) (v : Value) (b o : Nat) (u : Value) (w' : World) : Prop := w'.cell? ⟨B, 1, none⟩ = some v ∧ w'.cell? ⟨b, o, none⟩ = some u ∧ Below w0.heap.size w0 w'
theorem HeldJ.drew {w0 W : World} {B b o : Nat} {v u : Value} (h : HeldJ w0 B v b o u W) : HeldJ w0 B v b o u W.drew := ⟨h.1, h.2.1, h.2.2.drew⟩
theorem HeldJ.step {w0 W w2 : World} {B b o : Nat} {v u : Value} (h : HeldJ w0 B v b o u W) (hb : Below W.heap.size W w2) : HeldJ w0 B v b o u w2 :=
  ⟨(hb.cell (p := ⟨B, 1, none⟩) (World.block_lt_of_cell? _ _ h.1)).trans h.1, (hb.cell (p := ⟨b, o, none⟩) (World.block_lt_of_cell? _ _ h.2.1)).trans h.2.1, h.2.2.trans (hb.mono h.2.2.size)⟩
def lenOfC (v : Value) : Nat := match v with | .slice _ n _ => n | _ => 0

set_option maxHeartbeats 8000000 in
theorem cchain_any (A : Option Addr) (c : Nat) (N : Int) (es : List (Int × Int)) (w : World) (he : RdE w w.heap.size A es) :
    Calls Tryd.prog 34 #[.agg #[.int .i64 N, .slice A es.length c]] w fun e w' => ∃ A1 c1, e = .returned (.tuple #[.slice A1 (chnG N es).length c1, .int .i64 (errn N es)]) ∧ RdI w' w'.heap.size A1 (chnG N es) ∧ Below w.heap.size w w' := by
  obtain ⟨j0, gi, gz0, gz1, gz2⟩ := info_parts Tryd.infoInt
  have hroom := he.room
  go_enter Tryd.func34, Tryd.ntmps34
  go_wp2_with fail
  have g1 := GB.new w 24 N (.slice A es.length c)
  have hB := below_alloc w (.cells #[.int .i64 N, .slice A es.length c] 24)
  obtain ⟨w1, hw1⟩ : ∃ w1, w1 = w.alloc (.cells #[.int .i64 N, .slice A es.length c] 24) := ⟨_, rfl⟩
  rw [← hw1] at g1 hB ⊢
  have hs := hB.size
  replace he := he.step hB
  clear hw1
  refine (clevels_any A c N es _ he).mono ?_
  rintro e w2 ⟨A2, c2, rfl, q2, hb⟩
  replace g1 := g1.step hb
  replace he := he.step hb
  replace hB := below_step hB hs hb
  replace hs := hB.size
  clear hb
  have n1 := g1.n
  have e1 := g1.e
  go_wp2_with fail
  refine (cheight_any A c N es _ he).mono ?_
  rintro e w3 ⟨rfl, hb⟩
  replace g1 := g1.step hb
  replace he := he.step hb
  replace q2 := q2.step hb
  replace hB := below_step hB hs hb
  replace hs := hB.size
  clear hb n1 e1
  by_cases hE : errn N es = 0
  · obtain ⟨m, rfl, hin, hfull⟩ := errn_split hE
    have hm := okN_of hin
    have hl := levG_len hE
    obtain ⟨hlg, hlt⟩ := levG_hgt hE hin hfull
    have hLev := lvs_lev hin hfull
    have hRl := gR_lt hin
    have HC : Hid (chnG m es = toI (chain (gR es) (lvs m es) m)) := Lib.hid (by unfold chnG; rw [if_pos hE, Int.toNat_natCast])
    rw [hE, hl, hgtG_ok hE]
    rw [hlg] at q2
    obtain ⟨f, hf⟩ : ∃ f, f = lvs m es := ⟨_, rfl⟩
    rw [← hf] at hlt hLev q2 HC
    rw [← hf]
    have hhm : hgt f m ≤ m := hgt_le _ hlt
    have HEE := Lib.hid hE
    have HLEV := Lib.hid hLev
    have HLT := Lib.hid hlt
    have HRL := Lib.hid hRl
    clear hE hl hlg hf hLev hlt hin hfull hRl
    obtain ⟨h, hh⟩ : ∃ h, h = hgt f m := ⟨_, rfl⟩
    have HH := Lib.hid hh
    rw [← hh] at hhm ⊢
    clear hh
    go_wp2_with fail
    go_loopw [9, 8] (fun i v wr => ∃ j : Nat, j ≤ h ∧ i = .int .i64 ((h : Int) - 1 - j) ∧ (j = 0 → v = .slice none 0 0) ∧ wr.ownsRow w3.heap.size 3 1 v (toI (tailC (gR es) f m j)).length (iVals (toI (tailC (gR es) f m j))) ∧ Below w3.heap.size w3 wr) (fun i _ _ => (intOf i + 1).toNat)
    case atStart => exact ⟨0, Nat.zero_le _, by simp, fun _ => rfl, World.ownsRow_nil _ _ _ _, Below.refl _ _⟩
    case round =>
      obtain ⟨j, hj, rfl, hv0, hown, hb⟩ := hrel
      have hsz := hb.size
      have htl := tailC_len (gR es) f m j
      have hlen : (toI (tailC (gR es) f m j)).length = j := by rw [toI_len]; exact htl
      have hbd : ∀ x, x ∈ tailC (gR es) f m j → x < m := fun x hx => by
        unfold tailC at hx
        obtain ⟨i, hi, rfl⟩ := List.mem_map.1 hx
        have := List.mem_range.1 hi
        exact (chn_at HLEV.out HRL.out _ (by have := HH.out; omega)).1
      have hzb := zd_toI_bd (tailC (gR es) f m j) m hbd
      obtain ⟨A3, c3, hv, rI⟩ := own_rdI hown (fun k => by have := hzb k; omega) (fun k => by have := hzb k; omega) (by rw [hlen]; omega)
      rw [hlen] at hv
      subst hv
      have HL := Lib.hid hlen
      have G := g1.step hb
      have R := he.step hb
      have Q := q2.step hb
      clear htl hbd hzb
      by_cases hlt : j < h
      · have hjh : j < hgt f m := by have := HH.out; omega
        obtain ⟨hxm, hok, hmin⟩ := chn_first HLEV.out HRL.out hjh
        have hnext := tailC_cons (gR es) f m j
        obtain ⟨x, hx⟩ : ∃ x, x = chn (gR es) f m j := ⟨_, rfl⟩
        rw [← hx] at hxm hok hmin hnext
        have HOK := Lib.hid hok
        have HM := Lib.hid hmin
        have HN := Lib.hid hnext
        clear hok hmin hnext hx hlen hjh
        have e1 : (j : Int) ≤ (h : Int) - 1 := by omega
        obtain ⟨zs, hzs⟩ : ∃ zs, zs = toI (tailC (gR es) f m j) := ⟨_, rfl⟩
        rw [← hzs] at hown rI HL
        have HZ := Lib.hid hzs
        clear hzs
        go_wp2_with fail
        obtain ⟨wo, rfl⟩ : ∃ wo : World, wo = wr := ⟨_, rfl⟩
        go_loopw [8, 30] (fun v i wr2 => ∃ n : Nat, n ≤ x ∧ v = .slice A3 j c3 ∧ i = .int .i64 n ∧ Below wo.heap.size wo wr2) (fun _ i _ => m - (intOf i).toNat)
        case atStart => exact ⟨0, Nat.zero_le _, rfl, rfl, Below.refl _ _⟩
        case round =>
          obtain ⟨n, hn, rfl, rfl, hb2⟩ := hrel
          have hnm : n < m := by omega
          have G2 := G.step hb2
          have R2 := R.step hb2
          have Q2 := Q.step hb2
          have I2 := rI.step hb2
          obtain ⟨b, off, rfl, _, hc⟩ := Q2.rd (by simp; omega)
          have hcn := hc n (by simpa using hnm)
          dsimp only at hcn
          rw [show zd ((List.range m).map fun k => ((f k : Nat) : Int)) n = ((f n : Nat) : Int) by unfold zd; simp [List.getD, hnm]] at hcn
          clear hc
          have hfn := HLT.out n hnm
          have hokn : okC (gR es) f m j n = (decide (f n + j + 1 = h) && (j == 0 || gR es n (chn (gR es) f m (j - 1)))) := by unfold okC; rw [HH.out]
          obtain ⟨p, hp⟩ : ∃ p, p = f n := ⟨_, rfl⟩
          rw [← hp] at hcn hfn hokn
          clear hp
          by_cases hnx : n = x
          · have HNX := Lib.hid hnx
            have hokx := HOK.out
            rw [← hnx, hokn, Bool.and_eq_true, decide_eq_true_eq] at hokx
            obtain ⟨hw, hed⟩ := hokx
            have b1 : ((p : Int) == (h : Int) - 1 - (j : Int)) = true := by simp; omega
            have hnt : tailC (gR es) f m (j + 1) = n :: tailC (gR es) f m j := by rw [HN.out, HNX.out]
            have HNT := Lib.hid hnt
            have hBw := hb.trans (hb2.mono hsz)
            have hsw := hBw.size
            have h4 : (1 + j) * 8 ≤ 140737488355328 := by omega
            have h3 : 1 + j ≤ maxLen := by unfold maxLen; omega
            clear hw hokn hnx hnt
            rcases Nat.eq_zero_or_pos j with h0 | hjp
            · subst h0
              have hvv := hv0 rfl
              injection hvv with hA _ hc0
              subst hA
              subst hc0
              have hz0 : zs = [] := List.length_eq_zero_iff.1 HL.out
              have HZ0 := Lib.hid hz0
              have hlit := own_lit1 wr 3 (.int .i64 (n : Int)) w3.heap.size hsw
              have hb9 : Below w3.heap.size w3 (wr.alloc (.cells #[.int .i64 (n : Int)] 3)) := hBw.alloc hsw _
              have hrow : (wr.alloc (.cells #[.int .i64 (n : Int)] 3)).ownsRow w3.heap.size 3 1 (.slice (some ⟨wr.heap.size, 0, none⟩) 1 1) (toI (tailC (gR es) f m (0 + 1))).length (iVals (toI (tailC (gR es) f m (0 + 1)))) := by
                rw [HNT.out, toI_cons, ← HZ.out, HZ0.out]
                exact hlit
              clear G G2 R R2 Q Q2 g1 he q2 I2 rI hown hb hb2 hz0 hed hv0
              go_wp2_with (at_builtin; with_reducible refine wpList_append_own_none rfl _ _ 25 rfl w3.heap.size 3 j0 1 Tryd.underlying25 gi (.slice (some ⟨wr.heap.size, 0, none⟩) 1 1) 1 [.int .i64 (n : Int)] rfl hlit rfl ?_)
              go_roundw
              case rel => exact ⟨0 + 1, by omega, by go_num, fun h => by omega, hrow, hb9⟩
              case measure => simp [intOf]; omega
            · have hed2 : gR es n (chn (gR es) f m (j - 1)) = true := by
                rcases Bool.or_eq_true _ _ |>.mp hed with h9 | h9
                · simp at h9; omega
                · exact h9
              have hz1 : zd zs 0 = ((chn (gR es) f m (j - 1) : Nat) : Int) := by
                rw [HZ.out, show tailC (gR es) f m j = tailC (gR es) f m (j - 1 + 1) by rw [Nat.sub_add_cancel hjp], tailC_cons, toI_cons]
                rfl
              obtain ⟨y, hy⟩ : ∃ y, y = chn (gR es) f m (j - 1) := ⟨_, rfl⟩
              rw [← hy] at hed2 hz1
              obtain ⟨b3, off3, rfl, hb3, hc3⟩ := I2.rd (by rw [HL.out]; exact hjp)
              have hcz := hc3 0 (by rw [HL.out]; exact hjp)
              dsimp only at hcz
              rw [hz1, Nat.add_zero] at hcz
              have ge := G2.e
              have H1 : Hid (∀ W : World, HeldJ wr w.heap.size (.slice A es.length c) b3 off3 (.int .i64 (y : Int)) W → Calls Tryd.prog 28 #[.slice A es.length c, .agg #[.int .i64 (n : Int), .int .i64 (y : Int)]] W fun e w' => e = .returned (.bool true) ∧ HeldJ wr w.heap.size (.slice A es.length c) b3 off3 (.int .i64 (y : Int)) w') := fun W hW => by
                refine (containsE_any A c es (n : Int) (y : Int) W ((R2.below hW.2.2).more hW.2.2.size)).mono ?_
                rintro e w' ⟨rfl, hbe⟩
                exact ⟨by rw [show decide (((n : Int), (y : Int)) ∈ es) = true from hed2], hW.step hbe⟩
              have HI2 := Lib.hid I2
              have hbr := Below.refl wr.heap.size wr
              have hjz : (0 : Int) < (j : Int) := by omega
              clear G G2 R R2 Q Q2 g1 he q2 I2 rI hown hb hb2 hed hed2 hv0 hc3 hz1 hy
              go_upto_region 12 with fail
              go_region_held3 (HeldJ wr w.heap.size (.slice A es.length c) b3 off3 (.int .i64 (y : Int)))
                (first
                  | (go_split_ands; refine ⟨?_, ?_, ?_⟩ <;> assumption)
                  | (go_split_ands; exact HeldJ.drew ⟨‹_›, ‹_›, ‹_›⟩))
                (first
                  | (go_at_call 28; refine (H1.out _ (by assumption)).mono ?_; rintro e w5 ⟨rfl, hq5⟩))
              all_goals
                have hbw5 : Below wr.heap.size wr w5 := hq5.2.2
                have hs5 := hbw5.size
                have hlit := own_lit1 w5 3 (.int .i64 (n : Int)) w3.heap.size (by omega)
                have I5 := HI2.out.step hbw5
                obtain ⟨b4, off4, hA4, hb4, hc4⟩ := I5.rd (by rw [HL.out]; exact hjp)
                injection hA4 with hA4
                injection hA4 with hA4 hO4
                subst hA4
                subst hO4
                have hsrc : Hid (∀ k u, (iVals zs)[k]? = some u → (w5.alloc (.cells #[.int .i64 (n : Int)] 3)).cell? ((⟨b3, off3, none⟩ : Addr).add k) = some u) := fun k u hu => by
                  have hkl := (List.getElem?_eq_some_iff.1 hu).1
                  have hkl2 : k < zs.length := by simpa [iVals] using hkl
                  rw [iVals_at _ _ hkl2] at hu
                  rw [Addr.add_lit]
                  refine Lib.cell?_alloc_some _ ?_
                  rw [← hu]
                  exact hc4 k hkl2
                have hBw5 := hBw.trans (hbw5.mono hsw)
                have hln : Hid ((iVals zs).length = j * 1) := by unfold Hid; unfold iVals; rw [List.length_map, HL.out, Nat.mul_one]
                have hone : Hid (∀ u ∈ iVals zs, u.oneCell' = true) := fun u hu => by
                  unfold iVals at hu
                  obtain ⟨z, _, rfl⟩ := List.mem_map.1 hu
                  rfl
                have h5 : w3.heap.size ≤ (w5.alloc (.cells #[.int .i64 (n : Int)] 3)).heap.size := by simp; omega
                clear hc4 I5 hq5 hcz
                go_wp2_with (at_builtin; refine wpList_append_own _ rfl _ _ 25 rfl w3.heap.size 3 j0 (.int .i64 0) 1 8 Tryd.underlying25 gi gz0 gz1 gz2 rfl (by decide) _ _ _ rfl hlit ⟨b3, off3, none⟩ j c3 (iVals zs) rfl hln.out hsrc.out hone.out h3 h4 h5 ?_; intro v' w9 hown' hgrow _)
                have hB9 : Below w3.heap.size w3 w9 := (hBw5.alloc (by omega) _).grown hgrow (by simp; omega) (own_base hlit)
                have hown9 : w9.ownsRow w3.heap.size 3 1 v' (toI (tailC (gR es) f m (j + 1))).length (iVals (toI (tailC (gR es) f m (j + 1)))) := by
                  rw [HNT.out, toI_cons, ← HZ.out, List.length_cons, HL.out, Nat.add_comm]
                  exact hown'
                go_roundw
                case rel => exact ⟨j + 1, by omega, by go_num, fun h => by omega, hown9, hB9⟩
                case measure => simp [intOf]; omega
          · have hno := HM.out n (by omega)
            rw [hokn] at hno
            have hBw2 := hb2
            clear hokn
            by_cases hw : p + j + 1 = h
            · rw [decide_eq_true hw, Bool.true_and, Bool.or_eq_false_iff] at hno
              obtain ⟨hj0, hed⟩ := hno
              have hjp : 0 < j := by have := beq_eq_false_iff_ne.1 hj0; omega
              have b1 : ((p : Int) == (h : Int) - 1 - (j : Int)) = true := by simp; omega
              have hz1 : zd zs 0 = ((chn (gR es) f m (j - 1) : Nat) : Int) := by
                rw [HZ.out, show tailC (gR es) f m j = tailC (gR es) f m (j - 1 + 1) by rw [Nat.sub_add_cancel hjp], tailC_cons, toI_cons]
                rfl
              obtain ⟨y, hy⟩ : ∃ y, y = chn (gR es) f m (j - 1) := ⟨_, rfl⟩
              rw [← hy] at hed hz1
              obtain ⟨b3, off3, rfl, hb3, hc3⟩ := I2.rd (by rw [HL.out]; exact hjp)
              have hcz := hc3 0 (by rw [HL.out]; exact hjp)
              dsimp only at hcz
              rw [hz1, Nat.add_zero] at hcz
              have ge := G2.e
              have H1 : Hid (∀ W : World, HeldJ wr w.heap.size (.slice A es.length c) b3 off3 (.int .i64 (y : Int)) W → Calls Tryd.prog 28 #[.slice A es.length c, .agg #[.int .i64 (n : Int), .int .i64 (y : Int)]] W fun e w' => e = .returned (.bool false) ∧ HeldJ wr w.heap.size (.slice A es.length c) b3 off3 (.int .i64 (y : Int)) w') := fun W hW => by
                refine (containsE_any A c es (n : Int) (y : Int) W ((R2.below hW.2.2).more hW.2.2.size)).mono ?_
                rintro e w' ⟨rfl, hbe⟩
                exact ⟨by rw [show decide (((n : Int), (y : Int)) ∈ es) = false from hed], hW.step hbe⟩
              have hbr := Below.refl wr.heap.size wr
              have hjz : (0 : Int) < (j : Int) := by omega
              clear G G2 R R2 Q Q2 g1 he q2 I2 rI hown hb hed hv0 hc3 hz1 hy hj0 hw
              go_upto_region 12 with fail
              go_region_held3 (HeldJ wr w.heap.size (.slice A es.length c) b3 off3 (.int .i64 (y : Int)))
                (first
                  | (go_split_ands; refine ⟨?_, ?_, ?_⟩ <;> assumption)
                  | (go_split_ands; exact HeldJ.drew ⟨‹_›, ‹_›, ‹_›⟩))
                (first
                  | (go_at_call 28; refine (H1.out _ (by assumption)).mono ?_; rintro e w5 ⟨rfl, hq5⟩))
              all_goals
                have hB5 := hb2.trans (hq5.2.2.mono hb2.size)
                go_wp2_with fail
                go_roundw
                case rel => exact ⟨n + 1, by omega, rfl, by go_num, hB5⟩
                case measure => simp [intOf]; omega
            · have b1 : ((p : Int) == (h : Int) - 1 - (j : Int)) = false := by simp; omega
              clear G G2 R R2 Q Q2 g1 he q2 I2 rI hown hb hno hw
              rcases Nat.eq_zero_or_pos j with h0 | hjp
              · subst h0
                go_wp2_with fail
                go_roundw
                case rel => exact ⟨n + 1, by omega, rfl, by go_num, hb2⟩
                case measure => simp [intOf]; omega
              · have hjz : (0 : Int) < (j : Int) := by omega
                go_upto_region 12 with fail
                go_quiet (fail)
                go_wp2_with fail
                go_roundw
                case rel => exact ⟨n + 1, by omega, rfl, by go_num, below_drewN hb2 _⟩
                case measure => simp [intOf]; omega
      · obtain rfl : j = h := by omega
        go_wp2_with fail
        go_ret2
        have HT : toI (chain (gR es) f m) = toI (tailC (gR es) f m j) := by rw [← tailC_all, ← HH.out]
        rw [HC.out, HEE.out, HT, hlen]
        exact ⟨A3, c3, rfl, rI, hB.trans (hb.mono hs)⟩
  · have HC : Hid (chnG N es = []) := Lib.hid (by unfold chnG; rw [if_neg hE])
    have HL0 := levG_no hE
    rw [HL0] at q2 
    rw [HL0, hgtG_no hE]
    obtain ⟨E, hEE⟩ : ∃ E, E = errn N es := ⟨_, rfl⟩
    have HEE := Lib.hid hEE
    rw [← hEE]
    clear hE hEE HL0
    go_wp2_with fail
    go_loopw [9, 8] (fun i v wr => i = .int .i64 (-1) ∧ v = .slice none 0 0 ∧ wr = w3) (fun _ _ _ => 0)
    case atStart => exact ⟨rfl, rfl, rfl⟩
    case round =>
      obtain ⟨rfl, rfl, rfl⟩ := hrel
      go_wp2_with fail
      go_ret2
      rw [HC.out, ← HEE.out]
      exact ⟨none, 0, rfl, ⟨fun k => by simp [zd], fun k => by simp [zd], by simp, fun h => by simp at h⟩, hB⟩
end Go.Proofs.YtaboafkpmgadmaaDoor

namespace Go.Proofs.YtaboafkpmgadmaaDoor
open Go.RowKit Go.Shelf
set_option maxRecDepth 100000

theorem chain_any (A : Option Addr) (c : Nat) (N : Int) (es : List (Int × Int)) (w : World) (he : RdE w w.heap.size A es) (hT : Tab w) :
    Calls Tryd.prog 33 #[.agg #[.int .i64 N, .slice A es.length c]] w fun e w' => ∃ A1 c1, e = .returned (.tuple #[.slice A1 (chnG N es).length c1, .int .i64 (errn N es)]) ∧ RdI w' w'.heap.size A1 (chnG N es) ∧ Below w.heap.size w w' := by
  by_cases hE : errn N es = 0
  · obtain ⟨m, rfl, hin, hfull⟩ := errn_split hE
    have hm := okN_of hin
    have hC : chnG m es = toI (chain (gR es) (lvs m es) m) := by unfold chnG; rw [if_pos hE, Int.toNat_natCast]
    have hlt : ∀ b, b < m → lvs m es b < m := fun _ hb => lvs_lt hin hfull hb
    have hhm : hgt (lvs m es) m ≤ m := hgt_le _ hlt
    have hLev := lvs_lev hin hfull
    refine (callsIn_wide.1 (chain_in 14 (by omega) A c m es w he hin hfull hT)).mono ?_
    rintro e w' ⟨g, rfl, hr, hb⟩
    have hlen : (chnG m es).length = hgt (lvs m es) m := by rw [hC, toI_len]; unfold chain; simp
    rw [hlen, hE]
    refine ⟨some ⟨g, 0, none⟩, hgt (lvs m es) m, rfl, ?_, hb⟩
    have h2 : w'.rowIs g 3 (hgt (lvs m es) m) (fun i => .int .i64 (if i < hgt (lvs m es) m then ((chn (gR es) (lvs m es) m (hgt (lvs m es) m - 1 - i) : Nat) : Int) else 0)) := hr.congr fun i hi => by rw [if_pos hi]
    have h3 := rowIs_rdI h2 (fun k => by
      split
      · have := (chn_at hLev (gR_lt hin) (hgt (lvs m es) m - 1 - k) (by omega)).1
        omega
      · omega) (by omega)
    rw [hC]
    unfold chain toI
    rw [List.map_map]
    rwa [show (List.range (hgt (lvs m es) m)).map (fun i => if i < hgt (lvs m es) m then ((chn (gR es) (lvs m es) m (hgt (lvs m es) m - 1 - i) : Nat) : Int) else 0) = _ from List.map_congr_left fun k hk => if_pos (List.mem_range.1 hk)] at h3
  · have hC : chnG N es = [] := by unfold chnG; rw [if_neg hE]
    refine (chain_no A c N es w he hT hE).mono ?_
    rintro e w' ⟨rfl, hb⟩
    rw [hC]
    exact ⟨none, 0, rfl, ⟨fun k => by simp [zd], fun k => by simp [zd], by simp, fun h => by simp at h⟩, hb⟩

set_option maxHeartbeats 4000000 in
theorem levelsLaw_any (A : Option Addr) (c : Nat) (N : Int) (es : List (Int × Int)) (w : World) (he : RdE w w.heap.size A es) (_hl : es.length ≤ 1048576) (hT : Tab w) :
    Calls Tryd.prog 6 #[.agg #[.int .i64 N, .slice A es.length c]] w fun e w' => e = .returned (.bool true) ∧ Below w.heap.size w w' := by
  have f1 := fun (W : World) (h1 : RdE W W.heap.size A es) (h2 : Tab W) => levels_any A c N es W h1 h2
  have f2 := fun (W : World) (h1 : RdE W W.heap.size A es) => clevels_any A c N es W h1
  have f3 := fun (W : World) (h1 : RdE W W.heap.size A es) (h2 : Tab W) => heightG_any A c N es W h1 h2
  have f4 := fun (W : World) (h1 : RdE W W.heap.size A es) => cheight_any A c N es W h1
  have f5 := fun (W : World) (h1 : RdE W W.heap.size A es) (h2 : Tab W) => chain_any A c N es W h1 h2
  have f6 := fun (W : World) (h1 : RdE W W.heap.size A es) => cchain_any A c N es W h1
  obtain ⟨E, hE⟩ : ∃ E, E = errn N es := ⟨_, rfl⟩
  obtain ⟨H, hH⟩ : ∃ H, H = hgtG N es := ⟨_, rfl⟩
  obtain ⟨X, hX⟩ : ∃ X, X = levG N es := ⟨_, rfl⟩
  obtain ⟨Y, hY⟩ : ∃ Y, Y = chnG N es := ⟨_, rfl⟩
  rw [← hE] at f1 f2 f3 f4 f5 f6
  rw [← hX] at f1 f2
  rw [← hH] at f3 f4
  rw [← hY] at f5 f6
  have F1 := Lib.hid f1
  have F2 := Lib.hid f2
  have F3 := Lib.hid f3
  have F4 := Lib.hid f4
  have F5 := Lib.hid f5
  have F6 := Lib.hid f6
  clear f1 f2 f3 f4 f5 f6 hE hH hX hY
  go_enter Tryd.func6, Tryd.ntmps6
  go_wp2_with fail
  have g1 := GB.new w 24 N (.slice A es.length c)
  have hB := below_alloc w (.cells #[.int .i64 N, .slice A es.length c] 24)
  obtain ⟨w1, hw1⟩ : ∃ w1, w1 = w.alloc (.cells #[.int .i64 N, .slice A es.length c] 24) := ⟨_, rfl⟩
  rw [← hw1] at g1 hB ⊢
  have hs := hB.size
  replace he := he.step hB
  replace hT := hT.step hB
  clear hw1
  have n1 := g1.n
  have e1 := g1.e
  refine (F1.out _ he hT).mono ?_
  rintro e w2 ⟨A2, c2, rfl, x2, hb⟩
  replace g1 := g1.step hb
  replace he := he.step hb
  replace hT := hT.step hb
  replace hB := below_step hB hs hb
  replace hs := hB.size
  clear hb n1 e1
  have n1 := g1.n
  have e1 := g1.e
  go_wp2_with fail
  refine (F2.out _ he).mono ?_
  rintro e w3 ⟨A3, c3, rfl, x3, hb⟩
  replace g1 := g1.step hb
  replace he := he.step hb
  replace hT := hT.step hb
  replace x2 := x2.step hb
  replace hB := below_step hB hs hb
  replace hs := hB.size
  clear hb n1 e1
  have n1 := g1.n
  have e1 := g1.e
  go_wp2_with fail
  refine (F3.out _ he hT).mono ?_
  rintro e w4 ⟨rfl, hb⟩
  replace g1 := g1.step hb
  replace he := he.step hb
  replace hT := hT.step hb
  replace x2 := x2.step hb
  replace x3 := x3.step hb
  replace hB := below_step hB hs hb
  replace hs := hB.size
  clear hb n1 e1
  have n1 := g1.n
  have e1 := g1.e
  go_wp2_with fail
  refine (F4.out _ he).mono ?_
  rintro e w5 ⟨rfl, hb⟩
  replace g1 := g1.step hb
  replace he := he.step hb
  replace hT := hT.step hb
  replace x2 := x2.step hb
  replace x3 := x3.step hb
  replace hB := below_step hB hs hb
  replace hs := hB.size
  clear hb n1 e1
  have n1 := g1.n
  have e1 := g1.e
  go_wp2_with fail
  refine (F5.out _ he hT).mono ?_
  rintro e w6 ⟨A6, c6, rfl, x6, hb⟩
  replace g1 := g1.step hb
  replace he := he.step hb
  replace hT := hT.step hb
  replace x2 := x2.step hb
  replace x3 := x3.step hb
  replace hB := below_step hB hs hb
  replace hs := hB.size
  clear hb n1 e1
  have n1 := g1.n
  have e1 := g1.e
  go_wp2_with fail
  refine (F6.out _ he).mono ?_
  rintro e w7 ⟨A7, c7, rfl, x7, hb⟩
  replace g1 := g1.step hb
  replace he := he.step hb
  replace hT := hT.step hb
  replace x2 := x2.step hb
  replace x3 := x3.step hb
  replace x6 := x6.step hb
  replace hB := below_step hB hs hb
  replace hs := hB.size
  clear hb n1 e1
  clear g1 he hT
  go_wp2_with fail
  refine (equalI_same A2 A3 c2 c3 X _ x2 x3).mono ?_
  rintro e w8 ⟨rfl, hb⟩
  replace x6 := x6.step hb
  replace x7 := x7.step hb
  replace hB := below_step hB hs hb
  replace hs := hB.size
  clear hb x2 x3
  go_wp2_with fail
  refine (equalI_same A6 A7 c6 c7 Y _ x6 x7).mono ?_
  rintro e w9 ⟨rfl, hb⟩
  replace hB := below_step hB hs hb
  clear hb
  go_wp2_with fail
  go_ret
  exact ⟨rfl, hB⟩
end Go.Proofs.YtaboafkpmgadmaaDoor
