/-
  Contracts of order.Apart and forkwrightref.CApart; the law OrderApart.
-/
import Derived.Test.YtaboafkpmgadmaaDoorOrA
import Derived.Test.YtaboafkpmgadmaaDoorGrBs
namespace Go.Proofs.YtaboafkpmgadmaaDoor
open Go.RowKit Go.Shelf
set_option maxRecDepth 100000

/-- a slice that came in is no longer than its room -/
theorem okWide_cap {P : Program} {w : World} {r : Reach} {base : Nat} {t e : TypeId} {a : Option Addr} {len cap : Nat} (ht : P.underlying t = some (.slice e)) (h : Value.okWide P w r base t (.slice a len cap)) : len ≤ cap := by
  simp only [Value.okWide, ht, Cell.okWide] at h
  cases a with
  | none =>
    unfold Cell.ok at h
    rw [ht] at h
    split at h <;> simp_all
  | some a =>
    simp [Cell.ok, ht] at h
    exact h.1

def apG (N : Int) (es : List (Int × Int)) (zs : List Int) : Bool := decide (errn N es = 0) && apB N.toNat es zs

set_option maxHeartbeats 4000000 in
theorem apart_any (A : Option Addr) (c : Nat) (N : Int) (es : List (Int × Int)) (A2 : Option Addr) (c2 : Nat) (zs : List Int) (w : World) (he : RdE w w.heap.size A es) (hz : RdI w w.heap.size A2 zs) (hT : Tab w) :
    Calls Tryd.prog 35 #[.agg #[.int .i64 N, .slice A es.length c], .slice A2 zs.length c2] w fun e w' => e = .returned (.bool (apG N es zs)) ∧ Below w.heap.size w w' := by
  have hroom := hz.room
  go_enter Tryd.func35, Tryd.ntmps35
  go_wp2_with fail
  have g1 := GB.new w 24 N (.slice A es.length c)
  have hB := below_alloc w (.cells #[.int .i64 N, .slice A es.length c] 24)
  obtain ⟨Bg, hBg⟩ : ∃ Bg, Bg = w.heap.size := ⟨_, rfl⟩
  obtain ⟨w1, hw1⟩ : ∃ w1, w1 = w.alloc (.cells #[.int .i64 N, .slice A es.length c] 24) := ⟨_, rfl⟩
  rw [← hw1] at g1 hB ⊢
  rw [← hBg] at g1 ⊢
  have hs := hB.size
  replace he := hw1 ▸ he.step (below_alloc w _)
  replace hz := hw1 ▸ hz.step (below_alloc w _)
  replace hT := hw1 ▸ hT.step (below_alloc w _)
  clear hw1 hBg
  have n1 := g1.n
  have e1 := g1.e
  go_wp2_with fail
  clear n1 e1
  refine (behind_any A c N es _ he hT).mono ?_
  rintro e w2 ⟨A1, c1, rfl, hu, hb⟩
  replace g1 := g1.step hb
  replace hz := hz.step hb
  replace hB := below_step hB hs hb
  replace hs := hB.size
  clear hb he hT
  by_cases hE : errn N es = 0
  · obtain ⟨m, rfl, hin, hfull⟩ := errn_split hE
    have hm := okN_of hin
    have e3 : behG m es = behs m es := by unfold behG; rw [if_pos hE, Int.toNat_natCast]
    have hap : apG m es zs = apB m es zs := by unfold apG; rw [decide_eq_true hE, Bool.true_and, Int.toNat_natCast]
    rw [e3] at hu
    rw [e3, hE, behs_len]
    obtain ⟨R, hR⟩ : ∃ R, R = apB m es zs := ⟨_, rfl⟩
    have HAP := Lib.hid (hap.trans hR.symm)
    clear e3 hE hap hfull
    have HR := Lib.hid hR
    have HIN := Lib.hid hin
    clear hR hin
    have b5 := (Boxed.new w2 29 (.slice A1 m c1)).cell
    have hb := below_alloc w2 (.cells #[.slice A1 m c1] 29)
    go_wp2_with fail
    obtain ⟨B5, hB5⟩ : ∃ B5, B5 = w2.heap.size := ⟨_, rfl⟩
    obtain ⟨w3, hw3⟩ : ∃ w3, w3 = w2.alloc (.cells #[.slice A1 m c1] 29) := ⟨_, rfl⟩
    rw [← hw3] at b5 hb ⊢
    rw [← hB5] at b5 ⊢
    replace g1 := g1.step hb
    replace hz := hz.step hb
    replace hu := hu.step hb
    replace hB := below_step hB hs hb
    replace hs := hB.size
    clear hb hw3 hB5
    have n1 := g1.n
    have F1 := Lib.hid (contains1_any (noB m) A2 c2 zs Bg w3 hz fun k hk W hW => isNo_any m Bg (zd zs k) W ((hW.cell (p := ⟨Bg, 0, none⟩) g1.lt).trans n1))
    rw [noB_any] at F1
    clear n1
    cases hA : inA m zs with
    | false =>
      rw [hA] at F1
      have e0 : R = false := by rw [HR.out]; unfold apB; rw [hA]; rfl
      have E0 := Lib.hid e0
      clear hA e0
      go_wp2_with (first
        | (go_at_call 70; refine F1.out.mono ?_; rintro e w4 ⟨rfl, hb⟩)
        | fail)
      go_ret
      refine ⟨?_, below_step hB hs hb⟩
      rw [HAP.out, E0.out]
      rfl
    | true =>
      rw [hA] at F1
      have HA := Lib.hid hA
      clear hA
      go_wp2_with (first
        | (go_at_call 70; refine F1.out.mono ?_; rintro e w4 ⟨rfl, hb⟩)
        | fail)
      have b5' := (hb.cell (p := ⟨B5, 0, none⟩) (World.block_lt_of_cell? _ _ b5)).trans b5
      replace hz := hz.step hb
      replace hu := hu.step hb
      replace hB := below_step hB hs hb
      replace hs := hB.size
      clear hb b5 g1 F1
      go_wp2_with (first
        | (go_at_call 71; refine (of_any A2 c2 zs _ hz).mono ?_; rintro e w5 ⟨A5, c5, rfl, hS, hb⟩)
        | fail)
      have b6 := (hb.cell (p := ⟨B5, 0, none⟩) (World.block_lt_of_cell? _ _ b5')).trans b5'
      replace hz := hz.step hb
      replace hu := hu.step hb
      replace hB := below_step hB hs hb
      replace hs := hB.size
      clear hb b5'
      have b8 := (Boxed.new w5 49 (.slice A5 (ofS zs).length c5)).cell
      have hb := below_alloc w5 (.cells #[.slice A5 (ofS zs).length c5] 49)
      obtain ⟨B8, hB8⟩ : ∃ B8, B8 = w5.heap.size := ⟨_, rfl⟩
      obtain ⟨w6, hw6⟩ : ∃ w6, w6 = w5.alloc (.cells #[.slice A5 (ofS zs).length c5] 49) := ⟨_, rfl⟩
      rw [← hw6] at b8 hb ⊢
      rw [← hB8] at b8 ⊢
      have b7 := (hb.cell (p := ⟨B5, 0, none⟩) (World.block_lt_of_cell? _ _ b6)).trans b6
      replace hz := hz.step hb
      replace hu := hu.step hb
      replace hS := hS.step hb
      replace hB := below_step hB hs hb
      replace hs := hB.size
      clear hb hw6 hB8 b6
      have hsz := size_nodup (m := m) (by omega) HA.out
      have F2 := Lib.hid (contains2_any (folB m es zs) A2 c2 zs B5 B8 w6 hz fun k hk W hW => isFol_any m es HIN.out zs HA.out B5 B8 A1 c1 A5 c5 (zd zs k) (inA_iff.1 HA.out _ (zd_mem zs k hk)) W
        ((hW.cell (p := ⟨B5, 0, none⟩) (World.block_lt_of_cell? _ _ b7)).trans b7) (hu.step hW) ((hW.cell (p := ⟨B8, 0, none⟩) (World.block_lt_of_cell? _ _ b8)).trans b8) (hS.step hW))
      have G := Lib.hid (size_any A5 c5 (ofS zs) w6 hS (by have := ofS_len zs; omega))
      have hap : R = (decide zs.Nodup && !zs.any (folB m es zs)) := by rw [HR.out]; unfold apB; rw [HA.out, Bool.true_and]
      obtain ⟨K, hK⟩ : ∃ K, K = ones (ofS zs) (ofS zs).length := ⟨_, rfl⟩
      obtain ⟨Q, hQ⟩ : ∃ Q, Q = zs.any (folB m es zs) := ⟨_, rfl⟩
      obtain ⟨ln, hln⟩ : ∃ ln, ln = (ofS zs).length := ⟨_, rfl⟩
      rw [← hK] at hsz G
      rw [← hQ] at hap F2
      rw [← hln] at b8 G ⊢
      clear hK hQ hln hS hu b7
      by_cases hnd : zs.Nodup
      · have hk := hsz.2 hnd
        rw [decide_eq_true hnd, Bool.true_and] at hap
        subst hk
        clear hnd hsz
        have E0 := Lib.hid hap
        clear hap
        go_wp2_with (first
          | (go_at_call 58; refine G.out.mono ?_; rintro e w7 ⟨rfl, rfl⟩)
          | (go_at_call 70; refine F2.out.mono ?_; rintro e w8 ⟨rfl, hb⟩)
          | fail)
        go_ret
        refine ⟨?_, below_step hB hs hb⟩
        rw [HAP.out, E0.out]
        rfl
      · have hk : (K : Int) ≠ (zs.length : Int) := fun e => hnd (hsz.1 (by omega))
        rw [decide_eq_false hnd, Bool.false_and] at hap
        clear hnd hsz
        have E0 := Lib.hid hap
        clear hap
        go_wp2_with (first
          | (go_at_call 58; refine G.out.mono ?_; rintro e w7 ⟨rfl, rfl⟩)
          | fail)
        go_ret
        refine ⟨?_, hB⟩
        rw [HAP.out, E0.out]
        rfl
  · have e0 : apG N es zs = false := by unfold apG; rw [decide_eq_false hE, Bool.false_and]
    have E0 := Lib.hid e0
    obtain ⟨E, hEE⟩ : ∃ E, E = errn N es := ⟨_, rfl⟩
    rw [← hEE] at hE ⊢
    obtain ⟨ln, hln⟩ : ∃ ln, ln = (behG N es).length := ⟨_, rfl⟩
    rw [← hln]
    clear hln hEE hu e0
    go_wp2_with fail
    go_ret
    refine ⟨?_, hB.trans ((below_alloc _ _).mono hs)⟩
    rw [E0.out]
    rfl

set_option maxHeartbeats 4000000 in
theorem capart_any (A : Option Addr) (c : Nat) (N : Int) (es : List (Int × Int)) (A2 : Option Addr) (c2 : Nat) (zs : List Int) (w : World) (he : RdE w w.heap.size A es) (hz : RdI w w.heap.size A2 zs) (hcap : zs.length ≤ c2) :
    Calls Tryd.prog 36 #[.agg #[.int .i64 N, .slice A es.length c], .slice A2 zs.length c2] w fun e w' => e = .returned (.bool (apG N es zs)) ∧ Below w.heap.size w w' := by
  have hroom := hz.room
  go_enter Tryd.func36, Tryd.ntmps36
  go_wp2_with fail
  have g1 := GB.new w 24 N (.slice A es.length c)
  have hB := below_alloc w (.cells #[.int .i64 N, .slice A es.length c] 24)
  obtain ⟨w1, hw1⟩ : ∃ w1, w1 = w.alloc (.cells #[.int .i64 N, .slice A es.length c] 24) := ⟨_, rfl⟩
  rw [← hw1] at g1 hB ⊢
  have hs := hB.size
  replace he := he.step hB
  replace hz := hz.step hB
  clear hw1
  refine (bwrong_any A c N es _ he).mono ?_
  rintro e w2 ⟨rfl, hb⟩
  replace g1 := g1.step hb
  replace he := he.step hb
  replace hz := hz.step hb
  replace hB := below_step hB hs hb
  replace hs := hB.size
  clear hb
  have n1 := g1.n
  have e1 := g1.e
  by_cases hE : errn N es = 0
  · obtain ⟨m, rfl, hin, hfull⟩ := errn_split hE
    have hm := okN_of hin
    have hap : apG m es zs = apB m es zs := by unfold apG; rw [decide_eq_true hE, Bool.true_and, Int.toNat_natCast]
    rw [hE]
    have hirr := fw_irr hin hfull
    have HI := Lib.hid hirr
    clear hE hfull hirr
    go_wp2_with fail
    refine (reach_rows A c m es _ he hin).mono ?_
    rintro e w3 ⟨g, rfl, hM, hb⟩
    replace g1 := g1.step hb
    replace hz := hz.step hb
    replace hB := below_step hB hs hb
    clear hb n1 e1 he hs
    have n1 := g1.n
    have hm2 : m ≤ 200 := by omega
    obtain ⟨R, hR⟩ : ∃ R, R = apB m es zs := ⟨_, rfl⟩
    have HAP := Lib.hid (hap.trans hR.symm)
    have HR := Lib.hid hR
    obtain ⟨fR, hfR⟩ : ∃ fR, fR = fw (gR es) m := ⟨_, rfl⟩
    rw [← hfR] at hM
    have HF := Lib.hid hfR
    clear hR hin hm hfR hap
    have HB := Lib.hid hB
    clear hB
    go_wp2_with fail
    go_loop [17] (fun i => ∃ a : Nat, a ≤ zs.length ∧ i = .int .i64 a ∧ Hid (∀ x, x < a → (0 ≤ zd zs x ∧ zd zs x < (m : Int)) ∧ ∀ y, y < x → zd zs y ≠ zd zs x ∧ fR (zd zs y).toNat (zd zs x).toNat = false ∧ fR (zd zs x).toNat (zd zs y).toNat = false)) (fun i => zs.length - (intOf i).toNat)
    case atStart => exact ⟨0, Nat.zero_le _, rfl, Lib.hid fun x hx => by omega⟩
    case round =>
      obtain ⟨a, ha, rfl, hgood⟩ := hrel
      by_cases hlt : a < zs.length
      · obtain ⟨b, off, rfl, hbb, hc⟩ := hz.rd (by omega)
        have HC := Lib.hid hc
        have hca := hc a hlt
        dsimp only at hca
        clear hc
        by_cases h1 : zd zs a < 0
        · obtain ⟨z, hzz⟩ : ∃ z, z = zd zs a := ⟨_, rfl⟩
          rw [← hzz] at hca h1
          have HZ := Lib.hid hzz
          clear hzz
          go_wp2_with fail
          go_ret
          exact ⟨ret_b (by rw [HAP.out, HR.out]; exact (apB_far hlt (by rw [← HZ.out]; omega)).symm), HB.out⟩
        by_cases h2 : (m : Int) ≤ zd zs a
        · obtain ⟨z, hzz⟩ : ∃ z, z = zd zs a := ⟨_, rfl⟩
          rw [← hzz] at hca h1 h2
          have HZ := Lib.hid hzz
          clear hzz
          go_wp2_with fail
          go_ret
          exact ⟨ret_b (by rw [HAP.out, HR.out]; exact (apB_far hlt (by rw [← HZ.out]; omega)).symm), HB.out⟩
        obtain ⟨x, hx⟩ : ∃ x : Nat, zd zs a = (x : Int) := ⟨(zd zs a).toNat, by omega⟩
        rw [hx] at hca h1 h2
        have hxm : x < m := by omega
        have hx0 : (0 : Int) ≤ (x : Int) := Int.natCast_nonneg _
        have hx1 : (x : Int) < (m : Int) := by omega
        have HX := Lib.hid hx
        have x1 := hM.c1 hxm
        have hal : a < zs.length := hlt
        have hac : a ≤ c2 := by omega
        clear hx
        go_wp2_with fail
        go_loop [34] (fun i => ∃ d : Nat, d ≤ a ∧ i = .int .i64 d ∧ Hid (∀ y, y < d → zd zs y ≠ zd zs a ∧ fR (zd zs y).toNat (zd zs a).toNat = false ∧ fR (zd zs a).toNat (zd zs y).toNat = false)) (fun i => a - (intOf i).toNat)
        case atStart => exact ⟨0, Nat.zero_le _, rfl, Lib.hid fun x hx => by omega⟩
        case round =>
          obtain ⟨d, hd, rfl, hgd⟩ := hrel
          by_cases hdl : d < a
          · have hcd := HC.out d (by omega)
            obtain ⟨y, hy, hym⟩ : ∃ y : Nat, zd zs d = (y : Int) ∧ y < m := by
              have := (hgood.out d hdl).1
              exact ⟨(zd zs d).toNat, by omega, by omega⟩
            rw [hy] at hcd
            have HY := Lib.hid hy
            have hy0 : (0 : Int) ≤ (y : Int) := Int.natCast_nonneg _
            have hy1 : (y : Int) < (m : Int) := by omega
            clear hy
            have y1 := hM.c1 hym
            have yx := hM.c2 hym hxm
            have xy := hM.c2 hxm hym
            by_cases hxy : (y : Int) = (x : Int)
            · go_wp2_with fail
              go_ret
              exact ⟨ret_b (by rw [HAP.out, HR.out]; exact (apB_same hal hdl (by rw [HX.out, HY.out]; exact hxy)).symm), HB.out⟩
            cases q1 : fR y x with
            | true =>
              rw [q1] at yx
              have Q1 := Lib.hid q1
              clear q1 xy
              go_wp2_with fail
              go_ret
              exact ⟨ret_b (by rw [HAP.out, HR.out]; exact (apB_behind hal (b := d) (by omega) (by rw [HX.out, HY.out, Int.toNat_natCast, Int.toNat_natCast, ← HF.out]; exact Q1.out)).symm), HB.out⟩
            | false =>
              rw [q1] at yx
              have Q1 := Lib.hid q1
              clear q1
              cases q2 : fR x y with
              | true =>
                rw [q2] at xy
                have Q2 := Lib.hid q2
                clear q2
                go_wp2_with fail
                go_ret
                exact ⟨ret_b (by rw [HAP.out, HR.out]; exact (apB_behind (a := d) (b := a) (by omega) hal (by rw [HX.out, HY.out, Int.toNat_natCast, Int.toNat_natCast, ← HF.out]; exact Q2.out)).symm), HB.out⟩
              | false =>
                rw [q2] at xy
                have Q2 := Lib.hid q2
                clear q2
                go_wp2_with fail
                go_round
                case rel =>
                  refine ⟨d + 1, by omega, by go_num, Lib.hid fun t ht => ?_⟩
                  rcases Nat.lt_or_ge t d with h | h
                  · exact hgd.out t h
                  · obtain rfl : t = d := by omega
                    rw [HX.out, HY.out, Int.toNat_natCast, Int.toNat_natCast]
                    exact ⟨hxy, Q1.out, Q2.out⟩
                case measure => simp [intOf]; omega
          · obtain rfl : d = a := by omega
            go_wp2_with fail
            go_round
            case rel =>
              refine ⟨d + 1, by omega, by go_num, Lib.hid fun t ht => ?_⟩
              rcases Nat.lt_or_ge t d with h | h
              · exact hgood.out t h
              · obtain rfl : t = d := by omega
                exact ⟨by rw [HX.out]; omega, hgd.out⟩
            case measure => simp [intOf]; omega
      · obtain rfl : a = zs.length := by omega
        go_wp2_with fail
        go_ret
        refine ⟨ret_b ?_, HB.out⟩
        rw [HAP.out, HR.out]
        exact (apB_good HI.out (by rw [← HF.out]; exact hgood.out)).symm
  · have e0 : apG N es zs = false := by unfold apG; rw [decide_eq_false hE, Bool.false_and]
    have E0 := Lib.hid e0
    obtain ⟨E, hEE⟩ : ∃ E, E = errn N es := ⟨_, rfl⟩
    rw [← hEE] at hE ⊢
    clear hEE e0
    go_wp2_with fail
    go_ret
    refine ⟨?_, hB⟩
    rw [E0.out]
    rfl

/-- the graph's box, and all that lay -/
abbrev HeldA (w1 : World) (B : Nat) (x : Int) (v : Value) (w' : World) : Prop := w'.cell? ⟨B, 0, none⟩ = some (.int .i64 x) ∧ w'.cell? ⟨B, 1, none⟩ = some v ∧ Below w1.heap.size w1 w'
theorem HeldA.drew {w1 W : World} {B : Nat} {x : Int} {v : Value} (h : HeldA w1 B x v W) : HeldA w1 B x v W.drew := ⟨h.1, h.2.1, h.2.2.drew⟩
theorem HeldA.step {w1 W w2 : World} {B : Nat} {x : Int} {v : Value} (h : HeldA w1 B x v W) (hb : Below W.heap.size W w2) : HeldA w1 B x v w2 :=
  ⟨(hb.cell (p := ⟨B, 0, none⟩) (World.block_lt_of_cell? _ _ h.1)).trans h.1, (hb.cell (p := ⟨B, 1, none⟩) (World.block_lt_of_cell? _ _ h.2.1)).trans h.2.1, h.2.2.trans (hb.mono h.2.2.size)⟩

set_option maxHeartbeats 4000000 in
theorem apartLaw_any (A : Option Addr) (c : Nat) (N : Int) (es : List (Int × Int)) (A2 : Option Addr) (c2 : Nat) (zs : List Int) (w : World) (he : RdE w w.heap.size A es) (_hl : es.length ≤ 1048576) (hz : RdI w w.heap.size A2 zs) (_hl2 : zs.length ≤ 1048576) (hcap : zs.length ≤ c2) (hT : Tab w) :
    Calls Tryd.prog 7 #[.agg #[.int .i64 N, .slice A es.length c], .slice A2 zs.length c2] w fun e w' => e = .returned (.bool true) ∧ Below w.heap.size w w' := by
  go_enter Tryd.func7, Tryd.ntmps7
  go_wp2_with fail
  have g1 := GB.new w 24 N (.slice A es.length c)
  have hB := below_alloc w (.cells #[.int .i64 N, .slice A es.length c] 24)
  obtain ⟨w1, hw1⟩ : ∃ w1, w1 = w.alloc (.cells #[.int .i64 N, .slice A es.length c] 24) := ⟨_, rfl⟩
  have he1 := hw1 ▸ he.step (below_alloc w _)
  have hz1 := hw1 ▸ hz.step (below_alloc w _)
  have hT1 := hw1 ▸ hT.step (below_alloc w _)
  rw [← hw1] at g1 hB ⊢
  clear hw1 he hz hT
  obtain ⟨R, hR⟩ : ∃ R, R = apG N es zs := ⟨_, rfl⟩
  have n1 := g1.n
  have e1 := g1.e
  have hb0 := Below.refl w1.heap.size w1
  have f1 : ∀ W : World, HeldA w1 w.heap.size N (.slice A es.length c) W → Calls Tryd.prog 35 #[.agg #[.int .i64 N, .slice A es.length c], .slice A2 zs.length c2] W fun e w' => e = .returned (.bool R) ∧ HeldA w1 w.heap.size N (.slice A es.length c) w' := fun W h => by
    refine (apart_any A c N es A2 c2 zs W (he1.step h.2.2) (hz1.step h.2.2) (hT1.step h.2.2)).mono ?_
    rintro e w' ⟨rfl, hb⟩
    rw [← hR]
    exact ⟨rfl, h.step hb⟩
  have f2 : ∀ W : World, HeldA w1 w.heap.size N (.slice A es.length c) W → Calls Tryd.prog 36 #[.agg #[.int .i64 N, .slice A es.length c], .slice A2 zs.length c2] W fun e w' => e = .returned (.bool R) ∧ HeldA w1 w.heap.size N (.slice A es.length c) w' := fun W h => by
    refine (capart_any A c N es A2 c2 zs W (he1.step h.2.2) (hz1.step h.2.2) hcap).mono ?_
    rintro e w' ⟨rfl, hb⟩
    rw [← hR]
    exact ⟨rfl, h.step hb⟩
  have F1 := Lib.hid f1
  have F2 := Lib.hid f2
  have hs := hB.size
  clear f1 f2 hR he1 hz1 hT1 g1
  go_region_held3 (HeldA w1 w.heap.size N (.slice A es.length c))
    (first
      | (go_split_ands; refine ⟨?_, ?_, ?_⟩ <;> assumption)
      | (go_split_ands; exact HeldA.drew ⟨‹_›, ‹_›, ‹_›⟩))
    (first
      | (go_at_call 35; refine (F1.out _ (by assumption)).mono ?_; rintro e w2 ⟨rfl, hq2⟩)
      | (go_at_call 36; refine (F2.out _ (by assumption)).mono ?_; rintro e w3 ⟨rfl, hq3⟩))
  all_goals
    go_wp2
    go_ret
    first
      | exact ⟨by simp, hB.trans (hq3.2.2.mono hs)⟩
      | exact ⟨by simp, hB.trans (hq2.2.2.mono hs)⟩
end Go.Proofs.YtaboafkpmgadmaaDoor
