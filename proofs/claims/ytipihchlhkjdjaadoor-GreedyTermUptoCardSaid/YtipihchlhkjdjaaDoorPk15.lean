/-
  Contract of the document's own greedy rounds.
  A slice of words, and a slice of ints, that comes in as an argument: what its reading as data says of memory. No condition.
  Contracts of slices.Grow at a nil slice of ints and of slices.Concat at lists of ints that are not empty.
  GreedyRounds: greedy.Rounds answers what the document's own rounds are.
-/
import Derived.Test.YtipihchlhkjdjaaDoorPk13
import Derived.Test.YtipihchlhkjdjaaDoorPk14
import Derived.Test.YtipihchlhkjdjaaDoorPk00
import Derived.ProofKit
import Derived.OpenShut
import Derived.Test.YtipihchlhkjdjaaDoorPk02
import Derived.Test.YtipihchlhkjdjaaDoorPk05
import Derived.Lib.AppendZerosOnto
import Derived.Lib.SliceRun
namespace Go.Proofs.YtipihchlhkjdjaaDoor
open Go.RowKit
set_option maxRecDepth 100000

/-- the first w that are ready, of those below n -/
def nowL (es : List (Int × Int)) (m w : Nat) (d : List Nat) (n : Nat) : List Nat := ((List.range n).filter (ready (gR es) m d)).take w
theorem iVals_app2 (a b : List Int) : iVals (a ++ b) = iVals a ++ iVals b := by unfold iVals; simp
theorem nowL_zero (es : List (Int × Int)) (m w : Nat) (d : List Nat) : nowL es m w d 0 = [] := by simp [nowL]
theorem nowL_all (es : List (Int × Int)) (m w : Nat) (d : List Nat) : nowL es m w d m = rnow (gR es) m w d := rfl
theorem nowL_len (es : List (Int × Int)) (m w : Nat) (d : List Nat) (n : Nat) : (nowL es m w d n).length ≤ w := by unfold nowL; rw [List.length_take]; omega
theorem nowL_yes {es : List (Int × Int)} {m w n : Nat} {d : List Nat} (h1 : (nowL es m w d n).length < w) (h2 : ready (gR es) m d n = true) : nowL es m w d (n + 1) = nowL es m w d n ++ [n] := by
  unfold nowL at h1 ⊢
  rw [List.length_take] at h1
  rw [List.range_succ, List.filter_append, List.take_append]
  have e : ([n].filter (ready (gR es) m d)) = [n] := by simp [h2]
  rw [e, List.take_of_length_le (l := [n]) (by simp; omega)]
theorem nowL_no {es : List (Int × Int)} {m w n : Nat} {d : List Nat} (h : (decide ((nowL es m w d n).length < w) && ready (gR es) m d n) = false) : nowL es m w d (n + 1) = nowL es m w d n := by
  unfold nowL at h ⊢
  rw [List.range_succ, List.filter_append, List.take_append]
  cases h2 : ready (gR es) m d n with
  | false =>
    have e : ([n].filter (ready (gR es) m d)) = [] := by simp [h2]
    rw [e]
    simp
  | true =>
    rw [h2, Bool.and_true, decide_eq_false_iff_not, List.length_take] at h
    rw [show w - ((List.range n).filter (ready (gR es) m d)).length = 0 by omega]
    simp
theorem nowL_lt {es : List (Int × Int)} {m w n : Nat} {d : List Nat} {x : Nat} (h : x ∈ nowL es m w d n) : x < n := List.mem_range.1 (List.mem_filter.1 (List.mem_of_mem_take h)).1

theorem own_blw {w w' : World} {base e size n : Nat} {v : Value} {xs : List Value} (h : w.ownsRow base e size v n xs) (hb : Below w.heap.size w w') : w'.ownsRow base e size v n xs :=
  own_keep h (Keeps.of_below (p := fun b => b < w.heap.size) hb fun _ _ h => h) fun k e => (h.lt k e).2
theorem OwnX.blw {w w' : World} {base : Nat} {v dv : Value} {ls : List (List Int)} (h : OwnX w base v ls (fun b => dv.ownBlock = some b)) (hd : ∀ b, dv.ownBlock = some b → b < w.heap.size) (hb : Below w.heap.size w w') : OwnX w' base v ls (fun b => dv.ownBlock = some b) :=
  h.stepO ⟨Keeps.of_below hb fun _ hk _ => hk, fun _ h => .inl h, fun k hk => Nat.lt_of_lt_of_le (hd k hk) hb.size⟩
/-- who is done grows -/
theorem done_app {wr w9 : World} {D : Nat} {dv v' ov : Value} {ls : List (List Int)} {A4 : Option Addr} {zs : List Int} (hO : OwnX wr D ov ls (fun b => dv.ownBlock = some b)) (hz : RdJ wr (fun b => ov.ownBlock ≠ some b ∧ dv.ownBlock ≠ some b) A4 zs) (hgrow : wr.grownBy w9 dv.ownBlock) (hat : v'.ownBlock = dv.ownBlock ∨ v'.ownBlock = some wr.heap.size) (htop : ∀ b, v'.ownBlock = some b → b < w9.heap.size) :
    OwnX w9 D ov ls (fun b => v'.ownBlock = some b) ∧ RdJ w9 (fun b => ov.ownBlock ≠ some b ∧ ¬ v'.ownBlock = some b) A4 zs := by
  have hk : Keeps (fun b => ¬ dv.ownBlock = some b) wr w9 := Keeps.grown (Keeps.refl _ wr) hgrow (fun r hr _ hp => hp hr)
  have hs : StepO (fun b => dv.ownBlock = some b) (fun b => v'.ownBlock = some b) wr w9 := ⟨hk, fun k e => by
    rcases hat with h1 | h1
    · exact .inl (h1 ▸ e)
    · rw [h1] at e; injection e with e; exact .inr (Nat.le_of_eq e), htop⟩
  exact ⟨hO.stepO hs, hz.keep hk fun b hb hp => ⟨hp.2, hp.1, hs.not hb hp.2⟩⟩

set_option maxHeartbeats 8000000 in
theorem frounds_any (A : Option Addr) (c : Nat) (N : Int) (es : List (Int × Int)) (wk : Int) (w : World) (he : RdE w w.heap.size A es) :
    Calls Tryd.prog 10 #[.agg #[.int .i64 N, .slice A es.length c], .int .i64 wk] w fun e w' => ∃ A1 c1, e = .returned (.tuple #[.slice A1 (rndL N es wk).length c1, .int .i64 (rndE N es wk)]) ∧ RdII w' w'.heap.size A1 (rndL N es wk) ∧ Below w.heap.size w w' := by
  have hroom := he.room
  obtain ⟨i0, hi, hz0, hz1, hz2⟩ := info_parts Tryd.infoSI
  obtain ⟨j0, gi, gz0, gz1, gz2⟩ := info_parts Tryd.infoInt
  go_enter Tryd.func10, Tryd.ntmps10
  go_wp2_with fail
  have g1 := GB.new w 24 N (.slice A es.length c)
  have hB := below_alloc w (.cells #[.int .i64 N, .slice A es.length c] 24)
  obtain ⟨w1, hw1⟩ : ∃ w1, w1 = w.alloc (.cells #[.int .i64 N, .slice A es.length c] 24) := ⟨_, rfl⟩
  rw [← hw1] at g1 hB ⊢
  have hs := hB.size
  replace he := he.step hB
  clear hw1
  refine (bwrong_any A c N es _ he).mono ?_
  rintro e w2 ⟨rfl, hb⟩
  replace g1 := gb_step g1 hb
  replace he := he.step hb
  replace hB := below_step hB hs hb
  replace hs := hB.size
  clear hb
  have gl := g1.e
  have gn := g1.n
  by_cases hE : errn N es = 0
  · by_cases hW : 1 ≤ wk ∧ wk ≤ 16
    · obtain ⟨m, rfl, hin, hfull⟩ := errn_split hE
      obtain ⟨wn, rfl⟩ : ∃ wn : Nat, wk = (wn : Int) := ⟨wk.toNat, by omega⟩
      have hm : m ≤ 200 := by have := okN_of hin; omega
      have hw2 : 1 ≤ wn := by omega
      have hw3 : wn ≤ 16 := by omega
      have hR0 : rndE m es wn = 0 := by unfold rndE; rw [if_neg (by omega), if_pos hW]
      have hRL : rndL m es wn = rds (gR es) m wn (grn (gR es) m wn) := by unfold rndL; rw [if_pos hR0, Int.toNat_natCast, Int.toNat_natCast]
      rw [hE]
      have HR0 := Lib.hid hR0
      have HRL := Lib.hid hRL
      have hcyc : ∀ x, ¬ Path (gR es) x x := fun x hp => by
        have hgd := good_topoN (gR es) m m
        have hx : x < m := by
          obtain ⟨b, hb, _⟩ := hp.last
          exact (gR_lt hin _ _ hb).2
        exact hgd.acyclic (gR_lt hin) (hgd.all (Nat.le_of_eq hfull.symm) hx) hp
      have HIN := Lib.hid hin
      have HCY := Lib.hid hcyc
      have HHB := Lib.hid hB
      have HG := Lib.hid g1
      have HE1 := Lib.hid he
      have t1 : ((wn : Int) < 1) = False := by simp; omega
      have t2 : (16 < (wn : Int)) = False := by simp; omega
      clear hin hfull hcyc hE hR0 hRL hW hB
      go_wp2_with fail
      clear gl gn g1 he
      go_loopw [7, 8] (fun dv ov wr => ∃ k : Nat, k ≤ grn (gR es) m wn ∧ wr.ownsRow w2.heap.size 3 1 dv (toI (gdn (gR es) m wn k)).length (iVals (toI (gdn (gR es) m wn k))) ∧ OwnX wr w2.heap.size ov (rds (gR es) m wn k) (fun b => dv.ownBlock = some b) ∧ Below w2.heap.size w2 wr) (fun _ ov _ => grn (gR es) m wn - lnX ov)
      case atStart => exact ⟨0, Nat.zero_le _, World.ownsRow_nil _ _ _ _, OwnX.nil _ _ _, Below.refl _ _⟩
      case round =>
        obtain ⟨k, hk, hown, hO, hb⟩ := hrel
        have hgr := grn_spec hw2 HCY.out (R := gR es) (N := m)
        have hgood := gdn_good (gR es) m wn k
        have hdl := hgood.len
        have hbd := zd_toI_bd (gdn (gR es) m wn k) m hgood.lt
        obtain ⟨A3, c3, hv, rI⟩ := own_rdI hown (fun k => by have := hbd k; omega) (fun k => by have := hbd k; omega) (by rw [toI_len]; omega)
        obtain ⟨d, hd⟩ : ∃ d, d = gdn (gR es) m wn k := ⟨_, rfl⟩
        obtain ⟨dl, hdl2⟩ : ∃ dl, dl = d.length := ⟨_, rfl⟩
        have G := gb_step HG.out hb
        have R := HE1.out.step hb
        have gn := G.n
        rw [← hd] at hown rI hv hdl
        have hzl : (toI d).length = dl := by rw [toI_len, hdl2]
        rw [hzl] at hv hown
        by_cases hkr : k < grn (gR es) m wn
        · have hlt : dl < m := by rw [hdl2, hd]; exact hgr.2.1 k hkr
          have hlt2 : (dl : Int) < (m : Int) := by omega
          subst hv
          have HK := Lib.hid hkr
          have HOW := Lib.hid hown
          have HO := Lib.hid hO
          have HD := Lib.hid hd
          have HDL := Lib.hid hdl2
          have HGR := Lib.hid hgr
          have HGD := Lib.hid hgood
          have HB := Lib.hid hb
          have HZL := Lib.hid hzl
          have hsz := hb.size
          clear hkr hown hO hd hdl2 hgr hgood hbd hdl hlt hzl
          go_wp2_with fail
          clear gn
          obtain ⟨wo, rfl⟩ : ∃ wo : World, wo = wr := ⟨_, rfl⟩
          go_loopw [9, 32] (fun v i wr2 => ∃ n : Nat, n ≤ m ∧ i = .int .i64 n ∧ wr2.ownsRow wo.heap.size 3 1 v (toI (nowL es m wn d n)).length (iVals (toI (nowL es m wn d n))) ∧ Below wo.heap.size wo wr2) (fun _ i _ => m - (intOf i).toNat)
          case atStart => exact ⟨0, Nat.zero_le _, rfl, by rw [nowL_zero]; exact World.ownsRow_nil _ _ _ _, Below.refl _ _⟩
          case round =>
            obtain ⟨n, hn, rfl, hnow, hb2⟩ := hrel
            obtain ⟨A4, c4, rfl⟩ := own_any hnow
            obtain ⟨nl, hnl⟩ : ∃ nl, nl = (nowL es m wn d n).length := ⟨_, rfl⟩
            have hnl2 : (toI (nowL es m wn d n)).length = nl := by rw [toI_len, hnl]
            have hnlw : nl ≤ wn := by rw [hnl]; exact nowL_len _ _ _ _ _
            rw [hnl2] at hnow ⊢
            have HNL := Lib.hid hnl
            have HN2 := Lib.hid hnl2
            clear hnl hnl2
            have G2 := gb_step G hb2
            have R2 := R.step hb2
            have I2 := rI.step hb2
            have ge := G2.e
            by_cases hnm : n < m
            · have hn0 : (n : Int) < (m : Int) := by omega
              by_cases hq : nl < wn
              · have hq2 : (nl : Int) < (wn : Int) := by omega
                go_wp2_with (refine (contains_len A3 c3 dl (toI d) HZL.out n _ I2).mono ?_; rintro e w' ⟨rfl, rfl⟩)
                clear ge
                obtain ⟨wi, rfl⟩ : ∃ wi : World, wi = wr := ⟨_, rfl⟩
                go_loopw [11, 48] (fun v i wr3 => ∃ t : Nat, t ≤ es.length ∧ i = .int .i64 t ∧ v = .bool (rdyB es (toI d) n t) ∧ Below wi.heap.size wi wr3) (fun _ i _ => es.length - (intOf i).toNat)
                case atStart => exact ⟨0, Nat.zero_le _, rfl, by rw [rdyB_zero], Below.refl _ _⟩
                case round =>
                  obtain ⟨t, ht, rfl, rfl, hb3⟩ := hrel
                  by_cases htl : t < es.length
                  · have R3 := R2.step hb3
                    obtain ⟨b, off, rfl, _, hc⟩ := R3.rd (by omega)
                    obtain ⟨ha1, ha2⟩ := hc t htl
                    clear hc
                    obtain ⟨p, hp⟩ : ∃ p, rdyB es (toI d) n t = p := ⟨_, rfl⟩
                    rw [hp]
                    obtain ⟨a, ha⟩ : ∃ a, (ed es t).1 = a := ⟨_, rfl⟩
                    obtain ⟨z, hz⟩ : ∃ z, (ed es t).2 = z := ⟨_, rfl⟩
                    have HS := Lib.hid (rdyB_succ htl (a := a) (b := z) (by rw [← ha, ← hz]) hp)
                    rw [ha] at ha1
                    rw [hz] at ha2
                    have hE := EBox.new wr a z 36
                    have hxx := hE.x
                    have hyy := hE.y
                    have hb4 := below_alloc wr (.cells #[.int .i64 a, .int .i64 z] 36)
                    have I3 := (I2.step hb3).step hb4
                    have hB4 := hb3.trans (hb4.mono hb3.size)
                    clear hp ha hz hb4 hb3 R3 R2 R G G2 hE I2 rI hnow
                    by_cases hdn : z = (n : Int)
                    · subst hdn
                      have hdb : ((n : Int) != (n : Int)) = false := by simp
                      cases p with
                      | false =>
                        go_wp2_with fail
                        go_roundw
                        case rel => exact ⟨t + 1, by omega, by go_num, by rw [HS.out]; rfl, hB4⟩
                        case measure => simp [intOf]; omega
                      | true =>
                        go_wp2_with (refine (contains_len A3 c3 dl (toI d) HZL.out a _ I3).mono ?_; rintro e w' ⟨rfl, rfl⟩)
                        go_roundw
                        case rel => exact ⟨t + 1, by omega, by go_num, by rw [HS.out, hdb]; rfl, hB4⟩
                        case measure => simp [intOf]; omega
                    · have hdb : (z != (n : Int)) = true := by simpa using hdn
                      cases p with
                      | false =>
                        go_wp2_with fail
                        go_roundw
                        case rel => exact ⟨t + 1, by omega, by go_num, by rw [HS.out]; rfl, hB4⟩
                        case measure => simp [intOf]; omega
                      | true =>
                        go_wp2_with fail
                        go_roundw
                        case rel => exact ⟨t + 1, by omega, by go_num, by rw [HS.out, hdb]; rfl, hB4⟩
                        case measure => simp [intOf]; omega
                  · obtain rfl : t = es.length := by omega
                    have hfin : rdyB es (toI d) n es.length = ready (gR es) m d n := rdyB_full HIN.out _ _
                    rw [hfin]
                    clear hfin
                    have hB3 := hb2.trans (hb3.mono hb2.size)
                    cases hrd : ready (gR es) m d n with
                    | true =>
                      have hown3 : wr.ownsRow wo.heap.size 3 1 (.slice A4 nl c4) nl (iVals (toI (nowL es m wn d n))) := own_blw hnow hb3
                      have hsw := hB3.size
                      have h3 : nl + 1 ≤ maxLen := by unfold maxLen; omega
                      have h4 : (nl + 1) * 8 ≤ 140737488355328 := by omega
                      have h5 : wo.heap.size ≤ (wr.alloc (.cells #[.int .i64 (n : Int)] 3)).heap.size := by simp; omega
                      clear G G2 R R2 I2 rI hnow hb2 hb3
                      go_wp2_with (at_builtin; refine wpList_append_own _ rfl _ _ 34 rfl wo.heap.size 3 j0 (.int .i64 0) 1 8 Tryd.underlying34 gi gz0 gz1 gz2 rfl (by decide) _ _ _ rfl (hown3.alloc _) ⟨wr.heap.size, 0, none⟩ 1 1 [.int .i64 (n : Int)] rfl rfl (cell_one_new _ _ _) (by simp [Value.oneCell']) h3 h4 h5 ?_; intro v' w9 hown' hgrow _)
                      have hB9 := below_app hB3 hsw hown3 hgrow
                      have e9 : nowL es m wn d (n + 1) = nowL es m wn d n ++ [n] := nowL_yes (by rw [← HNL.out]; exact hq) hrd
                      have hown2 : w9.ownsRow wo.heap.size 3 1 v' (toI (nowL es m wn d (n + 1))).length (iVals (toI (nowL es m wn d (n + 1)))) := by
                        rw [e9, toI_snoc, ← iVals_snoc, List.length_append, HN2.out]
                        exact hown'
                      go_roundw
                      case rel => exact ⟨n + 1, by omega, by go_num, hown2, hB9⟩
                      case measure => simp [intOf]; omega
                    | false =>
                      have hown3 : wr.ownsRow wo.heap.size 3 1 (.slice A4 nl c4) nl (iVals (toI (nowL es m wn d n))) := own_blw hnow hb3
                      have e9 : nowL es m wn d (n + 1) = nowL es m wn d n := nowL_no (by rw [hrd, Bool.and_false])
                      have E9 := Lib.hid e9
                      clear G G2 R R2 I2 rI hnow e9
                      go_wp2_with fail
                      go_roundw
                      case rel => exact ⟨n + 1, by omega, by go_num, by rw [E9.out, HN2.out]; exact hown3, hB3⟩
                      case measure => simp [intOf]; omega
              · have hq2 : ¬ ((nl : Int) < (wn : Int)) := by omega
                go_wp2_with fail
                clear ge
                obtain ⟨wi, rfl⟩ : ∃ wi : World, wi = wr := ⟨_, rfl⟩
                go_loopw [11, 48] (fun v i wr3 => ∃ t : Nat, t ≤ es.length ∧ i = .int .i64 t ∧ v = .bool (false) ∧ Below wi.heap.size wi wr3) (fun _ i _ => es.length - (intOf i).toNat)
                case atStart => exact ⟨0, Nat.zero_le _, rfl, rfl, Below.refl _ _⟩
                case round =>
                  obtain ⟨t, ht, rfl, rfl, hb3⟩ := hrel
                  by_cases htl : t < es.length
                  · have R3 := R2.step hb3
                    obtain ⟨b, off, rfl, _, hc⟩ := R3.rd (by omega)
                    obtain ⟨ha1, ha2⟩ := hc t htl
                    clear hc
                    obtain ⟨a, ha⟩ : ∃ a, (ed es t).1 = a := ⟨_, rfl⟩
                    obtain ⟨z, hz⟩ : ∃ z, (ed es t).2 = z := ⟨_, rfl⟩
                    rw [ha] at ha1
                    rw [hz] at ha2
                    have hb4 := below_alloc wr (.cells #[.int .i64 a, .int .i64 z] 36)
                    have hB4 := hb3.trans (hb4.mono hb3.size)
                    clear ha hz hb4 hb3 R3 R2 R G G2 I2 rI hnow
                    go_wp2_with fail
                    go_roundw
                    case rel => exact ⟨t + 1, by omega, by go_num, rfl, hB4⟩
                    case measure => simp [intOf]; omega
                  · obtain rfl : t = es.length := by omega
                    have hB3 := hb2.trans (hb3.mono hb2.size)
                    have hown3 : wr.ownsRow wo.heap.size 3 1 (.slice A4 nl c4) nl (iVals (toI (nowL es m wn d n))) := own_blw hnow hb3
                    have e9 : nowL es m wn d (n + 1) = nowL es m wn d n := nowL_no (by rw [← HNL.out, decide_eq_false hq, Bool.false_and])
                    have E9 := Lib.hid e9
                    clear G G2 R R2 I2 rI hnow e9
                    go_wp2_with fail
                    go_roundw
                    case rel => exact ⟨n + 1, by omega, by go_num, by rw [E9.out, HN2.out]; exact hown3, hB3⟩
                    case measure => simp [intOf]; omega
            · obtain rfl : n = m := by omega
              have hrn : nowL es n wn d n = rnow (gR es) n wn d := nowL_all _ _ _ _
              have hrp := rnow_pos hw2 HCY.out (R := gR es) (N := n) (d := d) (by have := HDL.out; omega)
              have hnlp : 0 < nl := by rw [HNL.out, hrn]; exact hrp
              obtain ⟨g, cap, hv4, hg4, hgl4⟩ := own_shape hnow hnlp
              injection hv4 with hA4 _ hcc
              subst hA4
              subst hcc
              have hdnl := HOW.out
              have hdW := own_blw HOW.out hb2
              have hOW := HO.out.blw (fun b hb => (HOW.out.lt b hb).2) hb2
              have hovl : ∀ b, u8.ownBlock = some b → b < wo.heap.size := by
                obtain ⟨_, q1, _⟩ := HO.out
                exact fun b hb => (q1.lt b hb).2
              obtain ⟨zs, hzs⟩ : ∃ zs, zs = toI (nowL es n wn d n) := ⟨_, rfl⟩
              have hzl : zs.length = nl := by rw [hzs]; exact HN2.out
              rw [← hzs] at hnow
              have hbz : ∀ k, 0 ≤ zd zs k ∧ zd zs k ≤ 200 := zd_bnd (fun z hz => by
                rw [hzs] at hz
                unfold toI at hz
                obtain ⟨j, hj, rfl⟩ := List.mem_map.1 hz
                have := nowL_lt hj
                omega) (by omega) (by omega)
              have hJ : RdJ wr (fun b => u8.ownBlock ≠ some b ∧ (Value.slice A3 dl c3).ownBlock ≠ some b) (some ⟨g, 0, none⟩) zs :=
                ⟨fun k => by have := hbz k; omega, fun k => by have := hbz k; omega, by omega, fun _ => ⟨g, 0, rfl, ⟨fun e => by have := hovl g e; omega, fun e => by have := (HOW.out.lt g e).2; omega⟩, hgl4, fun j hj => by
                  rw [Nat.zero_add, hnow.cellAt j (by omega)]
                  exact iVals_at _ j hj⟩⟩
              have hnews : ∀ j u, (iVals zs)[j]? = some u → wr.cell? ((⟨g, 0, none⟩ : Addr).add j) = some u := hnow.cells (g := g) rfl
              have hone : ∀ u ∈ iVals zs, u.oneCell' = true := fun u hu => by
                unfold iVals at hu
                obtain ⟨z, _, rfl⟩ := List.mem_map.1 hu
                rfl
              have hln : (iVals zs).length = nl * 1 := by rw [iVals_len, hzl, Nat.mul_one]
              have hBr : Below w2.heap.size w2 wr := HB.out.trans (hb2.mono hsz)
              have hsr := hBr.size
              have h3 : dl + nl ≤ maxLen := by unfold maxLen; have := hnlw; omega
              have h4 : (dl + nl) * 8 ≤ 140737488355328 := by omega
              have h3' : (rds (gR es) n wn k).length + 1 ≤ maxLen := by rw [rds_len]; have := HGR.out.2.2; unfold maxLen; omega
              have h4' : ((rds (gR es) n wn k).length + 1) * 24 ≤ 140737488355328 := by rw [rds_len]; have := HGR.out.2.2; omega
              have hzr : zs = toI (rnow (gR es) n wn d) := by rw [hzs, hrn]
              have HJ := Lib.hid hJ
              have HBR := Lib.hid hBr
              have HZR := Lib.hid hzr
              have HZl := Lib.hid hzl
              have HOX := Lib.hid hOW
              clear G G2 R R2 I2 rI hnow hb2 ge hrn hrp hgl4 hg4 hdnl hovl hzs hzl hbz hJ hBr hzr hOW
              go_wp2_with (first
                | (at_builtin; refine wpList_append_own_at _ rfl _ _ 34 rfl w2.heap.size 3 j0 (.int .i64 0) 1 8 Tryd.underlying34 gi gz0 gz1 gz2 rfl (by decide) _ _ _ rfl hdW ⟨g, 0, none⟩ nl c4 (iVals zs) rfl hln hnews hone h3 h4 hsr ?_; intro v5 w9 hown5 hgrow5 _ hat5; obtain ⟨hO9, hJ9⟩ := done_app HOX.out HJ.out hgrow5 hat5 (fun b hb => (hown5.lt b hb).2); have hB9 : Below w2.heap.size w2 w9 := HBR.out.grown hgrow5 hsr (fun r hr => (hdW.lt r hr).1); obtain ⟨hd, ho9, hdl9, hll9, hov9⟩ := hO9; have hs9 := hB9.size; have h5' : w2.heap.size ≤ (w9.alloc (.cells #[.slice (some ⟨g, 0, none⟩) nl c4] 34)).heap.size := by rw [World.size_alloc]; omega)
                | (at_builtin; go_loud (refine wpList_append_own_at _ rfl _ _ 25 rfl w2.heap.size 34 i0 (.slice none 0 0) 1 24 Tryd.underlying25 hi hz0 hz1 hz2 rfl (by decide) _ _ _ rfl (ho9.alloc _) ⟨w9.heap.size, 0, none⟩ 1 1 [.slice (some ⟨g, 0, none⟩) nl c4] rfl rfl (cell_one_new _ _ _) (by simp [Value.oneCell']) h3' h4' h5' ?_; intro v6 w7 hown6 hgrow6 _ hat6)))
              have hO7 := OwnX.app hdl9 hll9 hov9 (fun b hb => (hown5.lt b hb).2) hJ9 (.cells #[.slice (some ⟨g, 0, none⟩) nl c4] 34) (c := c4) (by rw [HZl.out]; exact hown6) hgrow6 hat6
              have hd7 : w7.ownsRow w2.heap.size 3 1 v5 (dl + nl) (iVals (toI d) ++ iVals zs) := (hown5.alloc _).kept hgrow6 (by
                cases h9 : v5.ownBlock with
                | none => exact .inl rfl
                | some b => exact .inr fun e => hov9 b e.symm h9)
              have hB7 : Below w2.heap.size w2 w7 := (hB9.alloc hs9 _).grown hgrow6 h5' (fun r hr => (ho9.lt r hr).1)
              have er : rds (gR es) n wn k ++ [zs] = rds (gR es) n wn (k + 1) := by rw [rds_snoc, HZR.out, HD.out]
              have ed : toI (gdn (gR es) n wn (k + 1)) = toI d ++ zs := by
                show toI (gdn (gR es) n wn k ++ rnow (gR es) n wn (gdn (gR es) n wn k)) = _
                rw [← HD.out, HZR.out]
                unfold toI
                rw [List.map_append]
              have hd8 : w7.ownsRow w2.heap.size 3 1 v5 (toI (gdn (gR es) n wn (k + 1))).length (iVals (toI (gdn (gR es) n wn (k + 1)))) := by
                rw [ed, List.length_append, HZL.out, HZl.out, iVals_app2]
                exact hd7
              rw [er] at hO7
              have hl8 := hO7.len
              have hl6 := HO.out.len
              rw [rds_len] at hl8 hl6
              have hkk := HK.out
              go_roundw
              case rel => exact ⟨k + 1, by omega, hd8, hO7, hB7⟩
              case measure => simp [hl8, hl6]; omega
        · obtain rfl : k = grn (gR es) m wn := by omega
          have hdm : dl = m := by rw [hdl2, hd]; exact hgr.1
          subst hdm
          subst hv
          obtain ⟨A9, c9, rfl, hr9, _⟩ := hO.rd (by rw [rds_len]; have := hgr.2.2; omega)
          have HR9 := Lib.hid hr9
          have HBR := Lib.hid hb
          clear hO hr9 hb hgr hd hzl hdl2 hown rI R hgood hbd hdl
          go_wp2_with fail
          go_ret2
          rw [HR0.out, HRL.out]
          exact ⟨A9, c9, rfl, HR9.out, HHB.out.trans (HBR.out.mono HHB.out.size)⟩
    · have hR0 : rndE N es wk = 2 := by unfold rndE; rw [if_neg (by omega), if_neg hW]
      have hRL : rndL N es wk = [] := by unfold rndL; rw [if_neg (by rw [hR0]; decide)]
      have HR0 := Lib.hid hR0
      have HRL := Lib.hid hRL
      rw [hE]
      clear hR0 hRL hE
      by_cases h1 : wk < 1
      · go_wp2_with fail
        go_ret2
        rw [HR0.out, HRL.out]
        exact ⟨none, 0, rfl, ⟨by simp, fun _ => none, fun _ => 0, fun h => by simp at h, fun k hk => by simp at hk⟩, hB⟩
      · have h2 : 16 < wk := by omega
        go_wp2_with fail
        go_ret2
        rw [HR0.out, HRL.out]
        exact ⟨none, 0, rfl, ⟨by simp, fun _ => none, fun _ => 0, fun h => by simp at h, fun k hk => by simp at hk⟩, hB⟩
  · have hR0 : rndE N es wk = errn N es := by unfold rndE; rw [if_pos hE]
    have hRL : rndL N es wk = [] := by unfold rndL; rw [if_neg (by rw [hR0]; exact hE)]
    obtain ⟨E, hEE⟩ : ∃ E, E = errn N es := ⟨_, rfl⟩
    have ne1 : (E != 0) = true := by rw [hEE]; simpa using hE
    have HR0 := Lib.hid hR0
    have HRL := Lib.hid hRL
    have HEE := Lib.hid hEE
    rw [← hEE]
    clear hR0 hRL hE hEE
    go_wp2_with fail
    go_ret2
    rw [HR0.out, HRL.out, ← HEE.out]
    exact ⟨none, 0, rfl, ⟨by simp, fun _ => none, fun _ => 0, fun h => by simp at h, fun k hk => by simp at hk⟩, hB⟩
end Go.Proofs.YtipihchlhkjdjaaDoor

namespace Go.Proofs.YtipihchlhkjdjaaDoor
open Go.ChangeShapes Go.WideShapes Go.ChangeAt Go.RowKit

/-- what an argument's datum looks like -/
def SliceLen {H : Type} (d : DataW H) (n : Nat) : Prop := (d = .nil ∧ n = 0) ∨ ∃ elems spare, d = .slice elems spare ∧ elems.length = n

theorem open_words {H : Type} {enc : TypeId × Value → H} {P : Program} {W : World} {tt te : TypeId} (hts : P.underlying tt = some (.slice te)) (hte : P.underlying te = some (.int .u64)) (hc : P.cellsOf te = 1)
    {a0 : Option Addr} {len cap : Nat} {d : DataW H} {p : List MemPlace} (h : DataW.Trod enc P W 0 (fun _ => true) true tt (.slice a0 len cap) d p) (hlt : ∀ x ∈ p, x.block < W.heap.size) :
    ∃ xs : List Nat, xs.length = len ∧ (∀ k, wd xs k < 18446744073709551616) ∧ Rd W W.heap.size a0 len (fun k => .int .u64 (wd xs k : Int)) ∧ SliceLen d len := by
  obtain ⟨fuel, hf⟩ := h
  rcases open_ints hts hte hc hf with ⟨hcs, hx⟩ | ⟨a, len', cap', zs, hcs, _, hl, hm, hz, hx, hcell, hwz⟩
  · simp [Value.cells] at hcs
    obtain ⟨rfl, rfl, rfl⟩ := hcs
    simp only [Prod.mk.injEq] at hx
    obtain ⟨rfl, rfl⟩ := hx
    exact ⟨[], rfl, fun k => by simp [wd], fun hn => absurd hn (by omega), .inl ⟨rfl, rfl⟩⟩
  · simp [Value.cells] at hcs
    obtain ⟨rfl, rfl, rfl⟩ := hcs
    simp only [Prod.mk.injEq] at hx
    obtain ⟨rfl, rfl⟩ := hx
    simp only [if_true] at hz
    have hb : ∀ k, 0 ≤ zs.getD k 0 ∧ zs.getD k 0 ≤ 18446744073709551615 := fun k => by
      have := range_u64 hwz k
      simpa [List.getD] using this
    have hwd : ∀ k, wd ((zs.take len).map Int.toNat) k = if k < len then (zs.getD k 0).toNat else 0 := fun k => by
      unfold wd
      by_cases hk : k < len
      · simp [List.getD, hk, show k < zs.length by omega]
      · rw [if_neg hk]; simp only [List.getD]; rw [List.getElem?_eq_none (by simp; omega)]; rfl
    refine ⟨(zs.take len).map Int.toNat, by simp; omega, fun k => ?_, fun hn => ?_, .inr ⟨_, _, rfl, by simp [lits]; omega⟩⟩
    · rw [hwd]; split
      · have := hb k; omega
      · omega
    · obtain ⟨b, off, spot⟩ := a
      have hspot : spot = none := by simpa [Addr.add] using World.cell?_spot (hcell 0 (by omega))
      subst hspot
      refine ⟨b, off, rfl, hlt (.cell b off) (MemPlace.mem_row.2 ⟨0, by omega, by simp⟩), fun k hk => ?_⟩
      have h1 := hcell k (by omega)
      rw [add_plain] at h1
      show _ = some (Value.int .u64 (wd ((zs.take len).map Int.toNat) k : Int))
      rw [h1, hwd, if_pos hk]
      have := hb k
      have e : (((zs.getD k 0).toNat : Nat) : Int) = zs.getD k 0 := by omega
      rw [e]

theorem open_nums {H : Type} {enc : TypeId × Value → H} {P : Program} {W : World} {tt te : TypeId} (hts : P.underlying tt = some (.slice te)) (hte : P.underlying te = some (.int .i64)) (hc : P.cellsOf te = 1)
    {a0 : Option Addr} {len cap : Nat} {d : DataW H} {p : List MemPlace} (h : DataW.Trod enc P W 0 (fun _ => true) true tt (.slice a0 len cap) d p) (hlt : ∀ x ∈ p, x.block < W.heap.size) :
    ∃ xs : List Int, xs.length = len ∧ (∀ k, -9223372036854775808 ≤ zd xs k) ∧ (∀ k, zd xs k ≤ 9223372036854775807) ∧ Rd W W.heap.size a0 len (fun k => .int .i64 (zd xs k)) ∧ SliceLen d len := by
  obtain ⟨fuel, hf⟩ := h
  rcases open_ints hts hte hc hf with ⟨hcs, hx⟩ | ⟨a, len', cap', zs, hcs, _, hl, hm, hz, hx, hcell, hwz⟩
  · simp [Value.cells] at hcs
    obtain ⟨rfl, rfl, rfl⟩ := hcs
    simp only [Prod.mk.injEq] at hx
    obtain ⟨rfl, rfl⟩ := hx
    exact ⟨[], rfl, fun k => by simp [zd], fun k => by simp [zd], fun hn => absurd hn (by omega), .inl ⟨rfl, rfl⟩⟩
  · simp [Value.cells] at hcs
    obtain ⟨rfl, rfl, rfl⟩ := hcs
    simp only [Prod.mk.injEq] at hx
    obtain ⟨rfl, rfl⟩ := hx
    simp only [if_true] at hz
    have hwd : ∀ k, zd (zs.take len) k = if k < len then zs.getD k 0 else 0 := fun k => by
      unfold zd
      by_cases hk : k < len
      · simp [List.getD, hk]
      · rw [if_neg hk]; simp only [List.getD]; rw [List.getElem?_eq_none (by simp; omega)]; rfl
    have hb : ∀ k, -9223372036854775808 ≤ zs.getD k 0 ∧ zs.getD k 0 ≤ 9223372036854775807 := fun k => by
      have := range_i64 hwz k
      simpa [List.getD] using this
    refine ⟨zs.take len, by simp; omega, fun k => ?_, fun k => ?_, fun hn => ?_, .inr ⟨_, _, rfl, by simp [lits]; omega⟩⟩
    · rw [hwd]; split
      · exact (hb k).1
      · omega
    · rw [hwd]; split
      · exact (hb k).2
      · omega
    · obtain ⟨b, off, spot⟩ := a
      have hspot : spot = none := by simpa [Addr.add] using World.cell?_spot (hcell 0 (by omega))
      subst hspot
      refine ⟨b, off, rfl, hlt (.cell b off) (MemPlace.mem_row.2 ⟨0, by omega, by simp⟩), fun k hk => ?_⟩
      have h1 := hcell k (by omega)
      rw [add_plain] at h1
      show _ = some (Value.int .i64 (zd (zs.take len) k))
      rw [h1, hwd, if_pos hk]

end Go.Proofs.YtipihchlhkjdjaaDoor

namespace Go.Proofs.YtipihchlhkjdjaaDoor
open Go.RowKit Go.Shelf Go.Lib
set_option maxRecDepth 100000

theorem infoInt' : (Tryd.prog.info? 3).map (fun i => (i.zero, i.size, i.bytes)) = some (some (.int .i64 0), 1, 8) := by kernel_rfl
set_option maxHeartbeats 2000000 in
theorem grow_nil (n : Nat) (hn : n ≤ 1048576) (w : World) :
    Calls Tryd.prog 32 #[.slice none 0 0, .int .i64 (n : Int)] w fun e w' => ∃ v, e = .returned v ∧ w'.ownsRow w.heap.size 3 1 v 0 [] ∧ Below w.heap.size w w' := by
  obtain ⟨i0, hi, hz0, hz1, hz2⟩ := info_parts infoInt'
  have h1 : ¬ ((n : Int) < 0) := by omega
  rcases Nat.eq_zero_or_pos n with h0 | h0
  · subst h0
    go_enter Tryd.func32, Tryd.ntmps32
    go_wp2_with fail
    go_ret
    exact ⟨_, rfl, World.ownsRow_nil _ _ _ _, Below.refl _ _⟩
  · have hold : (Builtin.firstCells i0.size 0 (.slice none 0 0)).run Tryd.prog w.drew = .ok ([] : List Value).toArray w.drew := run_firstCells_none w.drew i0.size 0 0 0
    have hrz : ∀ ty, (Builtin.append_ #[34, 3] ty #[.slice none 0 0, .int .i64 (n : Int)]).run Tryd.prog w =
        .ok (.slice (some ⟨w.heap.size, 0, none⟩) n (grownCap w n 0 3)) (w.drew.alloc (.cells (#[] ++ Builtin.zeroCells (Value.int .i64 0).cells n ++ Builtin.zeroCells (Value.int .i64 0).cells (grownCap w n 0 3 - n)) 3)) := fun ty => by
      have h := Lib.run_append_grow_zeros w 34 3 ty 3 i0 (.int .i64 0) .i64 .i64 Tryd.underlying34 Tryd.underlying3 hi hz0 none 0 0 [] hold n h0 (by omega) (by omega) (by omega) (by rw [hz2]; omega) (growslice_fits (by omega) (by rw [hz2]; omega))
      simpa using h
    have hGn : n ≤ grownCap w n 0 3 := grownCap_ge w _ _ _
    have hG63 := grownCap_le_maxLen w n 0 3 (by unfold maxLen; omega)
    have hsz : (#[] ++ Builtin.zeroCells (Value.int .i64 0).cells n ++ Builtin.zeroCells (Value.int .i64 0).cells (grownCap w n 0 3 - n)).size = grownCap w n 0 3 * 1 := by
      simp [Builtin.zeroCells, Value.cells]
      omega
    obtain ⟨G, hG⟩ : ∃ G, G = grownCap w n 0 3 := ⟨_, rfl⟩
    obtain ⟨cs, hcs⟩ : ∃ cs, cs = #[] ++ Builtin.zeroCells (Value.int .i64 0).cells n ++ Builtin.zeroCells (Value.int .i64 0).cells (grownCap w n 0 3 - n) := ⟨_, rfl⟩
    rw [← hcs] at hrz hsz
    rw [← hG] at hrz hsz hGn hG63
    have H1 := Lib.hid hsz
    have H2 := Lib.hid hG63
    have hG1 : (n : Int) ≤ (G : Int) := by omega
    have hn0 : (0 : Int) < (n : Int) := by omega
    have hg0 : 0 ≤ G := Nat.zero_le _
    clear hold hG hcs hsz hG63 hi hz0 hz1 hz2
    go_enter Tryd.func32, Tryd.ntmps32
    go_wp2_with (at_builtin; refine Lib.wpList_append_run _ rfl _ _ _ _ rfl _ _ rfl rfl _ _ (hrz _) ?_)
    go_ret
    refine ⟨_, rfl, World.ownsRow_made w.drew cs G (Nat.le_refl _) H2.out H1.out, (Below.refl _ w).drew.alloc (Nat.le_refl _) _⟩

theorem RdII.at_ {w : World} {B : Nat} {A : Option Addr} {zss : List (List Int)} (h : RdII w B A zss) {k : Nat} (hk : k < zss.length) : ∃ b off A' c, A = some ⟨b, off, none⟩ ∧ b < B ∧ w.cell? ⟨b, off + k, none⟩ = some (.slice A' (zss.getD k []).length c) ∧ RdI w B A' (zss.getD k []) := by
  obtain ⟨h1, a, c, h2, h3⟩ := h
  obtain ⟨b, off, hA, hb, hc⟩ := h2 (by omega)
  exact ⟨b, off, a k, c k, hA, hb, hc k hk, h3 k hk⟩
theorem RdII.keep {w w' : World} {B : Nat} {A : Option Addr} {zss : List (List Int)} (h : RdII w B A zss) (hk : ∀ b o, b < B → w'.cell? ⟨b, o, none⟩ = w.cell? ⟨b, o, none⟩) : RdII w' B A zss := by
  obtain ⟨h1, a, c, h2, h3⟩ := h
  exact ⟨h1, a, c, h2.keep hk, fun k hk' => (h3 k hk').keep hk⟩
theorem RdII.step {w w' : World} {A : Option Addr} {zss : List (List Int)} (h : RdII w w.heap.size A zss) (hb : Below w.heap.size w w') : RdII w' w'.heap.size A zss := by
  obtain ⟨h1, a, c, h2, h3⟩ := h.keep fun b o hlt => hb.cell (p := ⟨b, o, none⟩) hlt
  exact ⟨h1, a, c, h2.more hb.size, fun k hk' => (h3 k hk').more hb.size⟩
/-- the first k lists in a row -/
def ftk (zss : List (List Int)) (k : Nat) : List Int := (zss.take k).flatten
theorem ftk_next {zss : List (List Int)} {k : Nat} (h : k < zss.length) : ftk zss (k + 1) = ftk zss k ++ zss.getD k [] := by
  unfold ftk
  rw [List.take_succ_eq_append_getElem h, List.flatten_append]
  simp [List.getD, h]
theorem ftk_le (zss : List (List Int)) {k : Nat} (_hk : k ≤ zss.length) : (ftk zss k).length ≤ (ftk zss zss.length).length := by
  unfold ftk
  rw [List.take_length]
  have h := List.take_append_drop k zss
  have h2 := congrArg (fun l => l.flatten.length) h
  simp only [List.flatten_append, List.length_append] at h2
  omega
theorem ftk_all (zss : List (List Int)) : ftk zss zss.length = zss.flatten := by unfold ftk; rw [List.take_length]
theorem iVals_app (a b : List Int) : iVals (a ++ b) = iVals a ++ iVals b := by unfold iVals; simp

set_option maxHeartbeats 4000000 in
theorem concat_any (A : Option Addr) (c : Nat) (zss : List (List Int)) (w : World) (hx : RdII w w.heap.size A zss) (ht : (ftk zss zss.length).length ≤ 1048576) (hne : ∀ k, k < zss.length → 0 < (zss.getD k []).length) :
    Calls Tryd.prog 16 #[.slice A zss.length c] w fun e w' => ∃ v, e = .returned v ∧ w'.ownsRow w.heap.size 3 1 v (ftk zss zss.length).length (iVals (ftk zss zss.length)) ∧ Below w.heap.size w w' := by
  obtain ⟨i0, hi, hz0, hz1, hz2⟩ := info_parts infoInt'
  have hroom := hx.room
  have HNE := Lib.hid hne
  clear hne
  go_enter Tryd.func16, Tryd.ntmps16
  go_wp2_with fail
  go_loop [11, 3] (fun i s => ∃ k : Nat, k ≤ zss.length ∧ i = .int .i64 k ∧ s = .int .i64 ((ftk zss k).length : Nat)) (fun i _ => zss.length - (RowKit.intOf i).toNat)
  case atStart => exact ⟨0, Nat.zero_le _, rfl, rfl⟩
  case round =>
    obtain ⟨k, hk, rfl, rfl⟩ := hrel
    by_cases hkm : k < zss.length
    · obtain ⟨b, off, A', c', rfl, hb, hc, hr⟩ := hx.at_ hkm
      have hnx := ftk_next hkm
      have hl1 := ftk_le zss hk
      have hl2 := ftk_le zss (k := k + 1) (by omega)
      have hln : (ftk zss (k + 1)).length = (ftk zss k).length + (zss.getD k []).length := by rw [hnx, List.length_append]
      have HLN := Lib.hid hln
      obtain ⟨q, hq⟩ : ∃ q, q = (zss.getD k []).length := ⟨_, rfl⟩
      obtain ⟨s, hs⟩ : ∃ s, s = (ftk zss k).length := ⟨_, rfl⟩
      have hsq : s + q ≤ 1048576 := by omega
      rw [← hq] at hc
      rw [← hs]
      have HS := Lib.hid (show (ftk zss (k + 1)).length = s + q by omega)
      have s0 : (0 : Int) ≤ (s : Int) := Int.natCast_nonneg _
      have q0 : (0 : Int) ≤ (q : Int) := Int.natCast_nonneg _
      have sq : (s : Int) + (q : Int) ≤ 1048576 := by omega
      have sn : ¬ ((s : Int) + (q : Int) < 0) := by omega
      clear hnx hl1 hl2 hln hq hs hr
      go_wp2_with fail
      go_round
      case rel => exact ⟨k + 1, by omega, by go_num, by rw [HS.out]; go_num⟩
      case measure => simp [RowKit.intOf]; omega
    · obtain rfl : k = zss.length := by omega
      have hG := grow_nil (ftk zss zss.length).length ht w
      have HG := Lib.hid hG
      clear hG
      go_wp2_with (go_at_call 32; refine HG.out.mono ?_; rintro e w1 ⟨v1, rfl, ho1, hb1⟩)
      go_loopw [27, 6] (fun i v wr => ∃ k : Nat, k ≤ zss.length ∧ i = .int .i64 k ∧ wr.ownsRow w.heap.size 3 1 v (ftk zss k).length (iVals (ftk zss k)) ∧ Below w.heap.size w wr) (fun i _ _ => zss.length - (RowKit.intOf i).toNat)
      case atStart => exact ⟨0, Nat.zero_le _, rfl, ho1, hb1⟩
      case round =>
        obtain ⟨k, hk, rfl, hown, hbr⟩ := hrel
        clear ho1 hb1
        by_cases hkm : k < zss.length
        · obtain ⟨b, off, A', c', rfl, hb, hc, hr⟩ := hx.at_ hkm
          have hcw := (hbr.cell (p := ⟨b, off + k, none⟩) hb).trans hc
          have hp := HNE.out k hkm
          obtain ⟨b2, off2, rfl, hb2, hc2⟩ := hr.rd hp
          have hl2 := ftk_le zss (k := k + 1) (by omega)
          have hnx := ftk_next hkm
          have hln : (ftk zss (k + 1)).length = (ftk zss k).length + (zss.getD k []).length := by rw [hnx, List.length_append]
          have hsz := hbr.size
          have h3 : (ftk zss k).length + (zss.getD k []).length ≤ maxLen := by unfold maxLen; omega
          have h4 : ((ftk zss k).length + (zss.getD k []).length) * 8 ≤ 140737488355328 := by omega
          have hnews : ∀ (j : Nat) (u : Value), (iVals (zss.getD k []))[j]? = some u → wr.cell? (Addr.add ⟨b2, off2, none⟩ j) = some u := fun j u hj => by
            have hjl : j < (zss.getD k []).length := by
              have := (List.getElem?_eq_some_iff.1 hj).1
              simpa [iVals] using this
            rw [Addr.add_lit, hbr.cell (p := ⟨b2, off2 + j, none⟩) hb2, hc2 j hjl, ← hj]
            exact (iVals_at _ j hjl).symm
          have hone : ∀ u ∈ iVals (zss.getD k []), u.oneCell' = true := fun u hu => by
            unfold iVals at hu
            obtain ⟨z, _, rfl⟩ := List.mem_map.1 hu
            rfl
          have HNX := Lib.hid hnx
          have HLN := Lib.hid hln
          have HN := Lib.hid hnews
          have HO := Lib.hid hone
          obtain ⟨L, hL⟩ : ∃ L, L = zss.getD k [] := ⟨_, rfl⟩
          rw [← hL] at hcw h3 h4 hp HNX HLN HN HO
          have hil : (iVals L).length = L.length * 1 := by unfold iVals; simp
          clear hc hr hc2 hl2 hnx hln hnews hone hL
          go_wp2_with (at_builtin; refine wpList_append_own _ rfl _ _ 34 rfl w.heap.size 3 i0 (.int .i64 0) 1 8 Tryd.underlying34 hi hz0 hz1 hz2 rfl (by decide) _ _ _ rfl hown ⟨b2, off2, none⟩ L.length c' (iVals L) rfl hil HN.out HO.out h3 h4 hsz ?_; intro v' wa hown' hgrow _)
          rw [← iVals_app, ← HNX.out, ← HLN.out] at hown'
          have hB1 := hbr.grown hgrow hsz (own_base hown)
          clear hgrow
          go_roundw
          case rel => exact ⟨k + 1, by omega, by go_num, hown', hB1⟩
          case measure => simp [RowKit.intOf]; omega
        · obtain rfl : k = zss.length := by omega
          go_wp2_with fail
          go_ret
          exact ⟨_, rfl, hown, hbr⟩
end Go.Proofs.YtipihchlhkjdjaaDoor

namespace Go.Proofs.YtipihchlhkjdjaaDoor
open Go.RowKit
set_option maxRecDepth 100000

theorem sameLists1_same (A A' : Option Addr) (c c' : Nat) (xs : List Int) (w : World) (hx : RdI w w.heap.size A xs) (hy : RdI w w.heap.size A' xs) :
    Calls Tryd.prog 29 #[.slice A xs.length c, .slice A' xs.length c'] w fun e w' => e = .returned (.bool true) ∧ Below w.heap.size w w' := by
  go_enter Tryd.func29, Tryd.ntmps29
  go_wp2_with (refine (equalI_same A A' c c' xs _ hx hy).mono ?_; rintro e w1 ⟨rfl, hb⟩)
  go_ret
  exact ⟨rfl, hb⟩

set_option maxHeartbeats 1000000 in
theorem equalFuncI_same (A A' : Option Addr) (c c' : Nat) (zss : List (List Int)) (w : World) (hx : RdII w w.heap.size A zss) (hy : RdII w w.heap.size A' zss) :
    Calls Tryd.prog 28 #[.slice A zss.length c, .slice A' zss.length c', .func (.func 29) #[] #[]] w fun e w' => e = .returned (.bool true) ∧ Below w.heap.size w w' := by
  have hr := hx.room
  have hl : ((zss.length : Int) != (zss.length : Int)) = false := by simp
  go_enter Tryd.func28, Tryd.ntmps28
  go_wp2_with fail
  go_loopw [17] (fun i wr => ∃ k : Nat, k ≤ zss.length ∧ i = .int .i64 k ∧ Below w.heap.size w wr) (fun i _ => zss.length - (intOf i).toNat)
  case atStart => exact ⟨0, Nat.zero_le _, rfl, Below.refl _ _⟩
  case round =>
    obtain ⟨k, hk, rfl, hb⟩ := hrel
    by_cases hlt : k < zss.length
    · have X := hx.step hb
      have Y := hy.step hb
      obtain ⟨b, off, A1, c1, rfl, _, hc1, r1⟩ := X.at_ hlt
      obtain ⟨b2, off2, A2, c2, rfl, _, hc2, r2⟩ := Y.at_ hlt
      clear X Y
      obtain ⟨zk, hzk⟩ : ∃ zk, zk = zss.getD k [] := ⟨_, rfl⟩
      rw [← hzk] at hc1 hc2 r1 r2
      clear hzk
      go_wp2_with (refine (sameLists1_same A1 A2 c1 c2 zk _ r1 r2).mono ?_; rintro e w1 ⟨rfl, hb1⟩)
      have hB := hb.trans (hb1.mono hb.size)
      go_roundw
      case rel => exact ⟨k + 1, by omega, by go_num, hB⟩
      case measure => simp [intOf]; omega
    · go_wp2_with fail
      go_ret
      exact ⟨rfl, hb⟩
theorem sameLists_same (A A' : Option Addr) (c c' : Nat) (zss : List (List Int)) (w : World) (hx : RdII w w.heap.size A zss) (hy : RdII w w.heap.size A' zss) :
    Calls Tryd.prog 11 #[.slice A zss.length c, .slice A' zss.length c'] w fun e w' => e = .returned (.bool true) ∧ Below w.heap.size w w' := by
  go_enter Tryd.func11, Tryd.ntmps11
  go_wp2_with (refine (equalFuncI_same A A' c c' zss _ hx hy).mono ?_; rintro e w1 ⟨rfl, hb⟩)
  go_ret
  exact ⟨rfl, hb⟩

set_option maxHeartbeats 2000000 in
theorem roundsLaw_any (A : Option Addr) (c : Nat) (N : Int) (es : List (Int × Int)) (wk : Int) (w : World) (he : RdE w w.heap.size A es) (_hl : es.length ≤ 1048576) (hT : Tab w) :
    Calls Tryd.prog 3 #[.agg #[.int .i64 N, .slice A es.length c], .int .i64 wk] w fun e w' => e = .returned (.bool true) ∧ Below w.heap.size w w' := by
  go_enter Tryd.func3, Tryd.ntmps3
  go_wp2_with fail
  have g1 : GB 24 (w.alloc (.cells #[.int .i64 N, .slice A es.length c] 24)) w.heap.size N (.slice A es.length c) := GB.new w 24 N (.slice A es.length c)
  have hB := below_alloc w (.cells #[.int .i64 N, .slice A es.length c] 24)
  obtain ⟨w1, hw1⟩ : ∃ w1, w1 = w.alloc (.cells #[.int .i64 N, .slice A es.length c] 24) := ⟨_, rfl⟩
  rw [← hw1] at g1 hB ⊢
  have hs := hB.size
  have r1 := he.step hB
  replace hT := hT.step hB
  clear hw1 he
  obtain ⟨E, hE⟩ : ∃ E, E = rndE N es wk := ⟨_, rfl⟩
  obtain ⟨L, hL⟩ : ∃ L, L = rndL N es wk := ⟨_, rfl⟩
  have f1 : ∀ (W : World), RdE W W.heap.size A es → Tab W → Calls Tryd.prog 9 #[.agg #[.int .i64 N, .slice A es.length c], .int .i64 wk] W fun e w' => ∃ A1 c1, e = .returned (.tuple #[.slice A1 L.length c1, .int .i64 E]) ∧ RdII w' w'.heap.size A1 L ∧ Below W.heap.size W w' := fun W h hT => by
    rw [hL, hE]; exact rounds_any A c N es wk W h hT
  have f2 : ∀ (W : World), RdE W W.heap.size A es → Calls Tryd.prog 10 #[.agg #[.int .i64 N, .slice A es.length c], .int .i64 wk] W fun e w' => ∃ A1 c1, e = .returned (.tuple #[.slice A1 L.length c1, .int .i64 E]) ∧ RdII w' w'.heap.size A1 L ∧ Below W.heap.size W w' := fun W h => by
    rw [hL, hE]; exact frounds_any A c N es wk W h
  have F1 := Lib.hid f1
  have F2 := Lib.hid f2
  have hEE : (E == E) = true := by simp
  clear f1 f2 hE hL
  refine (F1.out _ r1 hT).mono ?_
  rintro e w2 ⟨A2, c2, rfl, q2, hb⟩
  replace g1 := gb_step g1 hb
  replace r1 := r1.step hb
  replace hB := below_step hB hs hb
  replace hs := hB.size
  clear hb
  have n1 := g1.n
  have e1 := g1.e
  go_wp2_with fail
  clear n1 e1
  refine (F2.out _ r1).mono ?_
  rintro e w3 ⟨A3, c3, rfl, q3, hb⟩
  replace q2 := q2.step hb
  replace hB := below_step hB hs hb
  replace hs := hB.size
  clear hb g1 r1
  go_wp2_with (refine (sameLists_same A2 A3 c2 c3 L _ q2 q3).mono ?_; rintro e w4 ⟨rfl, hb⟩)
  go_ret
  exact ⟨rfl, below_step hB hs hb⟩
end Go.Proofs.YtipihchlhkjdjaaDoor
