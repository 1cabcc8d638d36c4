/-
  A word made to hold one bit more, in a row that the call owns. Plain lemmas.
  Contract of forkwrightref.BSort: it answers what graph.Sort answers.
  Contracts of order.Apart and forkwrightref.CApart; the law OrderApart.
  Any two joinings that cannot be bettered leave as many chains; what forkwrightkeep.alive3 asks about its graph. Plain mathematics.
-/
import Derived.Test.YtaboafkpmgadmaaDoorPk01
import Derived.Test.YtaboafkpmgadmaaDoorPk03
import Derived.Test.YtaboafkpmgadmaaDoorPk09
import Derived.Test.YtaboafkpmgadmaaDoorPk10
import Derived.Test.YtaboafkpmgadmaaDoorPk14
import Derived.Test.YtaboafkpmgadmaaDoorPk11
import Derived.Test.YtaboafkpmgadmaaDoorPk13
namespace Go.Proofs.YtaboafkpmgadmaaDoor
open Go.RowKit

def lenOf : Value → Nat | .slice _ n _ => n | _ => 0
theorem u64_zero : Value.int .u64 0 = Value.int .u64 ((0 : Nat) : Int) := rfl
theorem put_val (p : Nat → Bool) (k : Nat) (hp : p k = true) : IntKind.u64.wrap ((wd (awl p k) (k / 64) : Int) + IntKind.u64.wrap (2 ^ (k % 64))) = ((wd (awl p k) (k / 64) + 2 ^ (k % 64) : Nat) : Int) := by
  have h := (awl_ok p (k + 1)).1 (k / 64)
  have hl : (awl p k).length ≤ k / 64 + 1 := by have := awl_len p k; omega
  rw [awl_yes p k hp, wd_put _ _ _ hl, if_pos rfl] at h
  have hr : 2 ^ (k % 64) ≤ 2 ^ 63 := Nat.pow_le_pow_right (by omega) (by omega)
  have hr2 : 0 < 2 ^ (k % 64) := Nat.pow_pos (by omega)
  have e : ((2 : Int) ^ (k % 64)) = ((2 ^ (k % 64) : Nat) : Int) := by simp
  rw [e, IntKind.wrap_u64, IntKind.wrap_u64]
  omega
theorem uVals_set (L : List Nat) (i x : Nat) : (uVals L).set i (.int .u64 (x : Int)) = uVals (L.set i x) := by
  unfold uVals; rw [List.map_set]
theorem rel_put {wr : World} {B E g c2 k t : Nat} {p : Nat → Bool} (hown2 : wr.ownsRow B E 1 (.slice (some ⟨g, 0, none⟩) ((awl p k).length + t) c2) ((awl p k).length + t) (uVals (awl p k ++ List.replicate t 0)))
    (hL : (awl p k).length + t = k / 64 + 1) (hp : p k = true) :
    (wr.setCell ⟨g, k / 64, none⟩ (.int .u64 (IntKind.u64.wrap ((wd (awl p k) (k / 64) : Int) + IntKind.u64.wrap (2 ^ (k % 64)))))).drew.ownsRow B E 1 (.slice (some ⟨g, 0, none⟩) ((awl p k).length + t) c2) (awl p (k + 1)).length (uVals (awl p (k + 1))) := by
  have hl : (awl p k).length ≤ k / 64 + 1 := by omega
  have e : awl p k ++ List.replicate t 0 = ext (awl p k) (k / 64) := by unfold ext; rw [show k / 64 + 1 - (awl p k).length = t by omega]
  have h := (hown2.stored (k / 64) (.int .u64 ((wd (awl p k) (k / 64) + 2 ^ (k % 64) : Nat) : Int))).1
  rw [put_val p k hp, awl_yes p k hp, put_len _ _ hl]
  rw [uVals_set, e, hL] at h
  rw [hL]
  exact h.drew
theorem app_zero (L : List Nat) (t : Nat) : (L ++ List.replicate t 0) ++ [0] = L ++ List.replicate (t + 1) 0 := by
  rw [List.append_assoc, List.replicate_succ']
end Go.Proofs.YtaboafkpmgadmaaDoor

namespace Go.Proofs.YtaboafkpmgadmaaDoor
open Go.RowKit Go.Shelf
set_option maxRecDepth 100000

/-- may n come, by the first k edges? -/
def rdyB (es : List (Int × Int)) (zs : List Int) (n : Int) (k : Nat) : Bool := !decide (n ∈ zs) && (es.take k).all fun e => (e.2 != n) || decide (e.1 ∈ zs)
theorem rdyB_zero (es : List (Int × Int)) (zs : List Int) (n : Int) : rdyB es zs n 0 = !decide (n ∈ zs) := by unfold rdyB; simp
theorem rdyB_succ {es : List (Int × Int)} {zs : List Int} {n : Int} {k : Nat} (hk : k < es.length) {a b : Int} (he : ed es k = (a, b)) {p : Bool} (hp : rdyB es zs n k = p) : rdyB es zs n (k + 1) = (p && ((b != n) || decide (a ∈ zs))) := by
  rw [← hp]
  unfold rdyB
  rw [take_ed es k hk, List.all_append, he]
  simp [Bool.and_assoc]
theorem rdyB_full {m : Nat} {es : List (Int × Int)} (h : inR m es = true) (L : List Nat) (n : Nat) : rdyB es (toI L) n es.length = ready (gR es) m L n := by
  rw [Bool.eq_iff_iff, ready_iff]
  unfold rdyB
  rw [List.take_length, Bool.and_eq_true, List.all_eq_true]
  simp only [Bool.not_eq_true', decide_eq_false_iff_not, Bool.or_eq_true, bne_iff_ne, ne_eq, decide_eq_true_iff, mem_toI]
  constructor
  · rintro ⟨h1, h2⟩
    refine ⟨h1, fun p hp hg => ?_⟩
    rcases h2 _ (of_decide_eq_true hg) with h3 | h3
    · exact absurd rfl h3
    · exact (mem_toI _ _).1 h3
  · rintro ⟨h1, h2⟩
    refine ⟨h1, fun e he => ?_⟩
    by_cases e2 : e.2 = (n : Int)
    · obtain ⟨a, b⟩ := e
      simp only at e2
      subst e2
      have h3 := edge_in h he
      obtain ⟨p, rfl⟩ : ∃ p : Nat, a = (p : Int) := ⟨a.toNat, by omega⟩
      exact .inr ((mem_toI _ _).2 (h2 p (by omega) (decide_eq_true he)))
    · exact .inl e2
theorem pick_ok {R : Nat → Nat → Bool} {m k : Nat} (hf : (topo R m).length = m) (hk : k < m) : ∃ x, pick R m (topoN R m k) = some x := by
  cases h : pick R m (topoN R m k) with
  | some x => exact ⟨x, rfl⟩
  | none =>
    have h1 := topo_at (by omega) h
    have h2 := topoN_len (R := R) (N := m) k
    rw [h1] at hf
    omega
theorem topoN_k {R : Nat → Nat → Bool} {m : Nat} (hf : (topo R m).length = m) (k : Nat) (hk : k ≤ m) : (topoN R m k).length = k :=
  topoN_eq k fun j hj => by
    obtain ⟨x, hx⟩ := pick_ok hf (k := j) (by omega)
    rw [hx]
    exact fun h => by cases h
theorem contains_len (A : Option Addr) (c len : Nat) (zs : List Int) (hl : zs.length = len) (v : Int) (w : World) (hx : RdI w w.heap.size A zs) :
    Calls Tryd.prog 26 #[.slice A len c, .int .i64 v] w fun e w' => e = .returned (.bool (decide (v ∈ zs))) ∧ w = w' := by
  subst hl; exact contains_b A c zs v w hx

set_option maxHeartbeats 4000000 in
theorem bsort_any (A : Option Addr) (c : Nat) (N : Int) (es : List (Int × Int)) (w : World) (he : RdE w w.heap.size A es) :
    Calls Tryd.prog 14 #[.agg #[.int .i64 N, .slice A es.length c]] w fun e w' => ∃ A1 c1, e = .returned (.tuple #[.slice A1 (ordG N es).length c1, .int .i64 (errn N es)]) ∧ RdI w' w'.heap.size A1 (ordG N es) ∧ Below w.heap.size w w' := by
  obtain ⟨j0, gi, gz0, gz1, gz2⟩ := info_parts Tryd.infoInt
  have hroom := he.room
  go_enter Tryd.func14, Tryd.ntmps14
  go_wp2_with fail
  have g1 := GB.new w 24 N (.slice A es.length c)
  have hB := below_alloc w (.cells #[.int .i64 N, .slice A es.length c] 24)
  obtain ⟨w1, hw1⟩ : ∃ w1, w1 = w.alloc (.cells #[.int .i64 N, .slice A es.length c] 24) := ⟨_, rfl⟩
  rw [← hw1] at g1 hB ⊢
  have hs := hB.size
  have r1 := he.step hB
  clear hw1 he
  refine (bwrong_any A c N es _ r1).mono ?_
  rintro e w2 ⟨rfl, hb⟩
  replace g1 := g1.step hb
  replace r1 := r1.step hb
  replace hB := below_step hB hs hb
  replace hs := hB.size
  clear hb
  have n1 := g1.n
  have e1 := g1.e
  by_cases hE : errn N es = 0
  · obtain ⟨m, rfl, hin, hfull⟩ := errn_split hE
    have hm := okN_of hin
    have hm2 : m ≤ 200 := by omega
    have e3 : ordG m es = toI (ordr m es) := by unfold ordG; rw [if_pos hE, Int.toNat_natCast]
    have E3 := Lib.hid e3
    have HIN := Lib.hid hin
    have HF := Lib.hid hfull
    have HE := Lib.hid hE
    rw [hE]
    clear e3 hE hin hfull hm n1 e1
    go_wp2_with fail
    go_loopw [5] (fun v wr => ∃ k : Nat, k ≤ m ∧ wr.ownsRow w2.heap.size 3 1 v (toI (topoN (gR es) m k)).length (iVals (toI (topoN (gR es) m k))) ∧ Below w2.heap.size w2 wr) (fun v _ => m - lenOf v)
    case atStart => exact ⟨0, Nat.zero_le _, World.ownsRow_nil _ _ _ _, Below.refl _ _⟩
    case round =>
      obtain ⟨k, hk, hown, hb⟩ := hrel
      have hsz := hb.size
      have hl := topoN_k HF.out k hk
      have hgood := good_topoN (gR es) m k
      have hbd := zd_toI_bd (topoN (gR es) m k) m hgood.lt
      obtain ⟨A3, c3, hv, rI⟩ := own_rdI hown (fun k => by have := hbd k; omega) (fun k => by have := hbd k; omega) (by rw [toI_len]; omega)
      have hlen : (toI (topoN (gR es) m k)).length = k := by rw [toI_len]; exact hl
      rw [hlen] at hv
      subst hv
      have HL := Lib.hid hlen
      have G := g1.step hb
      have R := r1.step hb
      have gn := G.n
      clear hl hgood hbd
      by_cases hlt : k < m
      · obtain ⟨x, hx⟩ := pick_ok HF.out hlt
        have HX := Lib.hid hx
        obtain ⟨hxm, hrx, hmin⟩ := find_range hx
        have HRX := Lib.hid hrx
        have HM := Lib.hid hmin
        clear hx hrx hmin hlen
        obtain ⟨zs, hzs⟩ : ∃ zs, zs = toI (topoN (gR es) m k) := ⟨_, rfl⟩
        rw [← hzs] at hown rI HL
        have HZ := Lib.hid hzs
        clear hzs
        go_wp2_with fail
        clear gn
        obtain ⟨wo, rfl⟩ : ∃ wo : World, wo = wr := ⟨_, rfl⟩
        go_loopw [5, 22] (fun v i wr2 => ∃ n : Nat, n ≤ x ∧ v = .slice A3 k c3 ∧ i = .int .i64 n ∧ Below wo.heap.size wo wr2) (fun _ i _ => m - (intOf i).toNat)
        case atStart => exact ⟨0, Nat.zero_le _, rfl, rfl, Below.refl _ _⟩
        case round =>
          obtain ⟨n, hn, rfl, rfl, hb2⟩ := hrel
          have hnm : n < m := by omega
          have G2 := G.step hb2
          have R2 := R.step hb2
          have I2 := rI.step hb2
          have ge := G2.e
          go_wp2_with (refine (contains_len A3 c3 k zs HL.out n _ I2).mono ?_; rintro e w' ⟨rfl, rfl⟩)
          clear ge
          obtain ⟨wi, rfl⟩ : ∃ wi : World, wi = wr := ⟨_, rfl⟩
          go_loopw [7, 32] (fun v i wr3 => ∃ t : Nat, t ≤ es.length ∧ i = .int .i64 t ∧ v = .bool (rdyB es zs n t) ∧ Below wi.heap.size wi wr3) (fun _ i _ => es.length - (intOf i).toNat)
          case atStart => exact ⟨0, Nat.zero_le _, rfl, by rw [rdyB_zero], Below.refl _ _⟩
          case round =>
            obtain ⟨t, ht, rfl, rfl, hb3⟩ := hrel
            by_cases htl : t < es.length
            · have R3 := R2.step hb3
              obtain ⟨b, off, rfl, _, hc⟩ := R3.rd (by omega)
              obtain ⟨ha1, ha2⟩ := hc t htl
              clear hc
              obtain ⟨p, hp⟩ : ∃ p, rdyB es zs n t = p := ⟨_, rfl⟩
              rw [hp]
              obtain ⟨a, ha⟩ : ∃ a, (ed es t).1 = a := ⟨_, rfl⟩
              obtain ⟨d, hd⟩ : ∃ d, (ed es t).2 = d := ⟨_, rfl⟩
              have HS := Lib.hid (rdyB_succ htl (a := a) (b := d) (by rw [← ha, ← hd]) hp)
              rw [ha] at ha1
              rw [hd] at ha2
              have hE := EBox.new wr a d 38
              have hxx := hE.x
              have hyy := hE.y
              have hb4 := below_alloc wr (.cells #[.int .i64 a, .int .i64 d] 38)
              have I3 := (I2.step hb3).step hb4
              have hB4 := hb3.trans (hb4.mono hb3.size)
              clear hp ha hd hb4 hb3 R3 R2 R G G2 g1 r1 hown hE I2 rI
              by_cases hdn : d = (n : Int)
              · subst hdn
                have hdb : ((n : Int) != (n : Int)) = false := by simp
                cases p with
                | false =>
                  go_wp2_with fail
                  go_roundw
                  case rel => exact ⟨t + 1, by omega, by go_num, by rw [HS.out]; rfl, hB4⟩
                  case measure => simp [intOf]; omega
                | true =>
                  go_wp2_with (refine (contains_len A3 c3 k zs HL.out a _ I3).mono ?_; rintro e w' ⟨rfl, rfl⟩)
                  go_roundw
                  case rel => exact ⟨t + 1, by omega, by go_num, by rw [HS.out, hdb]; rfl, hB4⟩
                  case measure => simp [intOf]; omega
              · have hdb : (d != (n : Int)) = true := by simpa using hdn
                cases p with
                | false =>
                  go_wp2_with fail
                  go_roundw
                  case rel => exact ⟨t + 1, by omega, by go_num, by rw [HS.out]; rfl, hB4⟩
                  case measure => simp [intOf]; omega
                | true =>
                  go_wp2_with fail
                  go_roundw
                  case rel => exact ⟨t + 1, by omega, by go_num, by rw [HS.out, hdb]; rfl, hB4⟩
                  case measure => simp [intOf]; omega
            · obtain rfl : t = es.length := by omega
              have hfin : rdyB es zs n es.length = ready (gR es) m (topoN (gR es) m k) n := by rw [HZ.out]; exact rdyB_full HIN.out _ _
              rw [hfin]
              clear hfin
              have hB3 := hb2.trans (hb3.mono hb2.size)
              by_cases hnx : n = x
              · subst hnx
                rw [HRX.out]
                have hBw := hb.trans (hB3.mono hsz)
                have hown3 : wr.ownsRow w2.heap.size 3 1 (.slice A3 k c3) k (iVals zs) := ownsRow_keeps (by rw [HL.out] at hown; exact hown) (Keeps.of_below (p := fun b => b < wo.heap.size) hB3 fun _ _ h => h) (own_block_lt hown)
                have hsw := hBw.size
                have h3 : k + 1 ≤ maxLen := by unfold maxLen; omega
                have h4 : (k + 1) * 8 ≤ 140737488355328 := by omega
                have h5 : w2.heap.size ≤ (wr.alloc (.cells #[.int .i64 (n : Int)] 3)).heap.size := by simp; omega
                clear G G2 R R2 g1 r1 I2 rI hown hb hb2 hb3 hB3
                go_wp2_with (at_builtin; refine wpList_append_own _ rfl _ _ 25 rfl w2.heap.size 3 j0 (.int .i64 0) 1 8 Tryd.underlying25 gi gz0 gz1 gz2 rfl (by decide) _ _ _ rfl (hown3.alloc _) ⟨wr.heap.size, 0, none⟩ 1 1 [.int .i64 (n : Int)] rfl rfl (cell_one_new _ _ _) (by simp [Value.oneCell']) h3 h4 h5 ?_; intro v' w9 hown' hgrow _)
                have hB9 := below_app hBw hsw hown3 hgrow
                have hy : zs ++ [(n : Int)] = toI (topoN (gR es) m (k + 1)) := by rw [topoN_some HX.out, toI_snoc, ← HZ.out]
                have hy2 : k + 1 = (toI (topoN (gR es) m (k + 1))).length := by rw [← hy]; simp [HL.out]
                have hown2 : w9.ownsRow w2.heap.size 3 1 v' (toI (topoN (gR es) m (k + 1))).length (iVals (toI (topoN (gR es) m (k + 1)))) := by rw [← hy2, ← hy, ← iVals_snoc]; exact hown'
                have hlv : lenOf v' = k + 1 := by
                  obtain ⟨A9, c9, rfl⟩ := own_any hown2
                  rw [← hy2]
                  rfl
                go_roundw
                case rel => exact ⟨k + 1, by omega, hown2, hB9⟩
                case measure => rw [hlv]; simp [lenOf]; omega
              · rw [HM.out n (by omega)]
                clear G G2 R R2 g1 r1 I2 rI hown
                go_wp2_with fail
                go_roundw
                case rel => exact ⟨n + 1, by omega, rfl, by go_num, hB3⟩
                case measure => simp [intOf]; omega
      · obtain rfl : k = m := by omega
        go_wp2_with fail
        go_ret2
        have e4 : ordG k es = toI (topoN (gR es) k k) := E3.out
        rw [e4, hlen, HE.out]
        exact ⟨A3, c3, rfl, rI, hB.trans (hb.mono hs)⟩
  · obtain ⟨E, hEE⟩ : ∃ E, E = errn N es := ⟨_, rfl⟩
    have hb0 : (E != 0) = true := by rw [hEE]; simpa using hE
    have hd : ordG N es = [] := by unfold ordG; rw [if_neg hE]
    have HD := Lib.hid hd
    have HEE := Lib.hid hEE
    rw [← hEE]
    clear hE hEE hd
    go_wp2_with fail
    go_ret2
    rw [HD.out, ← HEE.out]
    exact ⟨none, 0, rfl, ⟨fun k => by simp [zd], fun k => by simp [zd], by simp, fun h => by simp at h⟩, hB⟩
end Go.Proofs.YtaboafkpmgadmaaDoor

namespace Go.Proofs.YtaboafkpmgadmaaDoor
open Go.RowKit Go.Shelf
set_option maxRecDepth 100000

/-- a slice that came in is no longer than its room -/
theorem okWide_cap {P : Program} {w : World} {r : Reach} {base : Nat} {t e : TypeId} {a : Option Addr} {len cap : Nat} (ht : P.underlying t = some (.slice e)) (h : Value.okWide P w r base t (.slice a len cap)) : len ≤ cap := by
  simp only [Value.okWide, ht, Cell.okWide] at h
  cases a with
  | none =>
    unfold Cell.ok at h
    rw [ht] at h
    split at h <;> simp_all
  | some a =>
    simp [Cell.ok, ht] at h
    exact h.1

def apG (N : Int) (es : List (Int × Int)) (zs : List Int) : Bool := decide (errn N es = 0) && apB N.toNat es zs

set_option maxHeartbeats 4000000 in
theorem apart_any (A : Option Addr) (c : Nat) (N : Int) (es : List (Int × Int)) (A2 : Option Addr) (c2 : Nat) (zs : List Int) (w : World) (he : RdE w w.heap.size A es) (hz : RdI w w.heap.size A2 zs) (hT : Tab w) :
    Calls Tryd.prog 35 #[.agg #[.int .i64 N, .slice A es.length c], .slice A2 zs.length c2] w fun e w' => e = .returned (.bool (apG N es zs)) ∧ Below w.heap.size w w' := by
  have hroom := hz.room
  go_enter Tryd.func35, Tryd.ntmps35
  go_wp2_with fail
  have g1 := GB.new w 24 N (.slice A es.length c)
  have hB := below_alloc w (.cells #[.int .i64 N, .slice A es.length c] 24)
  obtain ⟨Bg, hBg⟩ : ∃ Bg, Bg = w.heap.size := ⟨_, rfl⟩
  obtain ⟨w1, hw1⟩ : ∃ w1, w1 = w.alloc (.cells #[.int .i64 N, .slice A es.length c] 24) := ⟨_, rfl⟩
  rw [← hw1] at g1 hB ⊢
  rw [← hBg] at g1 ⊢
  have hs := hB.size
  replace he := hw1 ▸ he.step (below_alloc w _)
  replace hz := hw1 ▸ hz.step (below_alloc w _)
  replace hT := hw1 ▸ hT.step (below_alloc w _)
  clear hw1 hBg
  have n1 := g1.n
  have e1 := g1.e
  go_wp2_with fail
  clear n1 e1
  refine (behind_any A c N es _ he hT).mono ?_
  rintro e w2 ⟨A1, c1, rfl, hu, hb⟩
  replace g1 := g1.step hb
  replace hz := hz.step hb
  replace hB := below_step hB hs hb
  replace hs := hB.size
  clear hb he hT
  by_cases hE : errn N es = 0
  · obtain ⟨m, rfl, hin, hfull⟩ := errn_split hE
    have hm := okN_of hin
    have e3 : behG m es = behs m es := by unfold behG; rw [if_pos hE, Int.toNat_natCast]
    have hap : apG m es zs = apB m es zs := by unfold apG; rw [decide_eq_true hE, Bool.true_and, Int.toNat_natCast]
    rw [e3] at hu
    rw [e3, hE, behs_len]
    obtain ⟨R, hR⟩ : ∃ R, R = apB m es zs := ⟨_, rfl⟩
    have HAP := Lib.hid (hap.trans hR.symm)
    clear e3 hE hap hfull
    have HR := Lib.hid hR
    have HIN := Lib.hid hin
    clear hR hin
    have b5 := (Boxed.new w2 29 (.slice A1 m c1)).cell
    have hb := below_alloc w2 (.cells #[.slice A1 m c1] 29)
    go_wp2_with fail
    obtain ⟨B5, hB5⟩ : ∃ B5, B5 = w2.heap.size := ⟨_, rfl⟩
    obtain ⟨w3, hw3⟩ : ∃ w3, w3 = w2.alloc (.cells #[.slice A1 m c1] 29) := ⟨_, rfl⟩
    rw [← hw3] at b5 hb ⊢
    rw [← hB5] at b5 ⊢
    replace g1 := g1.step hb
    replace hz := hz.step hb
    replace hu := hu.step hb
    replace hB := below_step hB hs hb
    replace hs := hB.size
    clear hb hw3 hB5
    have n1 := g1.n
    have F1 := Lib.hid (contains1_any (noB m) A2 c2 zs Bg w3 hz fun k hk W hW => isNo_any m Bg (zd zs k) W ((hW.cell (p := ⟨Bg, 0, none⟩) g1.lt).trans n1))
    rw [noB_any] at F1
    clear n1
    cases hA : inA m zs with
    | false =>
      rw [hA] at F1
      have e0 : R = false := by rw [HR.out]; unfold apB; rw [hA]; rfl
      have E0 := Lib.hid e0
      clear hA e0
      go_wp2_with (first
        | (go_at_call 70; refine F1.out.mono ?_; rintro e w4 ⟨rfl, hb⟩)
        | fail)
      go_ret
      refine ⟨?_, below_step hB hs hb⟩
      rw [HAP.out, E0.out]
      rfl
    | true =>
      rw [hA] at F1
      have HA := Lib.hid hA
      clear hA
      go_wp2_with (first
        | (go_at_call 70; refine F1.out.mono ?_; rintro e w4 ⟨rfl, hb⟩)
        | fail)
      have b5' := (hb.cell (p := ⟨B5, 0, none⟩) (World.block_lt_of_cell? _ _ b5)).trans b5
      replace hz := hz.step hb
      replace hu := hu.step hb
      replace hB := below_step hB hs hb
      replace hs := hB.size
      clear hb b5 g1 F1
      go_wp2_with (first
        | (go_at_call 71; refine (of_any A2 c2 zs _ hz).mono ?_; rintro e w5 ⟨A5, c5, rfl, hS, hb⟩)
        | fail)
      have b6 := (hb.cell (p := ⟨B5, 0, none⟩) (World.block_lt_of_cell? _ _ b5')).trans b5'
      replace hz := hz.step hb
      replace hu := hu.step hb
      replace hB := below_step hB hs hb
      replace hs := hB.size
      clear hb b5'
      have b8 := (Boxed.new w5 49 (.slice A5 (ofS zs).length c5)).cell
      have hb := below_alloc w5 (.cells #[.slice A5 (ofS zs).length c5] 49)
      obtain ⟨B8, hB8⟩ : ∃ B8, B8 = w5.heap.size := ⟨_, rfl⟩
      obtain ⟨w6, hw6⟩ : ∃ w6, w6 = w5.alloc (.cells #[.slice A5 (ofS zs).length c5] 49) := ⟨_, rfl⟩
      rw [← hw6] at b8 hb ⊢
      rw [← hB8] at b8 ⊢
      have b7 := (hb.cell (p := ⟨B5, 0, none⟩) (World.block_lt_of_cell? _ _ b6)).trans b6
      replace hz := hz.step hb
      replace hu := hu.step hb
      replace hS := hS.step hb
      replace hB := below_step hB hs hb
      replace hs := hB.size
      clear hb hw6 hB8 b6
      have hsz := size_nodup (m := m) (by omega) HA.out
      have F2 := Lib.hid (contains2_any (folB m es zs) A2 c2 zs B5 B8 w6 hz fun k hk W hW => isFol_any m es HIN.out zs HA.out B5 B8 A1 c1 A5 c5 (zd zs k) (inA_iff.1 HA.out _ (zd_mem zs k hk)) W
        ((hW.cell (p := ⟨B5, 0, none⟩) (World.block_lt_of_cell? _ _ b7)).trans b7) (hu.step hW) ((hW.cell (p := ⟨B8, 0, none⟩) (World.block_lt_of_cell? _ _ b8)).trans b8) (hS.step hW))
      have G := Lib.hid (size_any A5 c5 (ofS zs) w6 hS (by have := ofS_len zs; omega))
      have hap : R = (decide zs.Nodup && !zs.any (folB m es zs)) := by rw [HR.out]; unfold apB; rw [HA.out, Bool.true_and]
      obtain ⟨K, hK⟩ : ∃ K, K = ones (ofS zs) (ofS zs).length := ⟨_, rfl⟩
      obtain ⟨Q, hQ⟩ : ∃ Q, Q = zs.any (folB m es zs) := ⟨_, rfl⟩
      obtain ⟨ln, hln⟩ : ∃ ln, ln = (ofS zs).length := ⟨_, rfl⟩
      rw [← hK] at hsz G
      rw [← hQ] at hap F2
      rw [← hln] at b8 G ⊢
      clear hK hQ hln hS hu b7
      by_cases hnd : zs.Nodup
      · have hk := hsz.2 hnd
        rw [decide_eq_true hnd, Bool.true_and] at hap
        subst hk
        clear hnd hsz
        have E0 := Lib.hid hap
        clear hap
        go_wp2_with (first
          | (go_at_call 58; refine G.out.mono ?_; rintro e w7 ⟨rfl, rfl⟩)
          | (go_at_call 70; refine F2.out.mono ?_; rintro e w8 ⟨rfl, hb⟩)
          | fail)
        go_ret
        refine ⟨?_, below_step hB hs hb⟩
        rw [HAP.out, E0.out]
        rfl
      · have hk : (K : Int) ≠ (zs.length : Int) := fun e => hnd (hsz.1 (by omega))
        rw [decide_eq_false hnd, Bool.false_and] at hap
        clear hnd hsz
        have E0 := Lib.hid hap
        clear hap
        go_wp2_with (first
          | (go_at_call 58; refine G.out.mono ?_; rintro e w7 ⟨rfl, rfl⟩)
          | fail)
        go_ret
        refine ⟨?_, hB⟩
        rw [HAP.out, E0.out]
        rfl
  · have e0 : apG N es zs = false := by unfold apG; rw [decide_eq_false hE, Bool.false_and]
    have E0 := Lib.hid e0
    obtain ⟨E, hEE⟩ : ∃ E, E = errn N es := ⟨_, rfl⟩
    rw [← hEE] at hE ⊢
    obtain ⟨ln, hln⟩ : ∃ ln, ln = (behG N es).length := ⟨_, rfl⟩
    rw [← hln]
    clear hln hEE hu e0
    go_wp2_with fail
    go_ret
    refine ⟨?_, hB.trans ((below_alloc _ _).mono hs)⟩
    rw [E0.out]
    rfl

set_option maxHeartbeats 4000000 in
theorem capart_any (A : Option Addr) (c : Nat) (N : Int) (es : List (Int × Int)) (A2 : Option Addr) (c2 : Nat) (zs : List Int) (w : World) (he : RdE w w.heap.size A es) (hz : RdI w w.heap.size A2 zs) (hcap : zs.length ≤ c2) :
    Calls Tryd.prog 36 #[.agg #[.int .i64 N, .slice A es.length c], .slice A2 zs.length c2] w fun e w' => e = .returned (.bool (apG N es zs)) ∧ Below w.heap.size w w' := by
  have hroom := hz.room
  go_enter Tryd.func36, Tryd.ntmps36
  go_wp2_with fail
  have g1 := GB.new w 24 N (.slice A es.length c)
  have hB := below_alloc w (.cells #[.int .i64 N, .slice A es.length c] 24)
  obtain ⟨w1, hw1⟩ : ∃ w1, w1 = w.alloc (.cells #[.int .i64 N, .slice A es.length c] 24) := ⟨_, rfl⟩
  rw [← hw1] at g1 hB ⊢
  have hs := hB.size
  replace he := he.step hB
  replace hz := hz.step hB
  clear hw1
  refine (bwrong_any A c N es _ he).mono ?_
  rintro e w2 ⟨rfl, hb⟩
  replace g1 := g1.step hb
  replace he := he.step hb
  replace hz := hz.step hb
  replace hB := below_step hB hs hb
  replace hs := hB.size
  clear hb
  have n1 := g1.n
  have e1 := g1.e
  by_cases hE : errn N es = 0
  · obtain ⟨m, rfl, hin, hfull⟩ := errn_split hE
    have hm := okN_of hin
    have hap : apG m es zs = apB m es zs := by unfold apG; rw [decide_eq_true hE, Bool.true_and, Int.toNat_natCast]
    rw [hE]
    have hirr := fw_irr hin hfull
    have HI := Lib.hid hirr
    clear hE hfull hirr
    go_wp2_with fail
    refine (reach_rows A c m es _ he hin).mono ?_
    rintro e w3 ⟨g, rfl, hM, hb⟩
    replace g1 := g1.step hb
    replace hz := hz.step hb
    replace hB := below_step hB hs hb
    clear hb n1 e1 he hs
    have n1 := g1.n
    have hm2 : m ≤ 200 := by omega
    obtain ⟨R, hR⟩ : ∃ R, R = apB m es zs := ⟨_, rfl⟩
    have HAP := Lib.hid (hap.trans hR.symm)
    have HR := Lib.hid hR
    obtain ⟨fR, hfR⟩ : ∃ fR, fR = fw (gR es) m := ⟨_, rfl⟩
    rw [← hfR] at hM
    have HF := Lib.hid hfR
    clear hR hin hm hfR hap
    have HB := Lib.hid hB
    clear hB
    go_wp2_with fail
    go_loop [17] (fun i => ∃ a : Nat, a ≤ zs.length ∧ i = .int .i64 a ∧ Hid (∀ x, x < a → (0 ≤ zd zs x ∧ zd zs x < (m : Int)) ∧ ∀ y, y < x → zd zs y ≠ zd zs x ∧ fR (zd zs y).toNat (zd zs x).toNat = false ∧ fR (zd zs x).toNat (zd zs y).toNat = false)) (fun i => zs.length - (intOf i).toNat)
    case atStart => exact ⟨0, Nat.zero_le _, rfl, Lib.hid fun x hx => by omega⟩
    case round =>
      obtain ⟨a, ha, rfl, hgood⟩ := hrel
      by_cases hlt : a < zs.length
      · obtain ⟨b, off, rfl, hbb, hc⟩ := hz.rd (by omega)
        have HC := Lib.hid hc
        have hca := hc a hlt
        dsimp only at hca
        clear hc
        by_cases h1 : zd zs a < 0
        · obtain ⟨z, hzz⟩ : ∃ z, z = zd zs a := ⟨_, rfl⟩
          rw [← hzz] at hca h1
          have HZ := Lib.hid hzz
          clear hzz
          go_wp2_with fail
          go_ret
          exact ⟨ret_b (by rw [HAP.out, HR.out]; exact (apB_far hlt (by rw [← HZ.out]; omega)).symm), HB.out⟩
        by_cases h2 : (m : Int) ≤ zd zs a
        · obtain ⟨z, hzz⟩ : ∃ z, z = zd zs a := ⟨_, rfl⟩
          rw [← hzz] at hca h1 h2
          have HZ := Lib.hid hzz
          clear hzz
          go_wp2_with fail
          go_ret
          exact ⟨ret_b (by rw [HAP.out, HR.out]; exact (apB_far hlt (by rw [← HZ.out]; omega)).symm), HB.out⟩
        obtain ⟨x, hx⟩ : ∃ x : Nat, zd zs a = (x : Int) := ⟨(zd zs a).toNat, by omega⟩
        rw [hx] at hca h1 h2
        have hxm : x < m := by omega
        have hx0 : (0 : Int) ≤ (x : Int) := Int.natCast_nonneg _
        have hx1 : (x : Int) < (m : Int) := by omega
        have HX := Lib.hid hx
        have x1 := hM.c1 hxm
        have hal : a < zs.length := hlt
        have hac : a ≤ c2 := by omega
        clear hx
        go_wp2_with fail
        go_loop [34] (fun i => ∃ d : Nat, d ≤ a ∧ i = .int .i64 d ∧ Hid (∀ y, y < d → zd zs y ≠ zd zs a ∧ fR (zd zs y).toNat (zd zs a).toNat = false ∧ fR (zd zs a).toNat (zd zs y).toNat = false)) (fun i => a - (intOf i).toNat)
        case atStart => exact ⟨0, Nat.zero_le _, rfl, Lib.hid fun x hx => by omega⟩
        case round =>
          obtain ⟨d, hd, rfl, hgd⟩ := hrel
          by_cases hdl : d < a
          · have hcd := HC.out d (by omega)
            obtain ⟨y, hy, hym⟩ : ∃ y : Nat, zd zs d = (y : Int) ∧ y < m := by
              have := (hgood.out d hdl).1
              exact ⟨(zd zs d).toNat, by omega, by omega⟩
            rw [hy] at hcd
            have HY := Lib.hid hy
            have hy0 : (0 : Int) ≤ (y : Int) := Int.natCast_nonneg _
            have hy1 : (y : Int) < (m : Int) := by omega
            clear hy
            have y1 := hM.c1 hym
            have yx := hM.c2 hym hxm
            have xy := hM.c2 hxm hym
            by_cases hxy : (y : Int) = (x : Int)
            · go_wp2_with fail
              go_ret
              exact ⟨ret_b (by rw [HAP.out, HR.out]; exact (apB_same hal hdl (by rw [HX.out, HY.out]; exact hxy)).symm), HB.out⟩
            cases q1 : fR y x with
            | true =>
              rw [q1] at yx
              have Q1 := Lib.hid q1
              clear q1 xy
              go_wp2_with fail
              go_ret
              exact ⟨ret_b (by rw [HAP.out, HR.out]; exact (apB_behind hal (b := d) (by omega) (by rw [HX.out, HY.out, Int.toNat_natCast, Int.toNat_natCast, ← HF.out]; exact Q1.out)).symm), HB.out⟩
            | false =>
              rw [q1] at yx
              have Q1 := Lib.hid q1
              clear q1
              cases q2 : fR x y with
              | true =>
                rw [q2] at xy
                have Q2 := Lib.hid q2
                clear q2
                go_wp2_with fail
                go_ret
                exact ⟨ret_b (by rw [HAP.out, HR.out]; exact (apB_behind (a := d) (b := a) (by omega) hal (by rw [HX.out, HY.out, Int.toNat_natCast, Int.toNat_natCast, ← HF.out]; exact Q2.out)).symm), HB.out⟩
              | false =>
                rw [q2] at xy
                have Q2 := Lib.hid q2
                clear q2
                go_wp2_with fail
                go_round
                case rel =>
                  refine ⟨d + 1, by omega, by go_num, Lib.hid fun t ht => ?_⟩
                  rcases Nat.lt_or_ge t d with h | h
                  · exact hgd.out t h
                  · obtain rfl : t = d := by omega
                    rw [HX.out, HY.out, Int.toNat_natCast, Int.toNat_natCast]
                    exact ⟨hxy, Q1.out, Q2.out⟩
                case measure => simp [intOf]; omega
          · obtain rfl : d = a := by omega
            go_wp2_with fail
            go_round
            case rel =>
              refine ⟨d + 1, by omega, by go_num, Lib.hid fun t ht => ?_⟩
              rcases Nat.lt_or_ge t d with h | h
              · exact hgood.out t h
              · obtain rfl : t = d := by omega
                exact ⟨by rw [HX.out]; omega, hgd.out⟩
            case measure => simp [intOf]; omega
      · obtain rfl : a = zs.length := by omega
        go_wp2_with fail
        go_ret
        refine ⟨ret_b ?_, HB.out⟩
        rw [HAP.out, HR.out]
        exact (apB_good HI.out (by rw [← HF.out]; exact hgood.out)).symm
  · have e0 : apG N es zs = false := by unfold apG; rw [decide_eq_false hE, Bool.false_and]
    have E0 := Lib.hid e0
    obtain ⟨E, hEE⟩ : ∃ E, E = errn N es := ⟨_, rfl⟩
    rw [← hEE] at hE ⊢
    clear hEE e0
    go_wp2_with fail
    go_ret
    refine ⟨?_, hB⟩
    rw [E0.out]
    rfl

/-- the graph's box, and all that lay -/
abbrev HeldA (w1 : World) (B : Nat) (x : Int) (v : Value) (w' : World) : Prop := w'.cell? ⟨B, 0, none⟩ = some (.int .i64 x) ∧ w'.cell? ⟨B, 1, none⟩ = some v ∧ Below w1.heap.size w1 w'
theorem HeldA.drew {w1 W : World} {B : Nat} {x : Int} {v : Value} (h : HeldA w1 B x v W) : HeldA w1 B x v W.drew := ⟨h.1, h.2.1, h.2.2.drew⟩
theorem HeldA.step {w1 W w2 : World} {B : Nat} {x : Int} {v : Value} (h : HeldA w1 B x v W) (hb : Below W.heap.size W w2) : HeldA w1 B x v w2 :=
  ⟨(hb.cell (p := ⟨B, 0, none⟩) (World.block_lt_of_cell? _ _ h.1)).trans h.1, (hb.cell (p := ⟨B, 1, none⟩) (World.block_lt_of_cell? _ _ h.2.1)).trans h.2.1, h.2.2.trans (hb.mono h.2.2.size)⟩

set_option maxHeartbeats 4000000 in
theorem apartLaw_any (A : Option Addr) (c : Nat) (N : Int) (es : List (Int × Int)) (A2 : Option Addr) (c2 : Nat) (zs : List Int) (w : World) (he : RdE w w.heap.size A es) (_hl : es.length ≤ 1048576) (hz : RdI w w.heap.size A2 zs) (_hl2 : zs.length ≤ 1048576) (hcap : zs.length ≤ c2) (hT : Tab w) :
    Calls Tryd.prog 7 #[.agg #[.int .i64 N, .slice A es.length c], .slice A2 zs.length c2] w fun e w' => e = .returned (.bool true) ∧ Below w.heap.size w w' := by
  go_enter Tryd.func7, Tryd.ntmps7
  go_wp2_with fail
  have g1 := GB.new w 24 N (.slice A es.length c)
  have hB := below_alloc w (.cells #[.int .i64 N, .slice A es.length c] 24)
  obtain ⟨w1, hw1⟩ : ∃ w1, w1 = w.alloc (.cells #[.int .i64 N, .slice A es.length c] 24) := ⟨_, rfl⟩
  have he1 := hw1 ▸ he.step (below_alloc w _)
  have hz1 := hw1 ▸ hz.step (below_alloc w _)
  have hT1 := hw1 ▸ hT.step (below_alloc w _)
  rw [← hw1] at g1 hB ⊢
  clear hw1 he hz hT
  obtain ⟨R, hR⟩ : ∃ R, R = apG N es zs := ⟨_, rfl⟩
  have n1 := g1.n
  have e1 := g1.e
  have hb0 := Below.refl w1.heap.size w1
  have f1 : ∀ W : World, HeldA w1 w.heap.size N (.slice A es.length c) W → Calls Tryd.prog 35 #[.agg #[.int .i64 N, .slice A es.length c], .slice A2 zs.length c2] W fun e w' => e = .returned (.bool R) ∧ HeldA w1 w.heap.size N (.slice A es.length c) w' := fun W h => by
    refine (apart_any A c N es A2 c2 zs W (he1.step h.2.2) (hz1.step h.2.2) (hT1.step h.2.2)).mono ?_
    rintro e w' ⟨rfl, hb⟩
    rw [← hR]
    exact ⟨rfl, h.step hb⟩
  have f2 : ∀ W : World, HeldA w1 w.heap.size N (.slice A es.length c) W → Calls Tryd.prog 36 #[.agg #[.int .i64 N, .slice A es.length c], .slice A2 zs.length c2] W fun e w' => e = .returned (.bool R) ∧ HeldA w1 w.heap.size N (.slice A es.length c) w' := fun W h => by
    refine (capart_any A c N es A2 c2 zs W (he1.step h.2.2) (hz1.step h.2.2) hcap).mono ?_
    rintro e w' ⟨rfl, hb⟩
    rw [← hR]
    exact ⟨rfl, h.step hb⟩
  have F1 := Lib.hid f1
  have F2 := Lib.hid f2
  have hs := hB.size
  clear f1 f2 hR he1 hz1 hT1 g1
  go_region_held3 (HeldA w1 w.heap.size N (.slice A es.length c))
    (first
      | (go_split_ands; refine ⟨?_, ?_, ?_⟩ <;> assumption)
      | (go_split_ands; exact HeldA.drew ⟨‹_›, ‹_›, ‹_›⟩))
    (first
      | (go_at_call 35; refine (F1.out _ (by assumption)).mono ?_; rintro e w2 ⟨rfl, hq2⟩)
      | (go_at_call 36; refine (F2.out _ (by assumption)).mono ?_; rintro e w3 ⟨rfl, hq3⟩))
  all_goals
    go_wp2
    go_ret
    first
      | exact ⟨by simp, hB.trans (hq3.2.2.mono hs)⟩
      | exact ⟨by simp, hB.trans (hq2.2.2.mono hs)⟩
end Go.Proofs.YtaboafkpmgadmaaDoor

namespace Go.Proofs.YtaboafkpmgadmaaDoor

variable {f : Nat → Nat → Bool} {m : Nat} {B H : Nat → Option Nat} {T : Nat → Bool}

theorem cntB_congr {N : Nat} {p q : Nat → Bool} (h : ∀ n, n < N → p n = q n) : cntB N p = cntB N q := sumN_congr fun n hn => by rw [h n hn]
/-- as many are side by side as there are chains: no joining of fewer pairs leaves fewer chains -/
theorem Kon.le (hK : Kon f m B H T) (hS : So f m) {g : Nat → Nat → Bool} {B' H' : Nat → Option Nat} (hM : Mt g m B' H') (hS' : So g m) (hsub : ∀ a b, g a b = true → f a b = true) : cntB m (start B) ≤ cntB m (start B') := by
  rw [← hK.count hS, cntB_congr (q := fun a => decide (a < m) && lastU H T a) fun n hn => by simp [hn]]
  refine apart_le hM hS' _ fun a b ha hb => ?_
  simp only [Bool.and_eq_true, decide_eq_true_eq] at ha hb
  rw [← Bool.not_eq_true]
  intro hg
  have := hK.apart ha.1 ha.2 hb.2
  rw [hsub a b hg] at this
  cases this
theorem lastU_len (hK : Kon f m B H T) (hS : So f m) : ((List.range m).filter (lastU H T)).length = cntB m (start B) := by rw [cntB_filter, hK.count hS]
theorem CovL.len {N : Int} {es : List (Int × Int)} {L : List (List Int)} (h : CovL N es L) (hE : errn N es = 0) : ∃ B H T, Kon (fw (gR es) N.toNat) N.toNat B H T ∧ L = (cov B H N.toNat).map toI ∧ L.length = cntB N.toNat (start B) := by
  obtain ⟨B, H, T, hK, hL⟩ := h.2 hE
  exact ⟨B, H, T, hK, hL, by rw [hL, List.length_map, cov_len]⟩
theorem WidL.len {N : Int} {es : List (Int × Int)} {L : List Int} (h : WidL N es L) (hE : errn N es = 0) : ∃ B H T, Kon (fw (gR es) N.toNat) N.toNat B H T ∧ L = toI ((List.range N.toNat).filter (lastU H T)) ∧ L.length = cntB N.toNat (start B) := by
  obtain ⟨m, rfl, hin, hfull⟩ := errn_split hE
  obtain ⟨B, H, T, hK, hL⟩ := h.2 hE
  rw [Int.toNat_natCast] at hK hL ⊢
  exact ⟨B, H, T, hK, hL, by rw [hL, toI_len]; exact lastU_len hK (so_of hin hfull)⟩

abbrev es4 : List (Int × Int) := [(0, 2), (1, 2), (2, 3)]
theorem es4_err : errn 4 es4 = 0 := by decide +kernel
theorem es4_chn : chnG 4 es4 = [0, 2, 3] := by decide +kernel
theorem es4_cnt : cntV 4 es4 = 2 := by decide +kernel
theorem es4_cntE : cntE 4 es4 = 0 := by decide +kernel
theorem es4_hgt : hgtG 4 es4 = 3 := by decide +kernel
theorem es4_ap : apG 4 es4 [1, 0] = true := by decide +kernel
theorem es4_far : apG 4 es4 [1, 3] = false := by decide +kernel
theorem es4_two (hK : Kon (fw (gR es4) 4) 4 B H T) : cntB 4 (start B) = 2 := by
  obtain ⟨m, hm, hin, hfull⟩ := errn_split es4_err
  obtain rfl : m = 4 := by omega
  have hS := so_of hin hfull
  have h1 := apart_le hK.mt hS (fun a => decide (a < 2)) (fun a b ha hb => by
    have ha : a < 2 := of_decide_eq_true ha
    have hb : b < 2 := of_decide_eq_true hb
    have : ∀ x, x < 2 → ∀ y, y < 2 → fw (gR es4) 4 x y = false := by decide +kernel
    exact this a ha b hb)
  rw [show cntB 4 (fun a => decide (a < 2)) = 2 by decide] at h1
  have h2 : cntB 4 (start B) ≤ 2 := by
    rw [← hK.count hS]
    have key : ∀ a b, a < 4 → fw (gR es4) 4 a b = true → lastU H T a = true → lastU H T b = true → False := fun a b ha hf h3 h4 => by
      have := hK.apart ha h3 h4
      rw [hf] at this
      cases this
    have k02 := key 0 2 (by omega) (by decide +kernel)
    have k03 := key 0 3 (by omega) (by decide +kernel)
    have k12 := key 1 2 (by omega) (by decide +kernel)
    have k13 := key 1 3 (by omega) (by decide +kernel)
    have k23 := key 2 3 (by omega) (by decide +kernel)
    show 0 + (lastU H T 0).toNat + (lastU H T 1).toNat + (lastU H T 2).toNat + (lastU H T 3).toNat ≤ 2
    clear key h1
    revert k02 k03 k12 k13 k23
    cases lastU H T 0 <;> cases lastU H T 1 <;> cases lastU H T 2 <;> cases lastU H T 3 <;> intro k02 k03 k12 k13 k23 <;> first | decide | exact (k02 rfl rfl).elim | exact (k03 rfl rfl).elim | exact (k12 rfl rfl).elim | exact (k13 rfl rfl).elim | exact (k23 rfl rfl).elim
  omega
theorem es4_cov {L : List (List Int)} (h : CovL 4 es4 L) : L.length = 2 := by
  obtain ⟨B, H, T, hK, _, hl⟩ := h.len es4_err
  rw [hl]
  exact es4_two hK
theorem es4_wid {L : List Int} (h : WidL 4 es4 L) : L.length = 2 := by
  obtain ⟨B, H, T, hK, _, hl⟩ := h.len es4_err
  rw [hl]
  exact es4_two hK
end Go.Proofs.YtaboafkpmgadmaaDoor
