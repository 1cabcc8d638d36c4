/-
  What is left when some are done: the graph's edges among the others, and its longest chain. Plain mathematics.
  GreedyIdle: a round in which somebody is idle shortens the longest chain of what is left.
  Terms as trees: leaves, who is ahead, the two numberings. Plain mathematics; no condition.
  In how many ways two orders become one, odd parts and twos apart. Plain mathematics.
-/
import Derived.Test.YtipihchlhkjdjaaDoorPk17
import Derived.Test.YtipihchlhkjdjaaDoorPk15
import Derived.Test.YtipihchlhkjdjaaDoorPk19
import Derived.WalkKit
import Derived.Shelf.Spec.TrailingZeros
namespace Go.Proofs.YtipihchlhkjdjaaDoor

/-- the edges between those that are not done -/
def lftE (D : List Int) (es : List (Int × Int)) : List (Int × Int) := es.filter fun e => !decide (e.1 ∈ D) && !decide (e.2 ∈ D)
theorem lftE_zero (D : List Int) (es : List (Int × Int)) : lftE D (es.take 0) = [] := rfl
theorem lftE_succ {D : List Int} {es : List (Int × Int)} {k : Nat} (h : k < es.length) {a b : Int} (he : ed es k = (a, b)) : lftE D (es.take (k + 1)) = if (!decide (a ∈ D) && !decide (b ∈ D)) = true then lftE D (es.take k) ++ [(a, b)] else lftE D (es.take k) := by
  unfold lftE
  rw [take_ed es k h, List.filter_append, he]
  by_cases hc : (!decide (a ∈ D) && !decide (b ∈ D)) = true
  · rw [if_pos hc, List.filter_cons, if_pos hc, List.filter_nil]
  · rw [if_neg hc, List.filter_cons, if_neg hc, List.filter_nil, List.append_nil]
theorem lftE_len (D : List Int) (es : List (Int × Int)) : (lftE D es).length ≤ es.length := List.length_filter_le _ _
theorem lftE_take_len (D : List Int) (es : List (Int × Int)) (k : Nat) : (lftE D (es.take k)).length ≤ k := Nat.le_trans (lftE_len _ _) (by simp; omega)
theorem lftE_sub {D : List Int} {es : List (Int × Int)} {e : Int × Int} (h : e ∈ lftE D es) : e ∈ es := (List.mem_filter.1 h).1
theorem lftE_in {m : Nat} {es : List (Int × Int)} (hin : inR m es = true) (D : List Int) : inR m (lftE D es) = true := by
  unfold inR at hin ⊢
  rw [Bool.and_eq_true] at hin ⊢
  refine ⟨hin.1, ?_⟩
  rw [List.all_eq_true] at hin ⊢
  exact fun e he => hin.2 e (lftE_sub he)
theorem in_toI {d : List Nat} {a : Nat} : ((a : Int) ∈ toI d) ↔ a ∈ d := by
  unfold toI
  rw [List.mem_map]
  constructor
  · rintro ⟨b, hb, e⟩
    have : b = a := by omega
    exact this ▸ hb
  · exact fun h => ⟨a, h, rfl⟩
theorem gR_lft (d : List Nat) (es : List (Int × Int)) : gR (lftE (toI d) es) = left (gR es) d := by
  funext a b
  rw [Bool.eq_iff_iff, left_iff]
  unfold gR lftE
  rw [decide_eq_true_eq, decide_eq_true_eq, List.mem_filter]
  simp only [Bool.and_eq_true, Bool.not_eq_true', decide_eq_false_iff_not, in_toI]
theorem lftE_full {m : Nat} {es : List (Int × Int)} (hin : inR m es = true) (hfull : (ordr m es).length = m) (d : List Nat) : (ordr m (lftE (toI d) es)).length = m := by
  have h2 := lftE_in hin (toI d)
  have h3 := ordr_le m (lftE (toI d) es)
  false_or_by_contra
  rename_i hn
  obtain ⟨x, hx, hf⟩ := (loop_iff h2).1 (by omega)
  have hp := (fw_iff (gR_lt h2) x x).1 hf
  rw [gR_lft] at hp
  exact acyc hin hfull x (hp.congr fun _ _ h => (left_iff.1 h).1)
theorem lftE_hgt {m : Nat} {es : List (Int × Int)} (hin : inR m es = true) (hfull : (ordr m es).length = m) (d : List Nat) : hgtG m (lftE (toI d) es) = ((hgt (levR (left (gR es) d) m) m : Nat) : Int) := by
  have h2 := lftE_in hin (toI d)
  have h3 := lftE_full hin hfull d
  rw [hgtG_ok (errn_ok h2 h3)]
  have h4 := lvs_lev h2 h3
  rw [gR_lft] at h4
  rw [h4.uniq (left_lev (ordr_good m es) hfull (gR_lt hin) d)]
theorem lftE_bnd {es : List (Int × Int)} {lo hi : Int} (D : List Int) (h0 : lo ≤ 0) (h1 : 0 ≤ hi) (h : ∀ e ∈ es, lo ≤ e.1 ∧ e.1 ≤ hi ∧ lo ≤ e.2 ∧ e.2 ≤ hi) (k : Nat) : lo ≤ (ed (lftE D es) k).1 ∧ (ed (lftE D es) k).1 ≤ hi ∧ lo ≤ (ed (lftE D es) k).2 ∧ (ed (lftE D es) k).2 ≤ hi := by
  by_cases hk : k < (lftE D es).length
  · exact h _ (lftE_sub (ed_mem _ k hk))
  · unfold ed
    rw [List.getD_eq_getElem?_getD, List.getElem?_eq_none (by omega)]
    exact ⟨h0, h1, h0, h1⟩
/-- a round in which somebody is idle shortens what is left -/
theorem idle_less {m wn k : Nat} {es : List (Int × Int)} (hin : inR m es = true) (hfull : (ordr m es).length = m) (hw : 1 ≤ wn) (hk : k < grn (gR es) m wn) (hidle : (rnow (gR es) m wn (gdn (gR es) m wn k)).length < wn) :
    remH (gR es) m (gdn (gR es) m wn (k + 1)) < remH (gR es) m (gdn (gR es) m wn k) := by
  refine remH_all (ordr_good m es) hfull (gR_lt hin) ((grn_spec hw (acyc hin hfull) (R := gR es) (N := m)).2.1 k hk) fun x => ?_
  have hall : (rdyL (gR es) m (gdn (gR es) m wn k)).length ≤ wn := by
    unfold rnow at hidle
    rw [List.length_take] at hidle
    omega
  show x ∈ gdn (gR es) m wn k ++ rnow (gR es) m wn (gdn (gR es) m wn k) ↔ _
  rw [rnow_all hall, List.mem_append]
end Go.Proofs.YtipihchlhkjdjaaDoor

namespace Go.Proofs.YtipihchlhkjdjaaDoor
open Go.RowKit
set_option maxRecDepth 100000

set_option maxHeartbeats 4000000 in
theorem lftFn_any (B m : Nat) (A : Option Addr) (c : Nat) (es : List (Int × Int)) (A1 : Option Addr) (c1 : Nat) (zss : List (List Int)) (d : List Nat) (w : World)
    (g1 : GB 24 w B (m : Int) (.slice A es.length c)) (he : RdE w w.heap.size A es) (hT : Tab w) (hz : RdII w w.heap.size A1 zss) (hin : inR m es = true) (hfull : (ordr m es).length = m)
    (hft : ftk zss zss.length = toI d) (hpos : ∀ k, k < zss.length → 0 < (zss.getD k []).length) (hel : es.length ≤ 1048576) (hd : ∀ x, x ∈ d → x < m) (hdl : d.length ≤ m) :
    Calls Tryd.prog 15 #[.slice A1 zss.length c1, .pointer (some ⟨B, 0, none⟩)] w fun e w' => e = .returned (.int .i64 ((remH (gR es) m d : Nat) : Int)) ∧ Below w.heap.size w w' := by
  obtain ⟨i0, hi, hz0, hz1, hz2⟩ := info_parts Tryd.infoEd
  have hm : m ≤ 200 := by have := okN_of hin; omega
  have hC := Lib.hid (concat_any A1 c1 zss w hz (by rw [hft, toI_len]; omega) hpos)
  have HFT := Lib.hid hft
  have HIN := Lib.hid hin
  have HFU := Lib.hid hfull
  have HD := Lib.hid hd
  clear hz hft hpos hin hfull hd
  go_enter Tryd.func15, Tryd.ntmps15
  go_wp2_with fail
  refine hC.out.mono ?_
  rintro e w1 ⟨v, rfl, ho, hb⟩
  rw [HFT.out] at ho
  have hbd := zd_toI_bd d m HD.out
  obtain ⟨A4, c4, rfl, rI⟩ := own_rdI ho (fun k => by have := hbd k; omega) (fun k => by have := hbd k; omega) (by rw [toI_len]; omega)
  replace g1 := gb_step g1 hb
  replace he := he.step hb
  replace hT := hT.step hb
  have hB1 := hb
  have hs1 := hb.size
  obtain ⟨dl, hdl2⟩ : ∃ dl, dl = (toI d).length := ⟨_, rfl⟩
  have hdl3 : dl = d.length := by rw [hdl2, toI_len]
  rw [← hdl2]
  have n1 := g1.n
  have hga : GB 24 (w1.alloc (.cells #[.int .i64 (m : Int), .slice none 0 0] 24)) w1.heap.size (m : Int) (.slice none 0 0) := GB.new w1 24 (m : Int) (.slice none 0 0)
  have e1 := (gb_step g1 (below_alloc w1 (.cells #[.int .i64 (m : Int), .slice none 0 0] 24))).e
  have HDL := Lib.hid hdl2
  have HDL3 := Lib.hid hdl3
  have HHE := Lib.hid he
  have HG1 := Lib.hid g1
  have HHT := Lib.hid hT
  have HB1 := Lib.hid hB1
  have HRI := Lib.hid rI
  clear ho hb hdl2 hbd hdl3 he g1 hT hB1 rI
  go_wp2_with fail
  have hbA := below_alloc w1 (.cells #[.int .i64 (m : Int), .slice none 0 0] 24)
  obtain ⟨w2, hw2⟩ : ∃ w2, w2 = w1.alloc (.cells #[.int .i64 (m : Int), .slice none 0 0] 24) := ⟨_, rfl⟩
  rw [← hw2] at hga hbA e1 ⊢
  obtain ⟨H, hH⟩ : ∃ H, H = w1.heap.size := ⟨_, rfl⟩
  rw [← hH] at hga ⊢
  have HH := Lib.hid hH
  have HBA := Lib.hid hbA
  clear hw2 e1 n1 hH hbA
  go_loopw [18] (fun i wr => ∃ q : Nat, q ≤ es.length ∧ i = .int .i64 q ∧ CollG 24 36 H H (m : Int) (lftE (toI d) (es.take q)).length (eVals (lftE (toI d) (es.take q))) (fun _ => True) wr ∧ Below H w1 wr) (fun i _ => es.length - (RowKit.intOf i).toNat)
  case atStart => exact ⟨0, Nat.zero_le _, rfl, ⟨_, hga, World.ownsRow_nil _ _ _ _, trivial, fun _ _ => trivial⟩, by rw [HH.out]; exact HBA.out⟩
  case round =>
    obtain ⟨q, hq, rfl, hCo, hbr⟩ := hrel
    clear hga
    have hb1r : Below w1.heap.size w1 wr := by rw [← HH.out]; exact hbr
    have G := gb_step HG1.out hb1r
    have R := HHE.out.step hb1r
    have I := HRI.out.step hb1r
    by_cases hqt : q < es.length
    · obtain ⟨b, off, rfl, _, hc⟩ := R.rd (by omega)
      obtain ⟨ha1, ha2⟩ := hc q hqt
      clear hc
      obtain ⟨a, ha⟩ : ∃ a, (ed es q).1 = a := ⟨_, rfl⟩
      obtain ⟨z, hz⟩ : ∃ z, (ed es q).2 = z := ⟨_, rfl⟩
      have HS := Lib.hid (lftE_succ (D := toI d) hqt (a := a) (b := z) (by rw [← ha, ← hz]))
      rw [ha] at ha1
      rw [hz] at ha2
      have hE := EBox.new wr a z 36
      have hxx := hE.x
      have hyy := hE.y
      have hb4 := below_alloc wr (.cells #[.int .i64 a, .int .i64 z] 36)
      have I3 := I.step hb4
      have hB4 : Below H w1 (wr.alloc (.cells #[.int .i64 a, .int .i64 z] 36)) := hbr.alloc (by have := hbr.size; have := HH.out; omega) _
      obtain ⟨v, hv, hrow, _, _⟩ := hCo
      have hv4 : GB 24 (wr.alloc (.cells #[.int .i64 a, .int .i64 z] 36)) H (m : Int) v := gb_step hv hb4
      have hrow4 := hrow.alloc (.cells #[.int .i64 a, .int .i64 z] 36)
      have hDL := Lib.hid HDL.out
      have hsH : H ≤ (wr.alloc (.cells #[.int .i64 a, .int .i64 z] 36)).heap.size := by simp; have := hbr.size; have := HH.out; omega
      clear ha hz R I G hE hb1r hv hrow hb4
      by_cases hda : a ∈ toI d
      · have td : decide (a ∈ toI d) = true := decide_eq_true hda
        have e9 : lftE (toI d) (es.take (q + 1)) = lftE (toI d) (es.take q) := by rw [HS.out, if_neg (by rw [td]; simp)]
        have E9 := Lib.hid e9
        clear e9
        go_wp2_with (refine (contains_len A4 c4 dl (toI d) hDL.out.symm a _ I3).mono ?_; rintro e w' ⟨rfl, rfl⟩)
        go_roundw
        case rel => exact ⟨q + 1, by omega, by go_num, by rw [E9.out]; exact ⟨v, hv4, hrow4, trivial, fun _ _ => trivial⟩, hB4⟩
        case measure => simp [RowKit.intOf]; omega
      · have td : decide (a ∈ toI d) = false := decide_eq_false hda
        by_cases hdz : z ∈ toI d
        · have tz : decide (z ∈ toI d) = true := decide_eq_true hdz
          have e9 : lftE (toI d) (es.take (q + 1)) = lftE (toI d) (es.take q) := by rw [HS.out, if_neg (by rw [tz]; simp)]
          have E9 := Lib.hid e9
          clear e9
          go_wp2_with (first
            | (with_reducible refine (contains_len A4 c4 dl (toI d) hDL.out.symm a _ I3).mono ?_; rintro e w' ⟨rfl, rfl⟩)
            | (with_reducible refine (contains_len A4 c4 dl (toI d) hDL.out.symm z _ I3).mono ?_; rintro e w' ⟨rfl, rfl⟩))
          go_roundw
          case rel => exact ⟨q + 1, by omega, by go_num, by rw [E9.out]; exact ⟨v, hv4, hrow4, trivial, fun _ _ => trivial⟩, hB4⟩
          case measure => simp [RowKit.intOf]; omega
        · have tz : decide (z ∈ toI d) = false := decide_eq_false hdz
          have e9 : lftE (toI d) (es.take (q + 1)) = lftE (toI d) (es.take q) ++ [(a, z)] := by rw [HS.out, if_pos (by rw [td, tz]; rfl)]
          obtain ⟨LL, hLL⟩ : ∃ LL, LL = lftE (toI d) (es.take q) := ⟨_, rfl⟩
          have hlen : LL.length ≤ 1048576 := by rw [hLL]; have := lftE_take_len (toI d) es q; omega
          rw [← hLL] at hrow4 e9
          have HEL := Lib.hid e9
          obtain ⟨w3, hw3⟩ : ∃ w3, w3 = wr.alloc (.cells #[.int .i64 a, .int .i64 z] 36) := ⟨_, rfl⟩
          obtain ⟨BE, hBE⟩ : ∃ BE, BE = wr.heap.size := ⟨_, rfl⟩
          have hce := hv4.e
          have hp1 : LL.length + 1 ≤ maxLen := by unfold maxLen; omega
          have hp2 : (LL.length + 1) * 16 ≤ 140737488355328 := by omega
          have hsz3 : w3.heap.size = wr.heap.size + 1 := by rw [hw3]; simp
          rw [← hw3] at hv4 hrow4 hsH hB4 hxx hyy I3 hce
          rw [← hBE] at hxx hyy
          have hp3 : H ≤ (w3.alloc (.cells #[.int .i64 a, .int .i64 z] 36)).heap.size := by simp; omega
          have HW3 := Lib.hid hw3
          clear e9 hLL hlen hbr hsz3
          rw [hw3] at hxx hyy hce I3
          rw [hBE] at hxx hyy
          clear hw3 hBE
          go_upto_region 7 with (first
            | (with_reducible refine (contains_len A4 c4 dl (toI d) hDL.out.symm a _ I3).mono ?_; rintro e w' ⟨rfl, rfl⟩)
            | (with_reducible refine (contains_len A4 c4 dl (toI d) hDL.out.symm z _ I3).mono ?_; rintro e w' ⟨rfl, rfl⟩))
          rw [← HW3.out] at hxx hyy hce ⊢
          go_wp2_with (at_builtin; go_loud (refine wpList_append_own_at _ rfl _ _ 22 rfl H 36 i0 (.agg #[.int .i64 0, .int .i64 0]) 2 16 Tryd.underlying22 hi hz0 hz1 hz2 rfl (by decide) _ _ _ rfl (hrow4.alloc _) ⟨w3.heap.size, 0, none⟩ 1 1 [.int .i64 a, .int .i64 z] rfl rfl (cell_two_new _ _ _ _) (by simp [Value.oneCell']) hp1 hp2 hp3 ?_; intro v' w9 hown' hgrow _ hat; obtain ⟨g', cap', rfl⟩ := ownsRow_succ hown'; have hcs := Lib.hid (CollG.step hv4 (by decide) hrow4 hsH (Nat.le_refl _) trivial (fun _ _ => trivial) hown' hgrow hat); have hv1 : GB 24 w9 H m v := (hv4.alloc _).kept hgrow (hv4.not_row (by decide) hrow4); have hc9 := hv1.e; have hf9 := hv1.frozen 1; clear hown' hgrow hat hv1))
          go_roundw
          case rel =>
            obtain ⟨q1, _, q3⟩ := hcs.out
            refine ⟨q + 1, by omega, by go_num, ?_, hB4.trans q3⟩
            rw [HEL.out, eVals_snoc, List.length_append]
            exact q1.mono fun _ _ => trivial
          case measure => simp [RowKit.intOf]; omega
    · obtain rfl : q = es.length := by omega
      rw [List.take_length] at hCo
      obtain ⟨v, hv, hrow, _, _⟩ := hCo
      obtain ⟨A7, c7, rfl⟩ := own_any2 hrow
      have hbE : ∀ e ∈ es, -9223372036854775808 ≤ e.1 ∧ e.1 ≤ 9223372036854775807 ∧ -9223372036854775808 ≤ e.2 ∧ e.2 ≤ 9223372036854775807 := fun e hem => by
        obtain ⟨a, z⟩ := e
        have := edge_in HIN.out hem
        dsimp only
        omega
      have hbk := lftE_bnd (toI d) (by decide) (by decide) hbE
      have hR7 := own_rdE hrow (fun k => (hbk k).1) (fun k => (hbk k).2.1) (fun k => (hbk k).2.2.1) (fun k => (hbk k).2.2.2) (by have := lftE_len (toI d) es; omega)
      have hTr := HHT.out.step hb1r
      have hh := heightG_any A7 c7 (m : Int) (lftE (toI d) es) wr hR7 hTr
      rw [lftE_hgt HIN.out HFU.out d, errn_ok (lftE_in HIN.out (toI d)) (lftE_full HIN.out HFU.out d)] at hh
      have HHh := Lib.hid hh
      have ge := hv.e
      have gn := hv.n
      have hgn2 := G.n
      obtain ⟨ht, hht⟩ : ∃ ht, ht = hgt (levR (left (gR es) d) m) m := ⟨_, rfl⟩
      rw [← hht] at HHh
      have hrem : remH (gR es) m d = if m ≤ d.length then 0 else ht := by rw [hht]; rfl
      have HREM := Lib.hid hrem
      have HBR := Lib.hid hb1r
      have HGG := Lib.hid G
      clear hR7 hh hbk hbE hTr hrow hv G R I hbr hht hrem
      go_wp2_with fail
      refine HHh.out.mono ?_
      rintro e w5 ⟨rfl, hb5⟩
      have hn5 := (gb_step HGG.out hb5).n
      have hfin : Below w.heap.size w w5 := HB1.out.trans ((HBR.out.trans (hb5.mono HBR.out.size)).mono HB1.out.size)
      have hd3 := HDL3.out
      by_cases hdm : dl = m
      · have hrem0 : remH (gR es) m d = 0 := by rw [HREM.out, if_pos (by omega)]
        have HR0 := Lib.hid hrem0
        clear hrem0
        subst hdm
        clear hb5 ge gn hgn2 hd3
        go_wp2_with fail
        go_ret
        rw [HR0.out]
        exact ⟨rfl, hfin⟩
      · have hrem0 : remH (gR es) m d = ht := by rw [HREM.out, if_neg (by omega)]
        have HR0 := Lib.hid hrem0
        have hdm2 : ¬ ((dl : Int) = (m : Int)) := by omega
        have hdm3 : ((dl : Int) == (m : Int)) = false := beq_eq_false_iff_ne.2 hdm2
        clear hb5 ge gn hgn2 hd3 hrem0
        go_wp2_with fail
        go_ret
        rw [HR0.out]
        exact ⟨rfl, hfin⟩

/-- the first k lists -/
theorem RdII.first {w : World} {B : Nat} {A : Option Addr} {zss : List (List Int)} (h : RdII w B A zss) (k : Nat) : RdII w B A (zss.take k) := by
  obtain ⟨h1, a, c, h2, h3⟩ := h
  have hg : ∀ j, j < (zss.take k).length → (zss.take k).getD j [] = zss.getD j [] := fun j hj => by
    rw [List.length_take] at hj
    rw [List.getD_eq_getElem?_getD, List.getD_eq_getElem?_getD, List.getElem?_take, if_pos (by omega)]
  have hl : (zss.take k).length ≤ zss.length := by rw [List.length_take]; omega
  refine ⟨by omega, a, c, fun hn => ?_, fun j hj => by rw [hg j hj]; exact h3 j (by omega)⟩
  obtain ⟨b, off, hA, hb, hc⟩ := h2 (by omega)
  exact ⟨b, off, hA, hb, fun j hj => by dsimp only; rw [hg j hj]; exact hc j (by omega)⟩
theorem rds_take (R : Nat → Nat → Bool) (N w : Nat) {k r : Nat} (h : k ≤ r) : (rds R N w r).take k = rds R N w k := by
  unfold rds
  rw [← List.map_take, List.take_range, Nat.min_eq_left h]
@[reducible] def SI (w6 : World) (D : Nat) (W : World) : Prop := Below D w6 W ∧ D ≤ W.heap.size

set_option maxHeartbeats 4000000 in
theorem idleLaw_any (A : Option Addr) (c : Nat) (N : Int) (es : List (Int × Int)) (wk kk : Int) (w : World) (he : RdE w w.heap.size A es) (hel : es.length ≤ 1048576) (hT : Tab w) :
    Calls Tryd.prog 6 #[.agg #[.int .i64 N, .slice A es.length c], .int .i64 wk, .int .i64 kk] w fun e w' => e = .returned (.bool true) ∧ Below w.heap.size w w' := by
  go_enter Tryd.func6, Tryd.ntmps6
  go_wp2_with fail
  have g1 : GB 24 (w.alloc (.cells #[.int .i64 N, .slice A es.length c] 24)) w.heap.size N (.slice A es.length c) := GB.new w 24 N (.slice A es.length c)
  have hB := below_alloc w (.cells #[.int .i64 N, .slice A es.length c] 24)
  obtain ⟨w1, hw1⟩ : ∃ w1, w1 = w.alloc (.cells #[.int .i64 N, .slice A es.length c] 24) := ⟨_, rfl⟩
  rw [← hw1] at g1 hB ⊢
  have hs := hB.size
  replace he := he.step hB
  replace hT := hT.step hB
  clear hw1
  refine (alive6_any _ hT).mono ?_
  rintro e w2 ⟨rfl, hb⟩
  replace g1 := gb_step g1 hb
  replace he := he.step hb
  replace hT := hT.step hb
  replace hB := below_step hB hs hb
  replace hs := hB.size
  clear hb
  have n1 := g1.n
  have e1 := g1.e
  go_wp2_with fail
  clear n1 e1
  by_cases hE : rndE N es wk = 0
  · obtain ⟨m, wn, rfl, rfl, hw2, hw3, hm, hE2, hin, hfull, hL⟩ := rnd_ok hE
    have hrm := (grn_spec hw2 (acyc hin hfull) (R := gR es) (N := m)).2.2
    obtain ⟨r, hr⟩ : ∃ r, r = grn (gR es) m wn := ⟨_, rfl⟩
    obtain ⟨zss, hz⟩ : ∃ zss, zss = rds (gR es) m wn r := ⟨_, rfl⟩
    have hzl : zss.length = r := by rw [hz, rds_len]
    rw [← hr] at hrm hL
    have f1 := rounds_cap A c m es wn w2 he hT
    rw [hL, hE, ← hz, hzl] at f1
    have HF1 := Lib.hid f1
    have HZ := Lib.hid hz
    have HZL := Lib.hid hzl
    have HIN := Lib.hid hin
    have HFU := Lib.hid hfull
    have HR := Lib.hid hr
    clear hE hE2 hin hfull hL hr hz hzl f1
    refine HF1.out.mono ?_
    rintro e w3 ⟨A3, c3, rfl, l3, hb, hcap⟩
    replace g1 := gb_step g1 hb
    replace he := he.step hb
    replace hT := hT.step hb
    replace hB := below_step hB hs hb
    replace hs := hB.size
    clear hb HF1
    have HB := Lib.hid hB
    by_cases hk0 : kk < 0
    · clear hB g1 he hT hs l3 hcap
      go_wp2_with fail
      go_ret
      exact ⟨rfl, HB.out⟩
    · obtain ⟨k, rfl⟩ : ∃ k : Nat, kk = (k : Int) := ⟨kk.toNat, by omega⟩
      by_cases hkr : k < r
      · have hkr2 : ¬ ((r : Int) ≤ (k : Int)) := by omega
        have hkr3 : (k : Int) < (r : Int) := by omega
        have hkr4 : (0 : Int) ≤ (k : Int) := by omega
        obtain ⟨b, off, A4, c4, rfl, hbl, hc4, r4⟩ := l3.at_ (k := k) (by rw [HZL.out]; exact hkr)
        have hgz : zss.getD k [] = toI (rnow (gR es) m wn (gdn (gR es) m wn k)) := by rw [HZ.out]; exact rds_at hkr
        obtain ⟨nl, hnl⟩ : ∃ nl, nl = (zss.getD k []).length := ⟨_, rfl⟩
        rw [← hnl] at hc4
        have hnl2 : nl = (rnow (gR es) m wn (gdn (gR es) m wn k)).length := by rw [hnl, hgz, toI_len]
        have HNL := Lib.hid hnl2
        clear hnl hgz r4 hnl2
        by_cases hid : nl < wn
        · have hid2 : ¬ ((wn : Int) ≤ (nl : Int)) := by omega
          have hless := idle_less HIN.out HFU.out hw2 (by rw [← HR.out]; exact hkr) (by rw [← HNL.out]; exact hid)
          have hgood : ∀ q, Good (gR es) m (gdn (gR es) m wn q) := gdn_good _ _ _
          have hpos : ∀ q, q ≤ r → ∀ j, j < (zss.take q).length → 0 < ((zss.take q).getD j []).length := fun q hq j hj => by
            rw [HZ.out, rds_take _ _ _ hq] at hj ⊢
            rw [rds_len] at hj
            rw [rds_at hj, toI_len]
            exact rnow_pos hw2 (acyc HIN.out HFU.out) ((grn_spec hw2 (acyc HIN.out HFU.out) (R := gR es) (N := m)).2.1 j (by rw [← HR.out]; omega))
          have hfl : ∀ q, q ≤ r → ftk (zss.take q) (zss.take q).length = toI (gdn (gR es) m wn q) := fun q hq => by rw [ftk_all, HZ.out, rds_take _ _ _ hq, rds_flat]
          have htl : ∀ q, q ≤ r → (zss.take q).length = q := fun q hq => by rw [List.length_take, HZL.out]; omega
          have HC : ∀ q, q ≤ r → ∀ W, Below w3.heap.size w3 W → Calls Tryd.prog 15 #[.slice (some ⟨b, off, none⟩) q c3, .pointer (some ⟨w.heap.size, 0, none⟩)] W fun e w' => e = .returned (.int .i64 ((remH (gR es) m (gdn (gR es) m wn q) : Nat) : Int)) ∧ Below W.heap.size W w' := fun q hq W hW => by
            have h := lftFn_any w.heap.size m A c es (some ⟨b, off, none⟩) c3 (zss.take q) (gdn (gR es) m wn q) W (gb_step g1 hW) (he.step hW) (hT.step hW) ((l3.step hW).first q) HIN.out HFU.out (hfl q hq) (hpos q hq) hel (hgood q).lt (hgood q).len
            rw [htl q hq] at h
            exact h
          obtain ⟨x1, hx1⟩ : ∃ x1, x1 = remH (gR es) m (gdn (gR es) m wn (k + 1)) := ⟨_, rfl⟩
          obtain ⟨x0, hx0⟩ : ∃ x0, x0 = remH (gR es) m (gdn (gR es) m wn k) := ⟨_, rfl⟩
          have HC1 := HC (k + 1) (by omega)
          have HC0 := HC k (by omega)
          rw [← hx1] at HC1 hless
          rw [← hx0] at HC0 hless
          obtain ⟨D, hD⟩ : ∃ D, D = w3.heap.size := ⟨_, rfl⟩
          rw [← hD] at HC1 HC0
          have H1 := Lib.hid HC1
          have H0 := Lib.hid HC0
          have HS : Hid (∀ W, Below D w3 W → SI w3 D W) := Lib.hid fun W hW => ⟨hW, by rw [hD]; exact hW.size⟩
          have z0 := HS.out w3 (Below.refl _ _)
          have hcap2 : (r : Int) ≤ (c3 : Int) := by omega
          have hk1 : IntKind.i64.wrap ((k : Int) + 1) = (k : Int) + 1 := by rw [IntKind.wrap_i64]; omega
          have hk2 : (0 : Int) ≤ (k : Int) + 1 := by omega
          have hk3 : (k : Int) + 1 ≤ (c3 : Int) := by omega
          have hk4 : (k : Int) ≤ (c3 : Int) := by omega
          have hk5 : ((k : Int) + 1).toNat = k + 1 := by omega
          have HDS : Hid (w.heap.size ≤ D) := Lib.hid (by rw [hD]; exact hs)
          clear hB g1 he hT hs l3 HC HC1 HC0 hpos hfl htl hgood hx1 hx0 hD
          go_wp2_with fail
          obtain ⟨z1, z2⟩ := z0
          go_region_held3 (SI w3 D)
            (first
              | (go_split_ands; refine ⟨?_, ?_⟩ <;> assumption)
              | (go_split_ands; exact HS.out _ (by first | assumption | (refine Below.drew ?_; assumption))))
            (first
              | (go_split_ands; with_reducible refine (H1.out _ (by assumption)).mono ?_; rintro e w7 ⟨rfl, hb7⟩; obtain ⟨y0, y1⟩ := HS.out w7 (Below.trans (by assumption) (hb7.mono (by assumption))))
              | (go_split_ands; with_reducible refine (H0.out _ (by assumption)).mono ?_; rintro e w8 ⟨rfl, hb8⟩; obtain ⟨x4, x5⟩ := HS.out w8 (Below.trans (by assumption) (hb8.mono (by assumption))))
              | fail)
          all_goals
            have hbf := HB.out.trans (Below.mono (show Below D w3 _ by first | exact x4 | exact y0 | assumption) HDS.out)
            go_wp2_with fail
            go_ret
            exact ⟨rfl, hbf⟩
        · have hid2 : ((wn : Int) ≤ (nl : Int)) := by omega
          clear hB g1 he hT hs l3 hcap
          go_wp2_with fail
          go_ret
          exact ⟨rfl, HB.out⟩
      · have hkr2 : ((r : Int) ≤ (k : Int)) := by omega
        clear hB g1 he hT hs l3 hcap
        go_wp2_with fail
        go_ret
        exact ⟨rfl, HB.out⟩
  · have f1 := rounds_any A c N es wk w2 he hT
    obtain ⟨E, hEE⟩ : ∃ E, E = rndE N es wk := ⟨_, rfl⟩
    have hb0 : (E != 0) = true := by rw [hEE]; simpa using hE
    rw [← hEE] at f1
    refine f1.mono ?_
    rintro e w3 ⟨A3, c3, rfl, _, hb⟩
    replace hB := below_step hB hs hb
    have HBB := Lib.hid hB
    clear hE hEE hb f1 hB g1 he hT hs
    go_wp2_with fail
    go_ret
    exact ⟨rfl, HBB.out⟩
end Go.Proofs.YtipihchlhkjdjaaDoor

namespace Go.Proofs.YtipihchlhkjdjaaDoor

/-- cell, write, label -/
abbrev Acc := Int × Bool × Int

inductive Tm where
  | nil
  | one (a : Acc)
  | seq (l r : Tm)
  | par (l r : Tm)

def Tm.lv : Tm → List Acc
  | .nil => []
  | .one a => [a]
  | .seq l r => l.lv ++ r.lv
  | .par l r => l.lv ++ r.lv

def Tm.sz : Tm → Nat
  | .nil => 0
  | .one _ => 1
  | .seq l r => l.sz + r.sz
  | .par l r => l.sz + r.sz

theorem Tm.lv_len (T : Tm) : T.lv.length = T.sz := by
  induction T with
  | nil => rfl
  | one a => rfl
  | seq l r il ir => simp [Tm.lv, Tm.sz, il, ir]
  | par l r il ir => simp [Tm.lv, Tm.sz, il, ir]

/-- leaf i is ahead of leaf j -/
def Tm.bef : Tm → Int → Int → Bool
  | .nil, _, _ => false
  | .one _, _, _ => false
  | .seq l r, i, j => (decide (0 ≤ i) && decide (i < l.sz) && decide ((l.sz : Int) ≤ j) && decide (j < l.sz + r.sz)) || l.bef i j || r.bef (i - l.sz) (j - l.sz)
  | .par l r, i, j => l.bef i j || r.bef (i - l.sz) (j - l.sz)

theorem Tm.bef_lt (T : Tm) : ∀ i j, T.bef i j = true → 0 ≤ i ∧ i < j ∧ j < T.sz := by
  induction T with
  | nil => intro i j h; simp [Tm.bef] at h
  | one a => intro i j h; simp [Tm.bef] at h
  | seq l r il ir =>
    intro i j h
    simp only [Tm.bef, Bool.or_eq_true, Bool.and_eq_true, decide_eq_true_eq, Tm.sz] at h ⊢
    rcases h with (h | h) | h
    · omega
    · have := il _ _ h; omega
    · have := ir _ _ h; omega
  | par l r il ir =>
    intro i j h
    simp only [Tm.bef, Bool.or_eq_true, Tm.sz] at h ⊢
    rcases h with h | h
    · have := il _ _ h; omega
    · have := ir _ _ h; omega

theorem Tm.bef_out (T : Tm) (i j : Int) (h : i < 0 ∨ j < 0 ∨ (T.sz : Int) ≤ i ∨ (T.sz : Int) ≤ j ∨ j ≤ i) : T.bef i j = false := by
  cases hb : T.bef i j with
  | false => rfl
  | true => have := T.bef_lt _ _ hb; omega

theorem Tm.seq_cross (l r : Tm) (i j : Int) (h0 : 0 ≤ i) (h1 : i < l.sz) (h2 : (l.sz : Int) ≤ j) (h3 : j < l.sz + r.sz) : (Tm.seq l r).bef i j = true := by
  simp [Tm.bef, h0, h1, h2, h3]
theorem Tm.seq_left (l r : Tm) (i j : Int) (h : i < l.sz) (h1 : j < l.sz) : (Tm.seq l r).bef i j = l.bef i j := by
  have := r.bef_out (i - l.sz) (j - l.sz) (by omega)
  simp only [Tm.bef, this, Bool.or_false]
  rw [decide_eq_false (show ¬ ((l.sz : Int) ≤ j) by omega)]
  simp
theorem Tm.seq_right (l r : Tm) (i j : Int) (h : (l.sz : Int) ≤ i) (_h1 : (l.sz : Int) ≤ j) : (Tm.seq l r).bef i j = r.bef (i - l.sz) (j - l.sz) := by
  have := l.bef_out i j (by omega)
  simp only [Tm.bef, this, Bool.or_false]
  rw [decide_eq_false (show ¬ (i < l.sz) by omega)]
  simp
theorem Tm.par_left (l r : Tm) (i j : Int) (h : i < l.sz) (_h1 : j < l.sz) : (Tm.par l r).bef i j = l.bef i j := by
  have := r.bef_out (i - l.sz) (j - l.sz) (by omega)
  simp only [Tm.bef, this, Bool.or_false]
theorem Tm.par_right (l r : Tm) (i j : Int) (h : (l.sz : Int) ≤ i) (_h1 : (l.sz : Int) ≤ j) : (Tm.par l r).bef i j = r.bef (i - l.sz) (j - l.sz) := by
  have := l.bef_out i j (by omega)
  simp only [Tm.bef, this, Bool.false_or]
theorem Tm.par_cross (l r : Tm) (i j : Int) (h : i < l.sz) (h1 : (l.sz : Int) ≤ j) : (Tm.par l r).bef i j = false := by
  have h2 := l.bef_out i j (by omega)
  have h3 := r.bef_out (i - l.sz) (j - l.sz) (by omega)
  simp only [Tm.bef, h2, h3, Bool.false_or]
theorem Tm.seq_back (l r : Tm) (i j : Int) (h : (l.sz : Int) ≤ i) (h1 : j < l.sz) : (Tm.seq l r).bef i j = false :=
  (Tm.seq l r).bef_out i j (by omega)
theorem Tm.par_back (l r : Tm) (i j : Int) (h : (l.sz : Int) ≤ i) (h1 : j < l.sz) : (Tm.par l r).bef i j = false :=
  (Tm.par l r).bef_out i j (by omega)

theorem Tm.bef_trans (T : Tm) : ∀ i j k, T.bef i j = true → T.bef j k = true → T.bef i k = true := by
  induction T with
  | nil => intro i j k h; simp [Tm.bef] at h
  | one a => intro i j k h; simp [Tm.bef] at h
  | seq l r il ir =>
    intro i j k h1 h2
    have b1 := Tm.bef_lt _ _ _ h1
    have b2 := Tm.bef_lt _ _ _ h2
    simp only [Tm.sz] at b1 b2
    by_cases hi : i < l.sz
    · by_cases hk : k < l.sz
      · rw [Tm.seq_left l r _ _ (by omega) (by omega)] at h1 h2 ⊢
        exact il _ _ _ h1 h2
      · exact Tm.seq_cross l r i k (by omega) hi (by omega) (by omega)
    · rw [Tm.seq_right l r _ _ (by omega) (by omega)] at h1 h2 ⊢
      exact ir _ _ _ h1 h2
  | par l r il ir =>
    intro i j k h1 h2
    have b1 := Tm.bef_lt _ _ _ h1
    have b2 := Tm.bef_lt _ _ _ h2
    simp only [Tm.sz] at b1 b2
    by_cases hi : i < l.sz
    · by_cases hj : j < l.sz
      · by_cases hk : k < l.sz
        · rw [Tm.par_left l r _ _ (by omega) (by omega)] at h1 h2 ⊢
          exact il _ _ _ h1 h2
        · rw [Tm.par_cross l r j k (by omega) (by omega)] at h2; cases h2
      · rw [Tm.par_cross l r i j (by omega) (by omega)] at h1; cases h1
    · rw [Tm.par_right l r _ _ (by omega) (by omega)] at h1 h2 ⊢
      exact ir _ _ _ h1 h2

/-- two leaves are side by side -/
def Tm.apart (T : Tm) (x y : Int) : Prop := x ≠ y ∧ T.bef x y = false ∧ T.bef y x = false

theorem Tm.noN (T : Tm) : ∀ a b c d : Int, 0 ≤ b → b < T.sz → 0 ≤ c → c < T.sz → T.bef a c = true → T.bef a d = true → T.bef b d = true → T.apart a b → T.apart c d → T.apart b c → False := by
  induction T with
  | nil => intro a b c d _ _ _ _ h; simp [Tm.bef] at h
  | one a => intro a b c d _ _ _ _ h; simp [Tm.bef] at h
  | seq l r il ir =>
    intro a b c d hb0 hb1 hc0 hc1 h1 h2 h3 hab hcd hbc
    have b1 := Tm.bef_lt _ _ _ h1
    have b2 := Tm.bef_lt _ _ _ h2
    have b3 := Tm.bef_lt _ _ _ h3
    simp only [Tm.sz] at b1 b2 b3 hb1 hc1
    have same : ∀ x y : Int, 0 ≤ x → x < l.sz + r.sz → 0 ≤ y → y < l.sz + r.sz → (Tm.seq l r).apart x y → (x < l.sz ∧ y < l.sz) ∨ ((l.sz : Int) ≤ x ∧ (l.sz : Int) ≤ y) := fun x y x0 x1 y0 y1 h => by
      obtain ⟨_, p, q⟩ := h
      by_cases hx : x < l.sz
      · by_cases hy : y < l.sz
        · exact .inl ⟨hx, hy⟩
        · rw [Tm.seq_cross l r x y x0 hx (by omega) y1] at p; cases p
      · by_cases hy : y < l.sz
        · rw [Tm.seq_cross l r y x y0 hy (by omega) x1] at q; cases q
        · exact .inr ⟨by omega, by omega⟩
    have s1 := same a b (by omega) (by omega) hb0 (by omega) hab
    have s2 := same c d hc0 (by omega) (by omega) (by omega) hcd
    have s3 := same b c hb0 (by omega) hc0 (by omega) hbc
    by_cases ha : a < l.sz
    · have ab : (Tm.seq l r).apart a b → l.apart a b := fun ⟨x, y, z⟩ => ⟨x, by rwa [Tm.seq_left l r _ _ (by omega) (by omega)] at y, by rwa [Tm.seq_left l r _ _ (by omega) (by omega)] at z⟩
      have cd : (Tm.seq l r).apart c d → l.apart c d := fun ⟨x, y, z⟩ => ⟨x, by rwa [Tm.seq_left l r _ _ (by omega) (by omega)] at y, by rwa [Tm.seq_left l r _ _ (by omega) (by omega)] at z⟩
      have bc : (Tm.seq l r).apart b c → l.apart b c := fun ⟨x, y, z⟩ => ⟨x, by rwa [Tm.seq_left l r _ _ (by omega) (by omega)] at y, by rwa [Tm.seq_left l r _ _ (by omega) (by omega)] at z⟩
      rw [Tm.seq_left l r _ _ (by omega) (by omega)] at h1 h2 h3
      exact il a b c d (by omega) (by omega) (by omega) (by omega) h1 h2 h3 (ab hab) (cd hcd) (bc hbc)
    · have tr : ∀ x y : Int, (l.sz : Int) ≤ x → (l.sz : Int) ≤ y → (Tm.seq l r).apart x y → r.apart (x - l.sz) (y - l.sz) := fun x y hx hy ⟨p, q, s⟩ =>
        ⟨by omega, by rwa [Tm.seq_right l r _ _ hx hy] at q, by rwa [Tm.seq_right l r _ _ hy hx] at s⟩
      rw [Tm.seq_right l r _ _ (by omega) (by omega)] at h1 h2 h3
      exact ir _ _ _ _ (by omega) (by omega) (by omega) (by omega) h1 h2 h3 (tr _ _ (by omega) (by omega) hab) (tr _ _ (by omega) (by omega) hcd) (tr _ _ (by omega) (by omega) hbc)
  | par l r il ir =>
    intro a b c d hb0 hb1 hc0 hc1 h1 h2 h3 hab hcd hbc
    have b1 := Tm.bef_lt _ _ _ h1
    have b2 := Tm.bef_lt _ _ _ h2
    have b3 := Tm.bef_lt _ _ _ h3
    simp only [Tm.sz] at b1 b2 b3 hb1 hc1
    have same : ∀ x y : Int, x < y → (Tm.par l r).bef x y = true → (x < l.sz ∧ y < l.sz) ∨ ((l.sz : Int) ≤ x ∧ (l.sz : Int) ≤ y) := fun x y hlt h => by
      by_cases hx : x < l.sz
      · by_cases hy : y < l.sz
        · exact .inl ⟨hx, hy⟩
        · rw [Tm.par_cross l r x y hx (by omega)] at h; cases h
      · exact .inr ⟨by omega, by omega⟩
    have s1 := same a c (by omega) h1
    have s2 := same a d (by omega) h2
    have s3 := same b d (by omega) h3
    have tl : ∀ x y : Int, x < l.sz → y < l.sz → (Tm.par l r).apart x y → l.apart x y := fun x y hx hy ⟨p, q, s⟩ =>
      ⟨p, by rwa [Tm.par_left l r _ _ hx hy] at q, by rwa [Tm.par_left l r _ _ hy hx] at s⟩
    have tr : ∀ x y : Int, (l.sz : Int) ≤ x → (l.sz : Int) ≤ y → (Tm.par l r).apart x y → r.apart (x - l.sz) (y - l.sz) := fun x y hx hy ⟨p, q, s⟩ =>
      ⟨by omega, by rwa [Tm.par_right l r _ _ hx hy] at q, by rwa [Tm.par_right l r _ _ hy hx] at s⟩
    by_cases ha : a < l.sz
    · rw [Tm.par_left l r _ _ (by omega) (by omega)] at h1 h2 h3
      exact il a b c d (by omega) (by omega) (by omega) (by omega) h1 h2 h3 (tl _ _ (by omega) (by omega) hab) (tl _ _ (by omega) (by omega) hcd) (tl _ _ (by omega) (by omega) hbc)
    · rw [Tm.par_right l r _ _ (by omega) (by omega)] at h1 h2 h3
      exact ir _ _ _ _ (by omega) (by omega) (by omega) (by omega) h1 h2 h3 (tr _ _ (by omega) (by omega) hab) (tr _ _ (by omega) (by omega) hcd) (tr _ _ (by omega) (by omega) hbc)

/-- the place of leaf k where right kids come first side by side -/
def Tm.pos : Tm → Int → Int
  | .nil, _ => 0
  | .one _, _ => 0
  | .seq l r, k => if k < l.sz then l.pos k else l.sz + r.pos (k - l.sz)
  | .par l r, k => if k < l.sz then r.sz + l.pos k else r.pos (k - l.sz)

theorem Tm.pos_lt (T : Tm) : ∀ k : Int, 0 ≤ k → k < T.sz → 0 ≤ T.pos k ∧ T.pos k < T.sz := by
  induction T with
  | nil => intro k h0 h1; simp only [Tm.sz] at h1; omega
  | one a => intro k h0 h1; simp [Tm.pos, Tm.sz]
  | seq l r il ir =>
    intro k h0 h1
    simp only [Tm.sz] at h1
    simp only [Tm.pos, Tm.sz]
    split
    · have := il k h0 (by assumption); omega
    · have := ir (k - l.sz) (by omega) (by omega); omega
  | par l r il ir =>
    intro k h0 h1
    simp only [Tm.sz] at h1
    simp only [Tm.pos, Tm.sz]
    split
    · have := il k h0 (by assumption); omega
    · have := ir (k - l.sz) (by omega) (by omega); omega

theorem Tm.pos_inj (T : Tm) : ∀ i j : Int, 0 ≤ i → i < T.sz → 0 ≤ j → j < T.sz → T.pos i = T.pos j → i = j := by
  induction T with
  | nil => intro i j h0 h1; simp only [Tm.sz] at h1; omega
  | one a => intro i j h0 h1 h2 h3 _; simp only [Tm.sz] at h1 h3; omega
  | seq l r il ir =>
    intro i j h0 h1 h2 h3 h
    simp only [Tm.sz] at h1 h3
    simp only [Tm.pos] at h
    by_cases hi : i < l.sz
    · by_cases hj : j < l.sz
      · rw [if_pos hi, if_pos hj] at h; exact il _ _ h0 hi h2 hj h
      · rw [if_pos hi, if_neg hj] at h
        have := l.pos_lt i h0 hi; have := r.pos_lt (j - l.sz) (by omega) (by omega); omega
    · by_cases hj : j < l.sz
      · rw [if_neg hi, if_pos hj] at h
        have := l.pos_lt j h2 hj; have := r.pos_lt (i - l.sz) (by omega) (by omega); omega
      · rw [if_neg hi, if_neg hj] at h
        have := ir (i - l.sz) (j - l.sz) (by omega) (by omega) (by omega) (by omega) (by omega); omega
  | par l r il ir =>
    intro i j h0 h1 h2 h3 h
    simp only [Tm.sz] at h1 h3
    simp only [Tm.pos] at h
    by_cases hi : i < l.sz
    · by_cases hj : j < l.sz
      · rw [if_pos hi, if_pos hj] at h; exact il _ _ h0 hi h2 hj (by omega)
      · rw [if_pos hi, if_neg hj] at h
        have := l.pos_lt i h0 hi; have := r.pos_lt (j - l.sz) (by omega) (by omega); omega
    · by_cases hj : j < l.sz
      · rw [if_neg hi, if_pos hj] at h
        have := l.pos_lt j h2 hj; have := r.pos_lt (i - l.sz) (by omega) (by omega); omega
      · rw [if_neg hi, if_neg hj] at h
        have := ir (i - l.sz) (j - l.sz) (by omega) (by omega) (by omega) (by omega) h; omega

theorem Tm.seq_pos_l (l r : Tm) {k : Int} (h : k < l.sz) : (Tm.seq l r).pos k = l.pos k := by simp only [Tm.pos]; rw [if_pos h]
theorem Tm.seq_pos_r (l r : Tm) {k : Int} (h : ¬ k < l.sz) : (Tm.seq l r).pos k = l.sz + r.pos (k - l.sz) := by simp only [Tm.pos]; rw [if_neg h]
theorem Tm.par_pos_l (l r : Tm) {k : Int} (h : k < l.sz) : (Tm.par l r).pos k = r.sz + l.pos k := by simp only [Tm.pos]; rw [if_pos h]
theorem Tm.par_pos_r (l r : Tm) {k : Int} (h : ¬ k < l.sz) : (Tm.par l r).pos k = r.pos (k - l.sz) := by simp only [Tm.pos]; rw [if_neg h]

/-- two numberings tell it all -/
theorem Tm.bef_pos (T : Tm) : ∀ i j : Int, 0 ≤ i → i < T.sz → 0 ≤ j → j < T.sz → T.bef i j = (decide (i < j) && decide (T.pos i < T.pos j)) := by
  induction T with
  | nil => intro i j h0 h1; simp only [Tm.sz] at h1; omega
  | one a =>
    intro i j h0 h1 h2 h3; simp only [Tm.sz] at h1 h3
    rw [decide_eq_false (show ¬ i < j by omega)]; rfl
  | seq l r il ir =>
    intro i j h0 h1 h2 h3
    simp only [Tm.sz] at h1 h3
    by_cases hi : i < l.sz
    · by_cases hj : j < l.sz
      · rw [Tm.seq_pos_l l r hi, Tm.seq_pos_l l r hj, Tm.seq_left l r _ _ hi hj]; exact il _ _ h0 hi h2 hj
      · rw [Tm.seq_pos_l l r hi, Tm.seq_pos_r l r hj, Tm.seq_cross l r i j h0 hi (by omega) (by omega)]
        have := l.pos_lt i h0 hi; have := r.pos_lt (j - l.sz) (by omega) (by omega)
        rw [decide_eq_true (show i < j by omega), decide_eq_true (by omega)]; rfl
    · by_cases hj : j < l.sz
      · rw [Tm.seq_pos_r l r hi, Tm.seq_pos_l l r hj, Tm.seq_back l r i j (by omega) hj, decide_eq_false (show ¬ i < j by omega)]; rfl
      · rw [Tm.seq_pos_r l r hi, Tm.seq_pos_r l r hj, Tm.seq_right l r _ _ (by omega) (by omega), ir _ _ (by omega) (by omega) (by omega) (by omega)]
        congr 1
        · exact decide_eq_decide.2 (by omega)
        · exact decide_eq_decide.2 (by omega)
  | par l r il ir =>
    intro i j h0 h1 h2 h3
    simp only [Tm.sz] at h1 h3
    by_cases hi : i < l.sz
    · by_cases hj : j < l.sz
      · rw [Tm.par_pos_l l r hi, Tm.par_pos_l l r hj, Tm.par_left l r _ _ hi hj, il _ _ h0 hi h2 hj]
        congr 1
        exact decide_eq_decide.2 (by omega)
      · rw [Tm.par_pos_l l r hi, Tm.par_pos_r l r hj, Tm.par_cross l r i j hi (by omega)]
        have := l.pos_lt i h0 hi; have := r.pos_lt (j - l.sz) (by omega) (by omega)
        rw [decide_eq_false (show ¬ (r.sz + l.pos i < r.pos (j - l.sz)) by omega), Bool.and_false]
    · by_cases hj : j < l.sz
      · rw [Tm.par_pos_r l r hi, Tm.par_pos_l l r hj, Tm.par_back l r i j (by omega) hj, decide_eq_false (show ¬ i < j by omega)]; rfl
      · rw [Tm.par_pos_r l r hi, Tm.par_pos_r l r hj, Tm.par_right l r _ _ (by omega) (by omega), ir _ _ (by omega) (by omega) (by omega) (by omega)]
        congr 1
        exact decide_eq_decide.2 (by omega)

/-- the numbers of leaves, right kids first side by side -/
def Tm.turned : Tm → Int → List Int
  | .nil, _ => []
  | .one _, f => [f]
  | .seq l r, f => l.turned f ++ r.turned (f + l.sz)
  | .par l r, f => r.turned (f + l.sz) ++ l.turned f

theorem Tm.turned_len (T : Tm) : ∀ f, (T.turned f).length = T.sz := by
  induction T with
  | nil => intro f; rfl
  | one a => intro f; rfl
  | seq l r il ir => intro f; simp [Tm.turned, Tm.sz, il, ir]
  | par l r il ir => intro f; simp [Tm.turned, Tm.sz, il, ir, Nat.add_comm]

theorem Tm.turned_at (T : Tm) : ∀ f (n : Nat), n < T.sz → ∃ k : Int, 0 ≤ k ∧ k < T.sz ∧ (T.turned f)[n]? = some (f + k) ∧ T.pos k = n := by
  induction T with
  | nil => intro f n h; simp only [Tm.sz] at h; omega
  | one a => intro f n h; simp only [Tm.sz] at h; obtain rfl : n = 0 := by omega
             exact ⟨0, by omega, by simp [Tm.sz], by simp [Tm.turned], rfl⟩
  | seq l r il ir =>
    intro f n h
    simp only [Tm.sz] at h
    by_cases hn : n < l.sz
    · obtain ⟨k, k0, k1, h1, h2⟩ := il f n hn
      refine ⟨k, k0, by simp only [Tm.sz]; omega, ?_, by simp only [Tm.pos, if_pos k1, h2]⟩
      rw [Tm.turned, List.getElem?_append_left (by rw [Tm.turned_len]; exact hn), h1]
    · obtain ⟨k, k0, k1, h1, h2⟩ := ir (f + l.sz) (n - l.sz) (by omega)
      refine ⟨k + l.sz, by omega, by simp only [Tm.sz]; omega, ?_, ?_⟩
      · rw [Tm.turned, List.getElem?_append_right (by rw [Tm.turned_len]; omega), Tm.turned_len, h1]; congr 1; omega
      · simp only [Tm.pos]; rw [if_neg (by omega), show k + (l.sz : Int) - l.sz = k by omega, h2]; omega
  | par l r il ir =>
    intro f n h
    simp only [Tm.sz] at h
    by_cases hn : n < r.sz
    · obtain ⟨k, k0, k1, h1, h2⟩ := ir (f + l.sz) n hn
      refine ⟨k + l.sz, by omega, by simp only [Tm.sz]; omega, ?_, ?_⟩
      · rw [Tm.turned, List.getElem?_append_left (by rw [Tm.turned_len]; exact hn), h1]; congr 1; omega
      · simp only [Tm.pos]; rw [if_neg (by omega), show k + (l.sz : Int) - l.sz = k by omega, h2]
    · obtain ⟨k, k0, k1, h1, h2⟩ := il f (n - r.sz) (by omega)
      refine ⟨k, k0, by simp only [Tm.sz]; omega, ?_, ?_⟩
      · rw [Tm.turned, List.getElem?_append_right (by rw [Tm.turned_len]; omega), Tm.turned_len, h1]
      · simp only [Tm.pos, if_pos k1, h2]; omega

/-- what a reader that looks for i on the left and j on the right has seen -/
def Tm.ask : Tm → Int → Int → Int → Bool
  | .nil, _, _, _ => false
  | .one _, _, _, _ => false
  | .seq l r, f, i, j => l.ask f i j || r.ask (f + l.sz) i j || (decide (f ≤ i) && decide (i < f + l.sz) && decide (f + l.sz ≤ j) && decide (j < f + l.sz + r.sz))
  | .par l r, f, i, j => l.ask f i j || r.ask (f + l.sz) i j

theorem Tm.ask_bef (T : Tm) : ∀ f i j, T.ask f i j = T.bef (i - f) (j - f) := by
  induction T with
  | nil => intro f i j; rfl
  | one a => intro f i j; rfl
  | seq l r il ir =>
    intro f i j
    simp only [Tm.ask, Tm.bef, il, ir]
    rw [show i - (f + l.sz) = i - f - l.sz by omega, show j - (f + l.sz) = j - f - l.sz by omega]
    rw [show decide (f ≤ i) = decide (0 ≤ i - f) from decide_eq_decide.2 (by omega), show decide (i < f + l.sz) = decide (i - f < l.sz) from decide_eq_decide.2 (by omega),
      show decide (f + (l.sz : Int) ≤ j) = decide ((l.sz : Int) ≤ j - f) from decide_eq_decide.2 (by omega), show decide (j < f + (l.sz : Int) + r.sz) = decide (j - f < (l.sz : Int) + r.sz) from decide_eq_decide.2 (by omega)]
    generalize l.bef (i - f) (j - f) = x
    generalize r.bef (i - f - l.sz) (j - f - l.sz) = y
    generalize (decide (0 ≤ i - f) && decide (i - f < l.sz) && decide ((l.sz : Int) ≤ j - f) && decide (j - f < (l.sz : Int) + r.sz)) = z
    cases x <;> cases y <;> cases z <;> rfl
  | par l r il ir =>
    intro f i j
    simp only [Tm.ask, Tm.bef, il, ir]
    rw [show i - (f + l.sz) = i - f - l.sz by omega, show j - (f + l.sz) = j - f - l.sz by omega]
end Go.Proofs.YtipihchlhkjdjaaDoor

namespace Go.Proofs.YtipihchlhkjdjaaDoor

/-- n + m over m -/
def ch : Nat → Nat → Nat
  | 0, _ => 1
  | _ + 1, 0 => 1
  | n + 1, m + 1 => ch n (m + 1) + ch (n + 1) m
theorem ch_one (m : Nat) : ch 0 m = 1 := by cases m <;> simp [ch]
theorem ch_zero (n : Nat) : ch n 0 = 1 := by cases n <;> simp [ch]
theorem ch_comm : ∀ n m, ch n m = ch m n
  | 0, m => by rw [ch_zero, ch_one]
  | n + 1, 0 => by rw [ch_zero, ch_one]
  | n + 1, m + 1 => by
    rw [ch, ch, ch_comm n (m + 1), ch_comm (n + 1) m, Nat.add_comm]
theorem ch_step : ∀ s n m, n + m ≤ s → (m + 1) * ch n (m + 1) = (n + m + 1) * ch n m := by
  intro s
  induction s with
  | zero =>
    intro n m h
    obtain rfl : n = 0 := by omega
    simp [ch_one]
  | succ s ih =>
    intro n m h
    cases n with
    | zero => simp [ch_one]
    | succ n =>
      have p := ih n m (by omega)
      have q := ih m n (by omega)
      rw [ch_comm m (n + 1), ch_comm m n] at q
      rw [ch, Nat.mul_add, p]
      have e : (n + 1 + m + 1) * ch (n + 1) m = (n + 1) * ch (n + 1) m + (m + 1) * ch (n + 1) m := by rw [← Nat.add_mul]; congr 1
      rw [e, q, Nat.add_comm m n]

/-- the place of the lowest one, and what is left above it -/
def tz (x : Nat) : Nat := Lib.ctz 64 x
def od (x : Nat) : Nat := x / 2 ^ tz x
theorem tz_spec (x : Nat) (h0 : 0 < x) (h : x < 2 ^ 64) : x = 2 ^ tz x * od x ∧ od x % 2 = 1 ∧ tz x < 64 := by
  obtain ⟨m, hm, hlt⟩ := Lib.ctzFrom_spec 64 x h0 h
  have e : tz x = Lib.ctzFrom 64 x := by unfold tz Lib.ctz; rw [if_neg (by omega)]
  have hp : 0 < 2 ^ tz x := Nat.two_pow_pos _
  have ho : od x = 2 * m + 1 := by
    unfold od
    rw [e] at hp ⊢
    exact Nat.div_eq_of_eq_mul_right hp hm
  refine ⟨by rw [ho, e]; exact hm, by rw [ho]; omega, by rw [e]; exact hlt⟩

/-- the product of the odd parts of n + 1, .., n + t; and the sum of their twos -/
def prA (n : Nat) : Nat → Nat
  | 0 => 1
  | t + 1 => prA n t * od (n + t + 1)
def suA (n : Nat) : Nat → Nat
  | 0 => 0
  | t + 1 => suA n t + tz (n + t + 1)
theorem prA_odd (n : Nat) : ∀ t, n + t < 2 ^ 64 → prA n t % 2 = 1
  | 0, _ => rfl
  | t + 1, h => by
    have h1 := prA_odd n t (by omega)
    have h2 := (tz_spec (n + t + 1) (by omega) (by omega)).2.1
    rw [prA, Nat.mul_mod, h1, h2]
theorem pr_ch (n : Nat) : ∀ t, n + t < 2 ^ 64 → prA n t * 2 ^ suA n t = prA 0 t * 2 ^ suA 0 t * ch n t
  | 0, _ => by simp [prA, suA, ch_zero]
  | t + 1, h => by
    have ih := pr_ch n t (by omega)
    obtain ⟨a1, _, _⟩ := tz_spec (n + t + 1) (by omega) (by omega)
    obtain ⟨b1, _, _⟩ := tz_spec (0 + t + 1) (by omega) (by omega)
    have st := ch_step (n + t) n t (Nat.le_refl _)
    have e1 : prA n (t + 1) * 2 ^ suA n (t + 1) = (prA n t * 2 ^ suA n t) * (2 ^ tz (n + t + 1) * od (n + t + 1)) := by
      rw [prA, suA, Nat.pow_add]
      generalize prA n t = p
      generalize od (n + t + 1) = q
      generalize 2 ^ suA n t = r
      generalize 2 ^ tz (n + t + 1) = s
      rw [Nat.mul_assoc p q, Nat.mul_comm q (r * s), Nat.mul_assoc r s q, Nat.mul_assoc p r]
    have e2 : prA 0 (t + 1) * 2 ^ suA 0 (t + 1) = (prA 0 t * 2 ^ suA 0 t) * (2 ^ tz (0 + t + 1) * od (0 + t + 1)) := by
      rw [prA, suA, Nat.pow_add]
      generalize prA 0 t = p
      generalize od (0 + t + 1) = q
      generalize 2 ^ suA 0 t = r
      generalize 2 ^ tz (0 + t + 1) = s
      rw [Nat.mul_assoc p q, Nat.mul_comm q (r * s), Nat.mul_assoc r s q, Nat.mul_assoc p r]
    rw [e1, e2, ← a1, ← b1, ih, Nat.zero_add]
    generalize prA 0 t * 2 ^ suA 0 t = p
    rw [Nat.mul_assoc p (t + 1), st, Nat.mul_assoc, Nat.mul_comm (ch n t)]
theorem suA_le (n t : Nat) (h : n + t < 2 ^ 64) : suA 0 t ≤ suA n t := by
  rcases Nat.lt_or_ge (suA n t) (suA 0 t) with hlt | hge
  · exfalso
    have e := pr_ch n t h
    have ho := prA_odd n t h
    obtain ⟨d, hd⟩ : ∃ d, suA 0 t = suA n t + (d + 1) := ⟨suA 0 t - suA n t - 1, by omega⟩
    rw [hd, Nat.pow_add, Nat.pow_succ] at e
    have hp : 0 < 2 ^ suA n t := Nat.two_pow_pos _
    generalize 2 ^ suA n t = P at *
    generalize prA n t = A at *
    generalize prA 0 t = B at *
    generalize ch n t = C at *
    have e2 : A * P = (B * (2 ^ d * C) * 2) * P := by
      rw [e]
      generalize 2 ^ d = D
      rw [Nat.mul_comm B (P * (D * 2)), Nat.mul_assoc P, Nat.mul_assoc P, Nat.mul_comm P]
      congr 1
      rw [Nat.mul_comm D 2, Nat.mul_assoc 2 D B, Nat.mul_assoc 2, Nat.mul_comm _ 2]
      congr 1
      rw [Nat.mul_comm D B, Nat.mul_assoc]
    have e3 : A = B * (2 ^ d * C) * 2 := Nat.eq_of_mul_eq_mul_right hp e2
    rw [e3] at ho
    omega
  · exact hge
/-- the odd parts and the twos tell the number -/
theorem pr_fin (n t : Nat) (h : n + t < 2 ^ 64) : prA n t * 2 ^ (suA n t - suA 0 t) = prA 0 t * ch n t := by
  have e := pr_ch n t h
  have hl := suA_le n t h
  obtain ⟨d, hd⟩ : ∃ d, suA n t = suA 0 t + d := ⟨suA n t - suA 0 t, by omega⟩
  rw [hd, Nat.pow_add] at e
  rw [hd, Nat.add_sub_cancel_left]
  have hp : 0 < 2 ^ suA 0 t := Nat.two_pow_pos _
  generalize 2 ^ suA 0 t = P at *
  generalize prA n t = A at *
  generalize prA 0 t = B at *
  generalize ch n t = C at *
  generalize 2 ^ d = D at *
  refine Nat.eq_of_mul_eq_mul_right hp ?_
  rw [Nat.mul_assoc A D, Nat.mul_comm D P, e, Nat.mul_assoc B P, Nat.mul_comm P C, Nat.mul_assoc]
theorem mod_fin {A B C e v M : Nat} (h : A * 2 ^ e = B * C) (hv : B * v % M = 1 % M) : (A * v % M) * 2 ^ e % M = C % M := by
  rw [Nat.mod_mul_mod, Nat.mul_assoc, Nat.mul_comm v, ← Nat.mul_assoc, h, Nat.mul_comm B C, Nat.mul_assoc, Nat.mul_mod, hv, ← Nat.mul_mod, Nat.mul_one]

/-- Newton's step -/
theorem newton {x v v' s P1 P2 M : Int} (h : P1 ∣ x * v - 1) (h2 : P2 ∣ P1 * P1) (hM : P2 ∣ M) (hv : v' = v * (2 - x * v) + M * s) : P2 ∣ x * v' - 1 := by
  obtain ⟨q, hq⟩ := h
  have e : x * v = 1 + P1 * q := by omega
  have e2 : x * v' - 1 = M * (x * s) - P1 * P1 * (q * q) := by
    rw [hv, Int.mul_add, ← Int.mul_assoc x v, e]
    have e3 : (1 + P1 * q) * (2 - (1 + P1 * q)) = 1 - (P1 * q) * (P1 * q) := by
      generalize P1 * q = z
      rw [show (2 : Int) - (1 + z) = 1 - z by omega, Int.add_mul, Int.one_mul, Int.mul_sub, Int.mul_one]
      omega
    rw [e3, Int.mul_left_comm x M s]
    have e4 : P1 * q * (P1 * q) = P1 * P1 * (q * q) := by
      rw [Int.mul_assoc P1 q, Int.mul_left_comm q P1 q, ← Int.mul_assoc P1 P1]
    rw [e4]
    omega
  rw [e2]
  exact Int.dvd_sub (Int.dvd_trans hM (Int.dvd_mul_right _ _)) (Int.dvd_trans h2 (Int.dvd_mul_right _ _))
theorem newton_mod (x v M : Int) : ∃ s, (v * ((2 - (x * v) % M) % M)) % M = v * (2 - x * v) + M * s := by
  refine ⟨v * (x * v / M - (2 - (x * v) % M) / M) - (v * ((2 - (x * v) % M) % M)) / M, ?_⟩
  have h1 := Int.emod_def (x * v) M
  have h2 := Int.emod_def (2 - (x * v) % M) M
  have h3 := Int.emod_def (v * ((2 - (x * v) % M) % M)) M
  rw [h3]
  generalize (v * ((2 - (x * v) % M) % M)) / M = c
  rw [h2]
  generalize (2 - (x * v) % M) / M = b
  rw [h1]
  generalize x * v / M = a
  generalize x * v = y
  rw [Int.mul_sub M, Int.mul_left_comm M v, Int.mul_sub M, show 2 - (y - M * a) - M * b = (2 - y) + (M * a - M * b) by omega, Int.mul_add]
  omega
theorem two_dvd {a b : Nat} (h : a ≤ b) : (2 : Int) ^ a ∣ (2 : Int) ^ b := ⟨(2 : Int) ^ (b - a), by rw [← Int.pow_add, Nat.add_sub_cancel' h]⟩
/-- how many places are right behind k rounds -/
def ek (k : Nat) : Nat := min (3 * 2 ^ k) 64
theorem ek_step (k : Nat) : ((2 : Int) ^ ek (k + 1)) ∣ (2 : Int) ^ ek k * (2 : Int) ^ ek k ∧ ((2 : Int) ^ ek (k + 1)) ∣ 18446744073709551616 := by
  have h64 : (18446744073709551616 : Int) = 2 ^ 64 := by decide
  refine ⟨?_, ?_⟩
  · rw [← Int.pow_add]
    refine two_dvd ?_
    unfold ek
    rw [Nat.pow_succ]
    omega
  · rw [h64]
    refine two_dvd ?_
    unfold ek
    omega
theorem odd_start (x : Nat) (h : x % 2 = 1) : ((2 : Int) ^ ek 0) ∣ (x : Int) * x - 1 := by
  obtain ⟨q, rfl⟩ : ∃ q, x = 2 * q + 1 := ⟨x / 2, by omega⟩
  have e : (2 : Int) ^ ek 0 = 8 := by decide
  rw [e]
  have e2 : ((2 * q + 1 : Nat) : Int) * ((2 * q + 1 : Nat) : Int) - 1 = 4 * ((q * (q + 1) : Nat) : Int) := by
    simp only [Int.natCast_add, Int.natCast_mul, Int.mul_add, Int.add_mul]
    have : (q : Int) * ((1 : Nat) : Int) = q := by simp
    generalize hz : (q : Int) * q = z
    have h1 : ((2 : Nat) : Int) * q * (((2 : Nat) : Int) * q) = 4 * z := by rw [← hz, Int.mul_assoc, Int.mul_left_comm (q : Int), ← Int.mul_assoc]; rfl
    rw [h1]
    simp
    omega
  rw [e2]
  have h2 : (q * (q + 1)) % 2 = 0 := by
    rw [Nat.mul_mod]
    rcases Nat.mod_two_eq_zero_or_one q with h | h <;> simp [Nat.add_mod, h]
  omega
theorem inv_end {x v : Int} (k : Nat) (hk : 5 ≤ k) (h : ((2 : Int) ^ ek k) ∣ x * v - 1) : (x * v) % 18446744073709551616 = 1 := by
  have e : ek k = 64 := by
    unfold ek
    have : 2 ^ 5 ≤ 2 ^ k := Nat.pow_le_pow_right (by omega) hk
    omega
  rw [e] at h
  have h64 : (2 : Int) ^ 64 = 18446744073709551616 := by decide
  rw [h64] at h
  omega
end Go.Proofs.YtipihchlhkjdjaaDoor
