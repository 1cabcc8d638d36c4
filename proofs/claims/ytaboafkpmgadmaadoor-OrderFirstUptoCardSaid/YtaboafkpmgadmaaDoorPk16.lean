/-
  forkwrightkeep.alive3 answers true.
  Levels are antichains, each one has a node, the chain goes on by edges; what more edges do to counts and heights. Plain mathematics.
  Contracts of forkwrightkeep.behind and forkwrightkeep.chained, where each one is behind the one ahead of it.
  Contract of the law OrderMirsky.
-/
import Derived.Test.YtaboafkpmgadmaaDoorPk15
import Derived.Test.YtaboafkpmgadmaaDoorPk14
import Derived.Test.YtaboafkpmgadmaaDoorPk10
namespace Go.Proofs.YtaboafkpmgadmaaDoor
open Go.RowKit Go.Shelf
set_option maxRecDepth 100000

set_option maxHeartbeats 4000000 in
theorem alive3_any (w : World) (hT : Tab w) :
    Calls Tryd.prog 39 #[] w fun e w' => e = .returned (.bool true) ∧ Below w.heap.size w w' := by
  go_enter Tryd.func39, Tryd.ntmps39
  go_wp2_with fail
  have r0 : RdE (w.alloc (.cells #[.int .i64 0, .int .i64 2, .int .i64 1, .int .i64 2, .int .i64 2, .int .i64 3] 38)) (w.alloc (.cells #[.int .i64 0, .int .i64 2, .int .i64 1, .int .i64 2, .int .i64 2, .int .i64 3] 38)).heap.size (some ⟨w.heap.size, 0, none⟩) es4 := rdE_lit w 38 es4 (by decide) (by decide)
  have hG0 := GB.new (w.alloc (.cells #[.int .i64 0, .int .i64 2, .int .i64 1, .int .i64 2, .int .i64 2, .int .i64 3] 38)) 24 4 (.slice (some ⟨w.heap.size, 0, none⟩) 3 3)
  obtain ⟨w1, hw1⟩ : ∃ w1, w1 = (w.alloc (.cells #[.int .i64 0, .int .i64 2, .int .i64 1, .int .i64 2, .int .i64 2, .int .i64 3] 38)).alloc (.cells #[.int .i64 4, .slice (some ⟨w.heap.size, 0, none⟩) 3 3] 24) := ⟨_, rfl⟩
  have hB : Below w.heap.size w w1 := by rw [hw1]; exact ((Below.refl _ _).alloc (Nat.le_refl _) _).alloc (by simp) _
  have hs := hB.size
  have r1 : RdE w1 w1.heap.size (some ⟨w.heap.size, 0, none⟩) es4 := by rw [hw1]; exact r0.step (below_alloc _ _)
  rw [World.size_alloc] at hG0
  rw [← hw1] at hG0 ⊢
  replace hT := hT.step hB
  clear r0 hw1
  have hgn := hG0.n
  have hge := hG0.e
  refine (chain_any _ 3 4 es4 _ r1 hT).mono ?_
  rw [es4_chn, es4_err]
  rintro e w2 ⟨A1, c1, rfl, l1, hb⟩
  replace hG0 := hG0.step hb
  replace r1 := r1.step hb
  replace hT := hT.step hb
  replace hB := below_step hB hs hb
  replace hs := hB.size
  clear hb hgn hge
  have hgn := hG0.n
  have hge := hG0.e
  go_wp2_with fail
  refine (cover_any _ 3 4 es4 _ r1 hT).mono ?_
  rw [es4_err]
  rintro e w3 ⟨A2, c2, L2, rfl, _, hc2, _, hb⟩
  rw [es4_cov hc2]
  clear hc2
  replace hG0 := hG0.step hb
  replace r1 := r1.step hb
  replace hT := hT.step hb
  replace l1 := l1.step hb
  replace hB := below_step hB hs hb
  replace hs := hB.size
  clear hb hgn hge
  have hgn := hG0.n
  have hge := hG0.e
  go_wp2_with fail
  refine (wide_any _ 3 4 es4 _ r1 hT).mono ?_
  rw [es4_err]
  rintro e w4 ⟨A3, c3, L3, rfl, _, hc3, _, hb⟩
  rw [es4_wid hc3]
  clear hc3
  replace hG0 := hG0.step hb
  replace r1 := r1.step hb
  replace hT := hT.step hb
  replace l1 := l1.step hb
  replace hB := below_step hB hs hb
  replace hs := hB.size
  clear hb hgn hge
  have hgn := hG0.n
  have hge := hG0.e
  go_wp2_with fail
  refine (count_any _ 3 4 es4 _ r1 hT).mono ?_
  rw [es4_cnt, es4_cntE]
  rintro e w5 ⟨rfl, hb⟩
  replace hG0 := hG0.step hb
  replace r1 := r1.step hb
  replace hT := hT.step hb
  replace l1 := l1.step hb
  replace hB := below_step hB hs hb
  replace hs := hB.size
  clear hb hgn hge
  have hgn := hG0.n
  have hge := hG0.e
  go_wp2_with fail
  refine (heightG_any _ 3 4 es4 _ r1 hT).mono ?_
  rw [es4_hgt, es4_err]
  rintro e w6 ⟨rfl, hb⟩
  replace hG0 := hG0.step hb
  replace r1 := r1.step hb
  replace hT := hT.step hb
  replace l1 := l1.step hb
  replace hB := below_step hB hs hb
  replace hs := hB.size
  clear hb hgn hge
  have hgn := hG0.n
  have hge := hG0.e
  go_wp2_with fail
  have r4 := rd_lit w6 3 [0, 2, 3] (by decide) (by decide)
  have hb := below_alloc w6 (.cells (iVals [0, 2, 3]).toArray 3)
  replace hG0 := hG0.step hb
  replace r1 := r1.step hb
  replace hT := hT.step hb
  replace l1 := l1.step hb
  replace hB := below_step hB hs hb
  replace hs := hB.size
  clear hb hgn hge
  refine (equalI_same A1 _ c1 3 [0, 2, 3] _ l1 r4).mono ?_
  rintro e w7 ⟨rfl, hb⟩
  clear r4 l1
  replace hG0 := hG0.step hb
  replace r1 := r1.step hb
  replace hT := hT.step hb
  replace hB := below_step hB hs hb
  replace hs := hB.size
  clear hb
  have hgn := hG0.n
  have hge := hG0.e
  go_wp2_with fail
  have r4 := rd_lit w7 3 [1, 0] (by decide) (by decide)
  have hb := below_alloc w7 (.cells (iVals [1, 0]).toArray 3)
  replace hG0 := hG0.step hb
  replace r1 := r1.step hb
  replace hT := hT.step hb
  replace hB := below_step hB hs hb
  replace hs := hB.size
  clear hb hgn hge
  refine (apart_any _ 3 4 es4 _ 2 [1, 0] _ r1 r4 hT).mono ?_
  rw [es4_ap]
  rintro e w8 ⟨rfl, hb⟩
  clear r4
  replace hG0 := hG0.step hb
  replace r1 := r1.step hb
  replace hT := hT.step hb
  replace hB := below_step hB hs hb
  replace hs := hB.size
  clear hb
  have hgn := hG0.n
  have hge := hG0.e
  go_wp2_with fail
  have r4 := rd_lit w8 3 [1, 3] (by decide) (by decide)
  have hb := below_alloc w8 (.cells (iVals [1, 3]).toArray 3)
  replace hG0 := hG0.step hb
  replace r1 := r1.step hb
  replace hT := hT.step hb
  replace hB := below_step hB hs hb
  replace hs := hB.size
  clear hb hgn hge
  refine (apart_any _ 3 4 es4 _ 2 [1, 3] _ r1 r4 hT).mono ?_
  rw [es4_far]
  rintro e w9 ⟨rfl, hb⟩
  clear r4
  replace hB := below_step hB hs hb
  clear hb hT r1 hG0
  go_wp2_with fail
  go_ret
  exact ⟨rfl, hB⟩
end Go.Proofs.YtaboafkpmgadmaaDoor

namespace Go.Proofs.YtaboafkpmgadmaaDoor

/-! ### levels -/
theorem lev_fw {m : Nat} {es : List (Int × Int)} (hin : inR m es = true) {f : Nat → Nat} (hL : Lev (gR es) f) {a b : Nat} (h : fw (gR es) m a b = true) : f a < f b := by
  have hp := (fw_iff (gR_lt hin) a b).1 h
  clear h
  induction hp with
  | one e => exact hL.top _ _ (.step e (hL.way _))
  | step e _ ih => exact Nat.lt_trans (hL.top _ _ (.step e (hL.way _))) ih
/-- the first j nodes' part of level k -/
def lvK (f : Nat → Nat) (k j : Nat) : List Nat := (List.range j).filter fun n => decide (f n = k)
theorem lvK_snoc {f : Nat → Nat} {k j : Nat} (h : f j = k) : toI (lvK f k (j + 1)) = toI (lvK f k j) ++ [((j : Nat) : Int)] := by
  unfold lvK
  rw [List.range_succ, List.filter_append]
  simp [h, toI]
theorem lvK_same {f : Nat → Nat} {k j : Nat} (h : f j ≠ k) : lvK f k (j + 1) = lvK f k j := by
  unfold lvK
  rw [List.range_succ, List.filter_append]
  simp [h]
theorem lvK_len (f : Nat → Nat) (k j : Nat) : (toI (lvK f k j)).length ≤ j := by
  unfold lvK
  rw [toI_len]
  have := List.length_filter_le (fun n => decide (f n = k)) (List.range j)
  rwa [List.length_range] at this
theorem lvK_mem {f : Nat → Nat} {k j n : Nat} : n ∈ lvK f k j ↔ n < j ∧ f n = k := by unfold lvK; simp
theorem toI_nodup {l : List Nat} (h : l.Nodup) : (toI l).Nodup := by
  unfold toI List.Nodup
  rw [List.pairwise_map]
  exact h.imp fun hne e => hne (by omega)
theorem mem_toI' {l : List Nat} {z : Int} (h : z ∈ toI l) : ∃ n, n ∈ l ∧ z = (n : Int) := by
  unfold toI at h
  obtain ⟨n, hn, rfl⟩ := List.mem_map.1 h
  exact ⟨n, hn, rfl⟩
theorem lvK_apart {m : Nat} {es : List (Int × Int)} (hE : errn m es = 0) (hin : inR m es = true) {f : Nat → Nat} (hL : Lev (gR es) f) (k : Nat) : apG m es (toI (lvK f k m)) = true := by
  unfold apG
  rw [Bool.and_eq_true, Int.toNat_natCast]
  refine ⟨decide_eq_true hE, apB_iff.2 ⟨fun z hz => ?_, toI_nodup (List.Pairwise.filter _ List.nodup_range), fun z hz y hy => ?_⟩⟩
  · obtain ⟨n, hn, rfl⟩ := mem_toI' hz
    have := (lvK_mem.1 hn).1
    omega
  · obtain ⟨n, hn, rfl⟩ := mem_toI' hz
    obtain ⟨q, hq, rfl⟩ := mem_toI' hy
    rw [Int.toNat_natCast, Int.toNat_natCast, ← Bool.not_eq_true]
    intro hf
    have := lev_fw hin hL hf
    rw [(lvK_mem.1 hn).2, (lvK_mem.1 hq).2] at this
    omega
theorem lvK_some {m : Nat} {es : List (Int × Int)} (hin : inR m es = true) {f : Nat → Nat} (hL : Lev (gR es) f) {k : Nat} (hk : k < hgt f m) : 0 < (toI (lvK f k m)).length := by
  obtain ⟨h1, h2⟩ := chn_at hL (gR_lt hin) (hgt f m - 1 - k) (by omega)
  rw [toI_len]
  exact List.length_pos_of_mem (lvK_mem.2 ⟨h1, by omega⟩)
theorem chn_edge {R : Nat → Nat → Bool} {f : Nat → Nat} {N : Nat} (h : Lev R f) (hR : ∀ i j, R i j = true → i < N ∧ j < N) {j : Nat} (hj : j + 1 < hgt f N) : R (chn R f N (j + 1)) (chn R f N j) = true := by
  obtain ⟨h1, h2⟩ := chn_at h hR j (by omega)
  obtain ⟨a, h3, h4, h5, h6, _⟩ := prv_some h hR (b := chn R f N j) (by omega)
  have e : chn R f N (j + 1) = a := by show (prv R f N (chn R f N j)).getD 0 = a; rw [h3]; rfl
  rw [e]
  exact h6
theorem chnG_ok {m : Nat} {es : List (Int × Int)} (hE : errn m es = 0) : chnG m es = toI (chain (gR es) (lvs m es) m) := by unfold chnG; rw [if_pos hE, Int.toNat_natCast]
theorem chnG_len {m : Nat} {es : List (Int × Int)} (hE : errn m es = 0) : (chnG m es).length = hgt (lvs m es) m := by rw [chnG_ok hE, toI_len]; unfold chain; simp
theorem chnG_zd {m : Nat} {es : List (Int × Int)} (hE : errn m es = 0) {i : Nat} (hi : i < hgt (lvs m es) m) : zd (chnG m es) i = ((chn (gR es) (lvs m es) m (hgt (lvs m es) m - 1 - i) : Nat) : Int) := by
  rw [chnG_ok hE]
  unfold zd chain toI
  simp [List.getD, hi]
theorem chnG_next {m : Nat} {es : List (Int × Int)} (hE : errn m es = 0) (hin : inR m es = true) (hfull : (ordr m es).length = m) : ∀ j, j + 1 < (chnG m es).length → ∃ a b : Nat, zd (chnG m es) j = (a : Int) ∧ zd (chnG m es) (j + 1) = (b : Int) ∧ fw (gR es) m a b = true := by
  intro j hj
  rw [chnG_len hE] at hj
  refine ⟨_, _, chnG_zd hE (by omega), chnG_zd hE hj, fw_base m ?_⟩
  have h1 := chn_edge (lvs_lev hin hfull) (gR_lt hin) (j := hgt (lvs m es) m - 1 - (j + 1)) (by omega)
  rwa [show hgt (lvs m es) m - 1 - (j + 1) + 1 = hgt (lvs m es) m - 1 - j by omega] at h1

/-! ### more edges -/
theorem gR_app (es : List (Int × Int)) (x y : Int) {i j : Nat} (h : gR es i j = true) : gR (es ++ [(x, y)]) i j = true := by
  unfold gR at h ⊢
  simp only [decide_eq_true_eq] at h ⊢
  exact List.mem_append_left _ h
theorem inR_app {N x y : Int} {es : List (Int × Int)} (h : inR N (es ++ [(x, y)]) = true) : inR N es = true := by
  unfold inR at h ⊢
  rw [Bool.and_eq_true, List.all_append, Bool.and_eq_true] at h
  rw [Bool.and_eq_true]
  exact ⟨h.1, h.2.1⟩
theorem errn_app {N x y : Int} {es : List (Int × Int)} (h : errn N (es ++ [(x, y)]) = 0) : errn N es = 0 := by
  obtain ⟨m, rfl, hin, hfull⟩ := errn_split h
  have hin' := inR_app hin
  refine errn_ok hin' ((topo_iff (gR_lt hin')).2 fun z hz => ?_)
  exact (topo_iff (gR_lt hin)).1 hfull z (hz.congr fun _ _ h => gR_app es x y h)
theorem fw_app {m : Nat} {x y : Int} {es : List (Int × Int)} (h : inR m (es ++ [(x, y)]) = true) {i j : Nat} (hf : fw (gR es) m i j = true) : fw (gR (es ++ [(x, y)])) m i j = true :=
  (fw_iff (gR_lt h) i j).2 (((fw_iff (gR_lt (inR_app h)) i j).1 hf).congr fun _ _ h => gR_app es x y h)
theorem wk_app (es : List (Int × Int)) (x y : Int) {n b : Nat} (h : Wk (gR es) n b) : Wk (gR (es ++ [(x, y)])) n b := by
  induction h with
  | zero b => exact .zero b
  | step e _ ih => exact .step (gR_app es x y e) ih
theorem cnt_val {m : Nat} {es : List (Int × Int)} (hE : errn m es = 0) (hm : m ≤ 14) : cntV m es = ((gC (fw (gR es) m) m (2 ^ m - 1) : Nat) : Int) ∧ cntE m es = 0 := by
  constructor
  · unfold cntV
    rw [if_pos ⟨hE, by omega⟩, Int.toNat_natCast, Nat.mod_eq_of_lt (gC_small hm (full_lt m))]
  · unfold cntE
    rw [if_pos hE, if_pos (by omega)]
theorem cnt_bd {m : Nat} {es : List (Int × Int)} (hE : errn m es = 0) (hin : inR m es = true) (hfull : (ordr m es).length = m) (hm : m ≤ 14) : 0 < cntV m es ∧ cntV m es < 18446744073709551616 := by
  have h1 := gC_full_pos hm (so_of hin hfull)
  have h2 := gC_small (f := fw (gR es) m) hm (full_lt m)
  rw [(cnt_val hE hm).1]
  omega
theorem cnt_app {m : Nat} {x y : Int} {es : List (Int × Int)} (hE : errn m (es ++ [(x, y)]) = 0) (hm : m ≤ 14) : cntV m (es ++ [(x, y)]) ≤ cntV m es := by
  obtain ⟨m', e, hin, hfull⟩ := errn_split hE
  obtain rfl : m = m' := by omega
  rw [(cnt_val hE hm).1, (cnt_val (errn_app hE) hm).1]
  have := gC_mono (f := fw (gR es) m) (g := fw (gR (es ++ [(x, y)])) m) hm (fun i j h => fw_app hin h) _ (full_lt m)
  omega
theorem hgt_mono {f g : Nat → Nat} {N : Nat} (h : ∀ b, b < N → f b ≤ g b) : hgt f N ≤ hgt g N :=
  hgt_le f fun b hb => Nat.lt_of_le_of_lt (h b hb) (hgt_ge g hb)
theorem hgt_app {m : Nat} {x y : Int} {es : List (Int × Int)} (hE : errn m (es ++ [(x, y)]) = 0) : hgtG m es ≤ hgtG m (es ++ [(x, y)]) := by
  obtain ⟨m', e, hin, hfull⟩ := errn_split hE
  obtain rfl : m = m' := by omega
  have hE2 := errn_app hE
  obtain ⟨m', e, hin2, hfull2⟩ := errn_split hE2
  obtain rfl : m = m' := by omega
  rw [hgtG_ok hE, hgtG_ok hE2]
  have h1 := lvs_lev hin hfull
  have h2 := lvs_lev hin2 hfull2
  have := hgt_mono (f := lvs m es) (g := lvs m (es ++ [(x, y)])) (N := m) fun b _ => h1.top _ _ (wk_app es x y (h2.way b))
  omega
theorem wid_app {m : Nat} {x y : Int} {es : List (Int × Int)} {L L' : List Int} (hE : errn m (es ++ [(x, y)]) = 0) (h : WidL m es L) (h' : WidL m (es ++ [(x, y)]) L') : L'.length ≤ L.length := by
  obtain ⟨m', e, hin, hfull⟩ := errn_split hE
  obtain rfl : m = m' := by omega
  have hE2 := errn_app hE
  obtain ⟨m', e, hin2, hfull2⟩ := errn_split hE2
  obtain rfl : m = m' := by omega
  obtain ⟨B, H, T, hK, _, hl⟩ := h.len hE2
  obtain ⟨B', H', T', hK', _, hl'⟩ := h'.len hE
  rw [Int.toNat_natCast] at hK hK' hl hl'
  rw [hl, hl']
  exact hK'.le (so_of hin hfull) hK.mt (so_of hin2 hfull2) fun a b hab => fw_app hin hab
end Go.Proofs.YtaboafkpmgadmaaDoor

namespace Go.Proofs.YtaboafkpmgadmaaDoor
open Go.RowKit Go.Shelf
set_option maxRecDepth 100000

theorem ref_list_any (A : Option Addr) (c : Nat) (xs : List Nat) (w : World) (hx : RdU w w.heap.size A xs) (hroom : xs.length ≤ 1048576) :
    Calls Tryd.prog 108 #[.slice A xs.length c] w fun e w' => ∃ A1 c1, e = .returned (.slice A1 (alist xs (64 * xs.length)).length c1) ∧ RdI w' w'.heap.size A1 (alist xs (64 * xs.length)) ∧ Below w.heap.size w w' :=
  (alist_any A c xs w hx hroom).mono fun e w' ⟨v, he, hown, hb⟩ => by
    have hl := alist_le xs (64 * xs.length)
    obtain ⟨A1, c1, rfl, hr⟩ := own_rdI hown (fun k => by have := alist_zd xs (64 * xs.length) k; omega) (fun k => by have := alist_zd xs (64 * xs.length) k; omega) (by omega)
    exact ⟨A1, c1, he, hr, hb⟩

set_option maxHeartbeats 2000000 in
theorem lbehind_yes (A : Option Addr) (c m : Nat) (es : List (Int × Int)) (a b : Nat) (w : World) (he : RdE w w.heap.size A es) (hT : Tab w) (hE : errn m es = 0) (hin : inR m es = true) (hf : fw (gR es) m a b = true) :
    Calls Tryd.prog 76 #[.agg #[.int .i64 (m : Int), .slice A es.length c], .int .i64 (a : Int), .int .i64 (b : Int)] w fun e w' => e = .returned (.bool true) ∧ Below w.heap.size w w' := by
  have hm : m ≤ 200 := by have := hin; unfold inR okN200 at this; simp at this; omega
  obtain ⟨ha, hbm⟩ := fw_lt hin hf
  have hbl := beh_len m es a
  have hmem : ((b : Nat) : Int) ∈ alist (beh m es a) (64 * (beh m es a).length) := by
    have hb : bitB (beh m es a) b = true := by rw [beh_bit hin]; exact hf
    rw [mem_alist]
    exact ⟨b, bit_in' _ _ hb, hb, rfl⟩
  have HM := Lib.hid hmem
  have HE := Lib.hid hE
  have HIN := Lib.hid hin
  clear hmem hf hE hin
  go_enter Tryd.func76, Tryd.ntmps76
  go_wp2_with fail
  have g1 := GB.new w 24 m (.slice A es.length c)
  have hB := below_alloc w (.cells #[.int .i64 (m : Int), .slice A es.length c] 24)
  obtain ⟨w1, hw1⟩ : ∃ w1, w1 = w.alloc (.cells #[.int .i64 (m : Int), .slice A es.length c] 24) := ⟨_, rfl⟩
  rw [← hw1] at g1 hB ⊢
  have hs := hB.size
  replace he := he.step hB
  replace hT := hT.step hB
  clear hw1 g1
  refine (behind_any A c m es _ he hT).mono ?_
  rintro e w2 ⟨A1, c1, rfl, hu, hb⟩
  replace hB := below_step hB hs hb
  replace hs := hB.size
  clear hb he hT
  have e3 : behG m es = behs m es := by unfold behG; rw [if_pos HE.out, Int.toNat_natCast]
  rw [e3] at hu
  rw [e3, HE.out, behs_len]
  obtain ⟨b5, off5, A5, c5, rfl, hb5, hc5, hs5⟩ := hu.at_ (k := a) (by rw [behs_len]; exact ha)
  rw [st_behs _ ha] at hc5 hs5
  have x0 : (0 : Int) ≤ (a : Int) := Int.natCast_nonneg _
  have x1 : (a : Int) < (m : Int) := by omega
  have y0 : (0 : Int) ≤ (b : Int) := Int.natCast_nonneg _
  have y1 : (b : Int) < (m : Int) := by omega
  obtain ⟨xs, hxs⟩ : ∃ xs, xs = beh m es a := ⟨_, rfl⟩
  rw [← hxs] at hc5 hs5 hbl HM
  have HL := Lib.hid (ref_list_any A5 c5 xs w2 hs5 (by omega))
  have hlen : (alist xs (64 * xs.length)).length ≤ 1048576 := by have := alist_le xs (64 * xs.length); omega
  clear hxs e3 hu hs5 hbl
  go_wp2_with (first
    | (go_at_call 108; refine HL.out.mono ?_; rintro e w3 ⟨A3, c3, rfl, h3, hb⟩; replace hB := below_step hB hs hb; clear hb)
    | (go_at_call 26; refine (contains_b A3 c3 _ (b : Int) _ h3).mono ?_; rintro e w4 ⟨rfl, rfl⟩; rw [decide_eq_true HM.out])
    | fail)
  go_ret
  exact ⟨rfl, hB⟩
/-- the graph's box, two cells of the list, and all that lay -/
abbrev HeldF (w1 : World) (B : Nat) (x : Int) (v : Value) (b o1 o2 : Nat) (u1 u2 : Value) (w' : World) : Prop := w'.cell? ⟨B, 0, none⟩ = some (.int .i64 x) ∧ w'.cell? ⟨B, 1, none⟩ = some v ∧ w'.cell? ⟨b, o1, none⟩ = some u1 ∧ w'.cell? ⟨b, o2, none⟩ = some u2 ∧ Below w1.heap.size w1 w'
theorem HeldF.drew {w1 W : World} {B b o1 o2 : Nat} {x : Int} {v u1 u2 : Value} (h : HeldF w1 B x v b o1 o2 u1 u2 W) : HeldF w1 B x v b o1 o2 u1 u2 W.drew := ⟨h.1, h.2.1, h.2.2.1, h.2.2.2.1, h.2.2.2.2.drew⟩
theorem HeldF.step {w1 W w2 : World} {B b o1 o2 : Nat} {x : Int} {v u1 u2 : Value} (h : HeldF w1 B x v b o1 o2 u1 u2 W) (hb : Below W.heap.size W w2) : HeldF w1 B x v b o1 o2 u1 u2 w2 :=
  ⟨(hb.cell (p := ⟨B, 0, none⟩) (World.block_lt_of_cell? _ _ h.1)).trans h.1, (hb.cell (p := ⟨B, 1, none⟩) (World.block_lt_of_cell? _ _ h.2.1)).trans h.2.1, (hb.cell (p := ⟨b, o1, none⟩) (World.block_lt_of_cell? _ _ h.2.2.1)).trans h.2.2.1, (hb.cell (p := ⟨b, o2, none⟩) (World.block_lt_of_cell? _ _ h.2.2.2.1)).trans h.2.2.2.1, h.2.2.2.2.trans (hb.mono h.2.2.2.2.size)⟩
theorem HeldF.alloc {w1 W : World} {B b o1 o2 : Nat} {x : Int} {v u1 u2 : Value} (h : HeldF w1 B x v b o1 o2 u1 u2 W) (ob : Obj) : HeldF w1 B x v b o1 o2 u1 u2 (W.alloc ob) := h.step (below_alloc W ob)
theorem ap_no {m : Nat} {es : List (Int × Int)} {a b : Nat} (h : fw (gR es) m a b = true) : apG m es [(a : Int), (b : Int)] = false := by
  unfold apG
  rw [Bool.and_eq_false_iff]
  right
  rw [Int.toNat_natCast]
  exact apB_behind (zs := [(a : Int), (b : Int)]) (a := 1) (b := 0) (by simp) (by simp) (by simpa [zd] using h)

set_option maxHeartbeats 8000000 in
theorem chained_yes (A : Option Addr) (c m : Nat) (es : List (Int × Int)) (A2 : Option Addr) (c2 : Nat) (zs : List Int) (w : World) (he : RdE w w.heap.size A es) (hz : RdI w w.heap.size A2 zs) (hT : Tab w) (hE : errn m es = 0) (hin : inR m es = true)
    (hc : ∀ j, j + 1 < zs.length → ∃ a b : Nat, zd zs j = (a : Int) ∧ zd zs (j + 1) = (b : Int) ∧ fw (gR es) m a b = true) :
    Calls Tryd.prog 40 #[.agg #[.int .i64 (m : Int), .slice A es.length c], .slice A2 zs.length c2] w fun e w' => e = .returned (.bool true) ∧ Below w.heap.size w w' := by
  have hm : m ≤ 200 := by have := hin; unfold inR okN200 at this; simp at this; omega
  have hroom := hz.room
  have HC := Lib.hid hc
  clear hc
  go_enter Tryd.func40, Tryd.ntmps40
  go_wp2_with fail
  have g1 := GB.new w 24 m (.slice A es.length c)
  have hB := below_alloc w (.cells #[.int .i64 (m : Int), .slice A es.length c] 24)
  obtain ⟨w1, hw1⟩ : ∃ w1, w1 = w.alloc (.cells #[.int .i64 (m : Int), .slice A es.length c] 24) := ⟨_, rfl⟩
  rw [← hw1] at g1 hB ⊢
  have hs := hB.size
  replace he := he.step hB
  replace hz := hz.step hB
  replace hT := hT.step hB
  clear hw1
  go_loopw [5] (fun i wr => ∃ j : Nat, (j + 1 ≤ zs.length ∨ j = 0) ∧ i = .int .i64 ((j : Int) + 1) ∧ Below w1.heap.size w1 wr) (fun i _ => zs.length - (intOf i).toNat)
  case atStart => exact ⟨0, .inr rfl, by go_num, Below.refl _ _⟩
  case round =>
    obtain ⟨j, hj, rfl, hbr⟩ := hrel
    have gr := g1.step hbr
    have zr := hz.step hbr
    by_cases hlt : j + 1 < zs.length
    · obtain ⟨a, b, ha, hb, hf⟩ := HC.out j hlt
      obtain ⟨b2, off2, rfl, hb2, hc2⟩ := zr.rd (by omega)
      have ca := hc2 j (by omega)
      have cb := hc2 (j + 1) (by omega)
      dsimp only at ca cb
      rw [ha] at ca
      rw [hb] at cb
      have hlt1 : (j : Int) + 1 < (zs.length : Int) := by omega
      have j0 : (0 : Int) ≤ (j : Int) := Int.natCast_nonneg _
      have n1 := gr.n
      have e1 := gr.e
      have hb0 := Below.refl wr.heap.size wr
      have f1 : ∀ (W : World) (g : Nat), RdI W W.heap.size (some ⟨g, 0, none⟩) [(a : Int), (b : Int)] → HeldF wr w.heap.size (m : Int) (.slice A es.length c) b2 (off2 + j) (off2 + (j + 1)) (.int .i64 (a : Int)) (.int .i64 (b : Int)) W → Calls Tryd.prog 35 #[.agg #[.int .i64 (m : Int), .slice A es.length c], .slice (some ⟨g, 0, none⟩) 2 2] W fun e w' => e = .returned (.bool false) ∧ HeldF wr w.heap.size (m : Int) (.slice A es.length c) b2 (off2 + j) (off2 + (j + 1)) (.int .i64 (a : Int)) (.int .i64 (b : Int)) w' := fun W g hr h => by
        have hbw := hbr.trans (h.2.2.2.2.mono hbr.size)
        refine (apart_any A c m es _ 2 [(a : Int), (b : Int)] W (he.step hbw) hr (hT.step hbw)).mono ?_
        rintro e w' ⟨rfl, hb⟩
        rw [ap_no hf]
        exact ⟨rfl, h.step hb⟩
      have f2 : ∀ W : World, HeldF wr w.heap.size (m : Int) (.slice A es.length c) b2 (off2 + j) (off2 + (j + 1)) (.int .i64 (a : Int)) (.int .i64 (b : Int)) W → Calls Tryd.prog 76 #[.agg #[.int .i64 (m : Int), .slice A es.length c], .int .i64 (a : Int), .int .i64 (b : Int)] W fun e w' => e = .returned (.bool true) ∧ HeldF wr w.heap.size (m : Int) (.slice A es.length c) b2 (off2 + j) (off2 + (j + 1)) (.int .i64 (a : Int)) (.int .i64 (b : Int)) w' := fun W h => by
        have hbw := hbr.trans (h.2.2.2.2.mono hbr.size)
        refine (lbehind_yes A c m es a b W (he.step hbw) (hT.step hbw) hE hin hf).mono ?_
        rintro e w' ⟨rfl, hb⟩
        exact ⟨rfl, h.step hb⟩
      have F1 := Lib.hid f1
      have F2 := Lib.hid f2
      have F3 : Hid (∀ z ∈ [(a : Int), (b : Int)], -9223372036854775808 ≤ z ∧ z ≤ 9223372036854775807) := Lib.hid (by
        obtain ⟨h1, h2⟩ := fw_lt hin hf
        intro z hz
        simp at hz
        omega)
      have w0 : IntKind.i64.wrap ((j : Int) + 1 - 1) = (j : Int) := by rw [Int.add_sub_cancel]; exact IntWalk.i64_in _ (by omega)
      have w00 : IntKind.i64.wrap (j : Int) = (j : Int) := IntWalk.i64_in _ (by omega)
      have j1 : (0 : Int) ≤ (j : Int) + 1 := by omega
      have j2 : (j : Int) < (zs.length : Int) := by omega
      have j3 : ((j : Int) + 1).toNat = j + 1 := by omega
      have HBR := Lib.hid hbr
      clear f1 f2 ha hb hc2 hf gr zr g1 hbr hj
      go_wp2_with fail
      go_region_held3 (HeldF wr w.heap.size (m : Int) (.slice A es.length c) b2 (off2 + j) (off2 + (j + 1)) (.int .i64 (a : Int)) (.int .i64 (b : Int)))
        (first
          | (go_split_ands; refine ⟨?_, ?_, ?_, ?_, ?_⟩ <;> assumption)
          | (go_split_ands; exact HeldF.drew ⟨‹_›, ‹_›, ‹_›, ‹_›, ‹_›⟩)
          | (go_split_ands; exact HeldF.alloc ⟨‹_›, ‹_›, ‹_›, ‹_›, ‹_›⟩ _)
          | (go_split_ands; exact HeldF.drew (HeldF.alloc ⟨‹_›, ‹_›, ‹_›, ‹_›, ‹_›⟩ _)))
        (first
          | (go_at_call 35; refine (F1.out _ _ ((rd_lit _ _ [(a : Int), (b : Int)] F3.out (by simp)).step (Below.refl _ _).drew) (by assumption)).mono ?_; rintro e w2 ⟨rfl, hq2⟩)
          | (go_at_call 76; refine (F2.out _ (by assumption)).mono ?_; rintro e w3 ⟨rfl, hq3⟩))
      all_goals
        go_wp2_with fail
        go_roundw
        case rel => exact ⟨j + 1, by omega, by go_num, HBR.out.trans (hq3.2.2.2.2.mono HBR.out.size)⟩
        case measure => simp [intOf]; omega
    · have hlt1 : ¬ ((j : Int) + 1 < (zs.length : Int)) := by omega
      have HBR := Lib.hid (hB.trans (hbr.mono hs))
      clear hbr
      go_wp2_with fail
      go_ret
      exact ⟨rfl, HBR.out⟩
end Go.Proofs.YtaboafkpmgadmaaDoor

namespace Go.Proofs.YtaboafkpmgadmaaDoor
open Go.RowKit Go.Shelf
set_option maxRecDepth 100000

theorem levG_zd {m : Nat} {es : List (Int × Int)} (hE : errn m es = 0) {k : Nat} (hk : k < m) : zd (levG m es) k = ((lvs m es k : Nat) : Int) := by
  rw [levG_ok hE]
  unfold zd
  simp [List.getD, hk]

set_option maxHeartbeats 8000000 in
theorem mirskyLaw_any (A : Option Addr) (c : Nat) (N : Int) (es : List (Int × Int)) (w : World) (he : RdE w w.heap.size A es) (_hl : es.length ≤ 1048576) (hT : Tab w) :
    Calls Tryd.prog 9 #[.agg #[.int .i64 N, .slice A es.length c]] w fun e w' => e = .returned (.bool true) ∧ Below w.heap.size w w' := by
  obtain ⟨i0, hi, hz0, hz1, hz2⟩ := info_parts Tryd.infoInt
  go_enter Tryd.func9, Tryd.ntmps9
  go_wp2_with fail
  have g1 := GB.new w 24 N (.slice A es.length c)
  have hB := below_alloc w (.cells #[.int .i64 N, .slice A es.length c] 24)
  obtain ⟨w1, hw1⟩ : ∃ w1, w1 = w.alloc (.cells #[.int .i64 N, .slice A es.length c] 24) := ⟨_, rfl⟩
  rw [← hw1] at g1 hB ⊢
  have hs := hB.size
  replace he := he.step hB
  replace hT := hT.step hB
  clear hw1
  refine (alive3_any _ hT).mono ?_
  rintro e w2 ⟨rfl, hb⟩
  replace g1 := g1.step hb
  replace he := he.step hb
  replace hT := hT.step hb
  replace hB := below_step hB hs hb
  replace hs := hB.size
  clear hb
  have n1 := g1.n
  have e1 := g1.e
  go_wp2_with fail
  refine (levels_any A c N es _ he hT).mono ?_
  rintro e w3 ⟨A3, c3, rfl, r3, hb⟩
  replace g1 := g1.step hb
  replace he := he.step hb
  replace hT := hT.step hb
  replace hB := below_step hB hs hb
  replace hs := hB.size
  clear hb n1 e1
  have n1 := g1.n
  have e1 := g1.e
  go_wp2_with fail
  refine (chain_any A c N es _ he hT).mono ?_
  rintro e w4 ⟨A4, c4, rfl, r4, hb⟩
  replace g1 := g1.step hb
  replace he := he.step hb
  replace hT := hT.step hb
  replace r3 := r3.step hb
  replace hB := below_step hB hs hb
  replace hs := hB.size
  clear hb n1 e1
  have n1 := g1.n
  have e1 := g1.e
  go_wp2_with fail
  refine (heightG_any A c N es _ he hT).mono ?_
  rintro e w5 ⟨rfl, hb⟩
  replace g1 := g1.step hb
  replace he := he.step hb
  replace hT := hT.step hb
  replace r3 := r3.step hb
  replace r4 := r4.step hb
  replace hB := below_step hB hs hb
  replace hs := hB.size
  clear hb n1 e1
  have n1 := g1.n
  have e1 := g1.e
  by_cases hE : errn N es = 0
  · obtain ⟨m, rfl, hin, hfull⟩ := errn_split hE
    have hm : m ≤ 200 := by have := hin; unfold inR okN200 at this; simp at this; omega
    have hL := lvs_lev hin hfull
    have hnext := chnG_next hE hin hfull
    have hch := fun (W : World) (h1 : RdE W W.heap.size A es) (h2 : RdI W W.heap.size A4 (chnG m es)) (h3 : Tab W) => chained_yes A c m es A4 c4 (chnG m es) W h1 h2 h3 hE hin hnext
    have hzd := fun k (hk : k < m) => levG_zd hE hk
    have hap := fun k => lvK_apart hE hin hL k
    have hsome := fun k (hk : k < hgt (lvs m es) m) => lvK_some hin hL hk
    have hhm : 0 < hgt (lvs m es) m → 0 < m := fun h => by
      rcases Nat.eq_zero_or_pos m with h0 | h0
      · subst h0; simp [hgt] at h
      · exact h0
    have hle : hgt (lvs m es) m ≤ m := hgt_le _ fun b hb => lvs_lt hin hfull hb
    have hll := levG_len hE
    rw [levG_len hE, chnG_len hE, hgtG_ok hE, hE]
    rw [chnG_len hE] at hch
    obtain ⟨f, hf⟩ : ∃ f, f = lvs m es := ⟨_, rfl⟩
    obtain ⟨H, hH⟩ : ∃ H, H = hgt (lvs m es) m := ⟨_, rfl⟩
    rw [← hH] at hch hsome hhm hle ⊢
    rw [← hf] at hsome hap hzd
    have HCH := Lib.hid hch
    have HZD := Lib.hid hzd
    have HAP := Lib.hid hap
    have HSO := Lib.hid hsome
    have HHM := Lib.hid hhm
    have HLL := Lib.hid hll
    have HB := Lib.hid hB
    clear hch hzd hap hsome hhm hll hnext hL hf hH hE hin hfull hB
    go_wp2_with fail
    go_loopw [52] (fun i wr => ∃ k : Nat, k ≤ H ∧ i = .int .i64 k ∧ Below w5.heap.size w5 wr) (fun i _ => H - (intOf i).toNat)
    case atStart => exact ⟨0, Nat.zero_le _, rfl, Below.refl _ _⟩
    case round =>
      obtain ⟨k, hk, rfl, hbr⟩ := hrel
      clear n1 e1
      have gr := g1.step hbr
      have her := he.step hbr
      have hTr := hT.step hbr
      have r3r := r3.step hbr
      have r4r := r4.step hbr
      have n1 := gr.n
      have e1 := gr.e
      have k0 : (0 : Int) ≤ (k : Int) := Int.natCast_nonneg _
      have HBR := Lib.hid hbr
      by_cases hkh : k < H
      · have hkh1 : (k : Int) < (H : Int) := by omega
        have hm0 := HHM.out (by omega)
        obtain ⟨b3, off3, rfl, hb3, hc3⟩ := r3r.rd (by rw [HLL.out]; omega)
        have HC3 := Lib.hid hc3
        obtain ⟨wo, hwo⟩ : ∃ wo : World, wo = wr := ⟨_, rfl⟩
        rw [← hwo] at n1 e1 gr her hTr HC3 hb3 HBR ⊢
        clear hc3 r3r hbr hwo r4r
        go_wp2_with fail
        go_loopw [57, 10] (fun i v wq => ∃ j : Nat, j ≤ m ∧ i = .int .i64 j ∧ wq.ownsRow wo.heap.size 3 1 v (toI (lvK f k j)).length (iVals (toI (lvK f k j))) ∧ Below wo.heap.size wo wq) (fun i _ _ => m - (intOf i).toNat)
        case atStart => exact ⟨0, Nat.zero_le _, rfl, World.ownsRow_nil _ _ _ _, Below.refl _ _⟩
        case round =>
          obtain ⟨j, hj, rfl, hown, hbq⟩ := hrel
          have hsz := hbq.size
          clear n1 e1
          by_cases hjm : j < m
          · have cj := (hbq.cell (p := ⟨b3, off3 + j, none⟩) hb3).trans (HC3.out j (by rw [HLL.out]; exact hjm))
            try dsimp only at cj
            rw [HZD.out j hjm] at cj
            have j0 : (0 : Int) ≤ (j : Int) := Int.natCast_nonneg _
            have j1 : (j : Int) < (m : Int) := by omega
            obtain ⟨x, hx⟩ : ∃ x, x = f j := ⟨_, rfl⟩
            rw [← hx] at cj
            by_cases e : x = k
            · have HX : Hid (f j = k) := Lib.hid (by rw [← hx]; exact e)
              rw [e] at cj
              have hlen := lvK_len f k j
              have h3 : (toI (lvK f k j)).length + 1 ≤ maxLen := by unfold maxLen; omega
              have h4 : ((toI (lvK f k j)).length + 1) * 8 ≤ 140737488355328 := by omega
              have h5 : wo.heap.size ≤ (wr.alloc (.cells #[.int .i64 (j : Int)] 3)).heap.size := by simp; omega
              clear hx e
              go_wp2_with (at_builtin; refine wpList_append_own _ rfl _ _ 25 rfl wo.heap.size 3 i0 (.int .i64 0) 1 8 Tryd.underlying25 hi hz0 hz1 hz2 rfl (by decide) _ _ _ rfl (hown.alloc _) ⟨wr.heap.size, 0, none⟩ 1 1 [.int .i64 (j : Int)] rfl rfl (cell_one_new _ _ _) (by simp [Value.oneCell']) h3 h4 h5 ?_; intro v' wa hown' hgrow _; have hB1 := below_app hbq hsz hown hgrow)
              rw [iVals_snoc, ← lvK_snoc HX.out] at hown'
              have he' : (toI (lvK f k j)).length + 1 = (toI (lvK f k (j + 1))).length := by rw [lvK_snoc HX.out, List.length_append]; rfl
              rw [he'] at hown'
              clear he' hgrow
              go_roundw
              case rel => exact ⟨j + 1, by omega, by go_num, hown', hB1⟩
              case measure => simp [intOf]; omega
            · have HX : Hid (f j ≠ k) := Lib.hid (by rw [← hx]; exact e)
              have e2 : ((x : Int) == (k : Int)) = false := beq_eq_false_iff_ne.2 (by omega)
              have e3 : ¬ ((x : Int) = (k : Int)) := by omega
              clear hx e
              go_wp2_with fail
              go_roundw
              case rel => exact ⟨j + 1, by omega, by go_num, by rw [lvK_same HX.out]; exact hown, hbq⟩
              case measure => simp [intOf]; omega
          · obtain rfl : j = m := by omega
            have hlen := lvK_len f k j
            have hzz := fun i => toI_zd (l := lvK f k j) (N := j) (fun x hx => (lvK_mem.1 hx).1) i
            obtain ⟨A6, c6, rfl, r6⟩ := own_rdI hown (fun i => by have := hzz i; omega) (fun i => by have := hzz i; omega) (by omega)
            have hpos := HSO.out k hkh
            have heq := her.step hbq
            have hTq := hTr.step hbq
            have gq := gr.step hbq
            have n1 := gq.n
            have e1 := gq.e
            have hA := apart_any A c j es A6 c6 (toI (lvK f k j)) wr heq r6 hTq
            rw [HAP.out k] at hA
            have p1 : (((toI (lvK f k j)).length : Int) == 0) = false := beq_eq_false_iff_ne.2 (by omega)
            have p2 : ¬ (toI (lvK f k j)).length = 0 := by omega
            have p3 : ¬ toI (lvK f k j) = [] := fun h => by rw [h] at hpos; simp at hpos
            have HA := Lib.hid hA
            clear hA hzz hown hpos heq hTq gq r6
            go_wp2_with (first | (go_at_call 35; refine HA.out.mono ?_; rintro e w6 ⟨rfl, hb6⟩) | fail)
            have HK := Lib.hid (HBR.out.trans ((below_step hbq hsz hb6).mono HBR.out.size))
            go_roundw
            case rel => exact ⟨k + 1, by omega, by go_num, HK.out⟩
            case measure => simp [intOf]; omega
      · obtain rfl : k = H := by omega
        have HC := Lib.hid (HCH.out wr her r4r hTr)
        have hs5 := hbr.size
        clear her r4r hTr hbr r3r
        go_wp2_with (first | (go_at_call 40; refine HC.out.mono ?_; rintro e w6 ⟨rfl, hb6⟩) | fail)
        go_ret
        exact ⟨rfl, HB.out.trans ((below_step HBR.out hs5 hb6).mono HB.out.size)⟩
  · have ne1 : (errn N es == 0) = false := beq_eq_false_iff_ne.2 hE
    obtain ⟨E, hEE⟩ : ∃ E, E = errn N es := ⟨_, rfl⟩
    rw [← hEE] at ne1 hE ⊢
    clear hEE he hT r3 r4
    go_wp2_with fail
    go_ret
    exact ⟨by simp, hB⟩
end Go.Proofs.YtaboafkpmgadmaaDoor
