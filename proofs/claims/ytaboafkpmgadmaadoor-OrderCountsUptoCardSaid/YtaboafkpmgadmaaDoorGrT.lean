/-
  Contract of graph.Sort.
-/
import Derived.Test.YtaboafkpmgadmaaDoorGrS
import Derived.Test.YtaboafkpmgadmaaDoorItC
import Derived.Test.YtaboafkpmgadmaaDoorBsOfMath
import Derived.Maps.OwnIn
namespace Go.Proofs.YtaboafkpmgadmaaDoor
open Go.RowKit Go.Shelf
set_option maxRecDepth 100000

attribute [local go_sem] Oper.semAt_some

/-- the edges of a graph -/
def gR (es : List (Int × Int)) (i j : Nat) : Bool := decide (((i : Int), (j : Int)) ∈ es)
theorem okE_of {N : Int} {es : List (Int × Int)} (h : inR N es = true) : ∀ k, k < es.length → okE N (ed es k) = true := fun k hk => by
  unfold inR at h
  rw [Bool.and_eq_true] at h
  exact List.all_eq_true.1 h.2 _ (ed_mem es k hk)
theorem okN_of {N : Int} {es : List (Int × Int)} (h : inR N es = true) : 0 ≤ N ∧ N ≤ 200 := by
  unfold inR okN200 at h
  rw [Bool.and_eq_true, Bool.and_eq_true] at h
  exact ⟨of_decide_eq_true h.1.1, of_decide_eq_true h.1.2⟩
theorem edge_in {m : Nat} {es : List (Int × Int)} (h : inR m es = true) {a b : Int} (hm : (a, b) ∈ es) : 0 ≤ a ∧ a < m ∧ 0 ≤ b ∧ b < m := by
  obtain ⟨k, hk, e⟩ := mem_ed hm
  have h1 := okE_of h k hk
  rw [e] at h1
  unfold okE at h1
  rw [Bool.and_eq_true] at h1
  have h2 := nodeB_true h1.1
  have h3 := nodeB_true h1.2
  simp only at h2 h3
  omega
theorem gR_lt {m : Nat} {es : List (Int × Int)} (h : inR m es = true) : ∀ i j, gR es i j = true → i < m ∧ j < m := fun i j hg => by
  have := edge_in h (of_decide_eq_true hg)
  omega
theorem nxt_bit {m : Nat} {es : List (Int × Int)} (h : inR m es = true) (i j : Nat) : bitB (nxt es i) j = gR es i j := by
  unfold nxt gR
  rw [ofS_bit, Bool.eq_iff_iff, decide_eq_true_iff, decide_eq_true_iff, mem_alw, tos_mem]
  constructor
  · exact fun hh => hh.1
  · intro hh
    have := edge_in h hh
    have := okN_of h
    exact ⟨hh, by omega⟩
theorem eR_nxt {m : Nat} {es : List (Int × Int)} (h : inR m es = true) : eR ((List.range m).map (nxt es)) m = gR es := by
  funext i j
  unfold eR
  by_cases hi : i < m
  · rw [st_map _ _ _ hi, nxt_bit h]; simp [hi]
  · have : gR es i j = false := by
      cases hg : gR es i j with
      | false => rfl
      | true => exact absurd (gR_lt h i j hg).1 hi
    rw [this]; simp [hi]
theorem nxt_bits {m : Nat} {es : List (Int × Int)} (h : inR m es = true) : ∀ k, k < m → ∀ j, bitB (st ((List.range m).map (nxt es)) k) j = true → j < m := fun k hk j hj => by
  rw [st_map _ _ _ hk, nxt_bit h] at hj
  exact (gR_lt h k j hj).2
theorem nxt_room (m : Nat) (es : List (Int × Int)) : ∀ k, k < m → (st ((List.range m).map (nxt es)) k).length ≤ 1024 := fun k hk => by
  rw [st_map _ _ _ hk]; exact ofS_len _

/-- the topological order -/
def ordr (m : Nat) (es : List (Int × Int)) : List Nat := topo (gR es) m

set_option maxHeartbeats 1000000 in
theorem sort_no (A : Option Addr) (c : Nat) (N : Int) (es : List (Int × Int)) (w : World) (he : RdE w w.heap.size A es) (hin : inR N es = false) :
    Calls Tryd.prog 13 #[.agg #[.int .i64 N, .slice A es.length c]] w fun e w' => e = .returned (.tuple #[.slice none 0 0, .int .i64 2]) ∧ Below w.heap.size w w' := by
  go_enter Tryd.func13, Tryd.ntmps13
  go_wp2_with fail
  have hG := GBox.new w N A es.length c 24
  obtain ⟨w1, hw1⟩ : ∃ w1, w1 = w.alloc (.cells #[.int .i64 N, .slice A es.length c] 24) := ⟨_, rfl⟩
  have hb1 : Below w.heap.size w w1 := by rw [hw1]; exact (Below.refl _ _).alloc (Nat.le_refl _) _
  rw [← hw1] at hG ⊢
  clear hw1
  have he1 := he.step hb1
  refine (inRange_any _ _ _ _ _ he1).mono ?_
  rw [hin]
  rintro e w2 ⟨rfl, hb2⟩
  have hb := hb1.trans (hb2.mono hb1.size)
  clear hb1 hb2 hG
  go_wp2
  go_ret2
  exact ⟨rfl, hb⟩

/-- what Sort answers where the edges are in range: the order, or that there is a loop -/
def SortEnds (E : TypeId) (w : World) (m : Nat) (o : List Nat) (e : Ending) (w' : World) : Prop :=
  ((o.length = m ∧ ∃ v, e = .returned (.tuple #[v, .int .i64 0]) ∧ w'.ownsRow w.heap.size E 1 v (toI o).length (iVals (toI o))) ∨ (o.length < m ∧ e = .returned (.tuple #[.slice none 0 0, .int .i64 3]))) ∧ Below w.heap.size w w'

theorem own_mono {w : World} {B B' : Nat} {e : TypeId} {size n : Nat} {v : Value} {xs : List Value} (h : w.ownsRow B e size v n xs) (hB : B' ≤ B) : w.ownsRow B' e size v n xs := by
  obtain ⟨h1, h2⟩ := h
  refine ⟨h1, ?_⟩
  rcases h2 with h2 | ⟨g, cap, cur, hv, hb, hr⟩
  · exact .inl h2
  · exact .inr ⟨g, cap, cur, hv, by omega, hr⟩

set_option maxHeartbeats 2000000 in
theorem sort_in (n : Nat) (hn : 12 ≤ n) (A : Option Addr) (c m : Nat) (es : List (Int × Int)) (w : World) (he : RdE w w.heap.size A es) (hin : inR m es = true) (hT : Tab w) :
    CallsIn Fence.wide n Tryd.prog 13 #[.agg #[.int .i64 (m : Int), .slice A es.length c]] w (SortEnds 3 w m (ordr m es)) := by
  have h1 : 1 ≤ n := by omega
  obtain ⟨i0, hi, hz0, hz1, hz2⟩ := info_parts Tryd.infoInt
  have hm := okN_of hin
  have hm2 : m ≤ 200 := by omega
  have hok := okE_of hin
  refine callsIn_of_wp_marks Tryd.func13 rfl trivial ?_ rfl
  simp only [Tryd.ntmps13, List.size_toArray, List.length_cons, List.length_nil, Nat.reduceAdd, Nat.reduceSub, Array.replicate_succ, Array.replicate_zero, List.push_toArray, List.append_toArray, List.nil_append, List.cons_append]
  gi_wp2_with fail
  have hG := GBox.new w m A es.length c 24
  obtain ⟨w1, hw1⟩ : ∃ w1, w1 = w.alloc (.cells #[.int .i64 (m : Int), .slice A es.length c] 24) := ⟨_, rfl⟩
  have hb1 : Below w.heap.size w w1 := by rw [hw1]; exact (Below.refl _ _).alloc (Nat.le_refl _) _
  have hs1 : w.heap.size < w1.heap.size := by rw [hw1]; simp
  rw [← hw1] at hG ⊢
  clear hw1 hm
  have he1 := he.step hb1
  refine ⟨trivial, ?_⟩
  refine (callsIn_wide.2 (inRange_any _ _ _ _ _ he1)).mono ?_
  rw [hin]
  rintro e w2 ⟨rfl, hb2⟩
  have hG2 := hG.below hb2 hs1
  have he2 := he1.step hb2
  have hB2 : Below w.heap.size w w2 := hb1.trans (hb2.mono hb1.size)
  have hs2 : w.heap.size < w2.heap.size := Nat.lt_of_lt_of_le hs1 hb2.size
  have hgn := hG2.n
  have hge := hG2.e
  clear hb1 hs1 he1 hb2 hG
  obtain ⟨wm, hmk, hrow0, hgr0⟩ := run_make_own (P := Tryd.prog) w2 (w.heap.size + 1) 25 3 i0 (.int .i64 0) 1 Tryd.underlying25 hi hz0 hz1 .i64 .i64 m (by rw [hz2]; omega) (by unfold maxLen; omega) (by omega)
  have hbm : Below w2.heap.size w2 wm := (Below.refl _ w2).grown hgr0 (Nat.le_refl _) (fun k e => by cases e)
  have hGm := hG2.below hbm hs2
  have hgn' := hGm.n
  have hge' := hGm.e
  have hsm : w.heap.size < wm.heap.size := Nat.lt_of_lt_of_le hs2 hbm.size
  have hg2m : w2.heap.size < wm.heap.size := own_block_lt hrow0 _ rfl
  gi_wp2_with fail
  have bO := Boxed.new wm 25 (.slice (some ⟨w2.heap.size, 0, none⟩) 0 m)
  obtain ⟨w3, hw3⟩ : ∃ w3, w3 = wm.alloc (.cells #[.slice (some ⟨w2.heap.size, 0, none⟩) 0 m] 25) := ⟨_, rfl⟩
  have hb3 : Below wm.heap.size wm w3 := by rw [hw3]; exact (Below.refl _ _).alloc (Nat.le_refl _) _
  have hs3 : wm.heap.size < w3.heap.size := by rw [hw3]; simp
  have hr3 : w3.ownsRow (w.heap.size + 1) 3 1 (.slice (some ⟨w2.heap.size, 0, none⟩) 0 m) 0 [] := by rw [hw3]; exact hrow0.alloc _
  have hG3 := hGm.below hb3 hsm
  have hB3 : Below w.heap.size w w3 := (hB2.trans (hbm.mono hB2.size)).trans (hb3.mono (by have := hB2.size; have := hbm.size; omega))
  rw [← hw3] at bO ⊢
  obtain ⟨Bo, hBo⟩ : ∃ Bo, Bo = wm.heap.size := ⟨_, rfl⟩
  rw [← hBo] at bO hs3 ⊢
  have HBo := Lib.hid hBo
  have he3 : RdE w3 w3.heap.size A es := (he.below hB3).more hB3.size
  have hs3' : w.heap.size < w3.heap.size := by omega
  clear hmk hgn hge hgn' hge' hrow0 hgr0 hw3 hG2 hGm he2 hb3 hbm hB2
  have hwBo : w.heap.size < Bo := by omega
  have hg2Bo : w2.heap.size < Bo := by omega
  clear hBo
  refine ⟨trivial, ?_⟩
  refine (callsIn_wide.2 (successors_any _ _ m es _ he3 hm2 hok)).mono ?_
  rintro e w4 ⟨A4, rfl, hu4, hb4⟩
  have bO4 := bO.kept (row := none) ⟨hb4.os, hb4.tape, hb4.output, hb4.size, fun i hi _ => hb4.block i hi⟩ (by simp)
  have hr4 := ownsRow_keeps hr3 (Keeps.of_below (p := fun b => b < w3.heap.size) hb4 fun _ _ h => h) (own_block_lt hr3)
  have hG4 := hG3.below hb4 hs3'
  have hB4 : Below w.heap.size w w4 := hB3.trans (hb4.mono hB3.size)
  have hs4 : Bo < w4.heap.size := Nat.lt_of_lt_of_le hs3 hb4.size
  have hT4 := hT.step hB4
  clear hb4 hG3 hr3 bO he3 hB3
  gi_wp2_with (refine ⟨trivial, ?_⟩; refine (smallestFirst_in (n - 1) _ _ _ _).mono ?_; rintro e w' ⟨rfl, rfl⟩)
  have hh5 := Boxed.new w4 29 (.slice A4 m m)
  have bO5 := bO4.alloc (.cells #[.slice A4 m m] 29)
  have hr5 := hr4.alloc (.cells #[.slice A4 m m] 29)
  have hG5 : GBox (w4.alloc (.cells #[.slice A4 m m] 29)) w.heap.size m A es.length c := hG4.below (below_alloc w4 _) (by omega)
  obtain ⟨w5, hw5⟩ : ∃ w5, w5 = w4.alloc (.cells #[.slice A4 m m] 29) := ⟨_, rfl⟩
  rw [← hw5] at hh5 bO5 hr5 hG5 ⊢
  have hs5 : w5.heap.size = w4.heap.size + 1 := by rw [hw5]; simp
  have hb5 : Below w4.heap.size w4 w5 := by rw [hw5]; exact below_alloc _ _
  have hB5 : Below w.heap.size w w5 := hB4.trans (hb5.mono hB4.size)
  have hT5 := hT4.step hb5
  have hu5 := hu4.lt'.keeps (Keeps.of_below (p := fun b => b < w4.heap.size) hb5 fun _ _ h => h) (fun b hb => hb.2)
  have hTn : 0 < w.heap.size := hT.pos
  obtain ⟨Bs, hBs⟩ : ∃ Bs, Bs = w4.heap.size := ⟨_, rfl⟩
  rw [← hBs] at hh5 hs5 hs4 hu5 ⊢
  have hBsl : Bs < w5.heap.size := by omega
  clear hw5 hr4 bO4 hG4 hB4 hT4 hb5 hu4 hBs hs5
  obtain ⟨xss, hxss⟩ : ∃ xss, xss = (List.range m).map (nxt es) := ⟨_, rfl⟩
  have hxl : xss.length = m := by rw [hxss]; simp
  have hbits : ∀ k, k < m → ∀ j, bitB (st xss k) j = true → j < m := by rw [hxss]; exact nxt_bits hin
  have hroom : ∀ k, k < m → (st xss k).length ≤ 1024 := by rw [hxss]; exact nxt_room m es
  have hord : topo (eR xss m) m = ordr m es := by rw [hxss, eR_nxt hin]; rfl
  have HORD := Lib.hid hord
  rw [← hxss] at hu5
  clear hxss hord
  refine wpIn_rangeFunc_O rfl h1 (gf := 81) (lb := #[.pointer (some ⟨Bs, 0, none⟩)]) rfl trivial (enters_of Tryd.func81 (by kernel_rfl) rfl)
    (smallest1_in (n - 1) (by omega) m hm2 Bs m (fun b => w3.heap.size ≤ b ∧ b < Bs) A4 xss hxl w5 hu5 (fun b hb => by omega) hh5.cell (by omega) hbits hroom hT5) (Keeps.refl _ _) (fun _ => rfl)
    (fun ys O W => CollI 25 3 1 (w.heap.size + 1) Bo (toI (vals ys)).length (iVals (toI (vals ys))) O W ∧ Below (w.heap.size + 1) w5 W) (fun _ _ _ _ => False)
    ?stab (fun _ _ _ _ _ h _ => h.elim) (fun k => k = Bo ∨ k = w2.heap.size) ?own (fun k hk => by rcases hk with h | h | h <;> omega) ?start
    (fun pre x a' O W => (CollI 25 3 1 (w.heap.size + 1) Bo (toI (vals pre)).length (iVals (toI (vals pre))) O W ∧ Below (w.heap.size + 1) w5 W) ∧ a' = { tmps := #[.agg #[.int .i64 (m : Int), .slice A es.length c], .pointer (some ⟨w.heap.size, 0, none⟩), .slice none 0 0, .int .i64 0, .pointer (some ⟨Bo, 0, none⟩), .int .i64 (x.1 : Int), .agg #[.int .i64 (m : Int), .slice A es.length c], .bool true, .bool false, .pointer (some ⟨w.heap.size, 0, none⟩), .int .i64 (m : Int), .slice (some ⟨w2.heap.size, 0, none⟩) 0 m, .agg #[.int .i64 (m : Int), .slice A es.length c], .slice A4 m m, .func (.func 81) #[] #[.pointer (some ⟨Bs, 0, none⟩)], .int .i64 (x.1 : Int), undef, undef, undef, undef, undef, undef, undef, undef, undef, undef], defers := [] })
    ?stabx ?assign ?body ?done ?stop
  case own =>
    intro k hk
    exact ⟨by omega, fun h => by rcases h with h | h | h <;> omega⟩
  case start => exact ⟨⟨_, bO5, hr5, .inl rfl, fun b hb => .inr (by simpa [Value.ownBlock] using hb.symm)⟩, Below.refl _ _⟩
  case stab =>
    rintro s O W W' ⟨h, hb⟩ hk
    exact ⟨h.keeps hk fun b hb => .inr hb, hb.trans (hk.below (by have := hb.size; omega) fun k hk => .inl (by omega))⟩
  case stabx =>
    rintro pre x a' s O W W' ⟨⟨h, hb⟩, ha⟩ hk
    exact ⟨⟨h.keeps hk fun b hb => .inr hb, hb.trans (hk.below (by have := hb.size; omega) fun k hk => .inl (by omega))⟩, ha⟩
  case assign =>
    intro l pre x O W K hI hlen hsz htop hK
    gi_wp2
    exact hK _ _ _ (StepO.refl htop) ⟨hI, rfl⟩
  case body =>
    rintro l pre x a' O W ⟨⟨⟨v, hv, hrow, hOB, hOv⟩, hBW⟩, rfl⟩ hlen hsz htop
    replace hlen : pre.length < m := hlen
    have hc := hv.cell
    have hpl : (toI (vals pre)).length = pre.length := by rw [toI_len, vals_len]
    have hp1 : (toI (vals pre)).length + 1 ≤ maxLen := by unfold maxLen; omega
    have hp2 : ((toI (vals pre)).length + 1) * 8 ≤ 140737488355328 := by omega
    have hp3 : w.heap.size + 1 ≤ (W.alloc (.cells #[.int .i64 (x.1 : Int)] 3)).heap.size := by simp; omega
    have hp4 : w.heap.size + 1 ≤ W.heap.size := by omega
    clear bO5 hr5 hh5 hG5 hpl
    gi_wp2_with (gi_at_builtin; refine wpListIn_append_own_at _ rfl _ _ 25 rfl (w.heap.size + 1) 3 i0 (.int .i64 0) 1 8 Tryd.underlying25 hi hz0 hz1 hz2 rfl (by decide) _ _ _ rfl (hrow.alloc _) ⟨W.heap.size, 0, none⟩ 1 1 [.int .i64 (x.1 : Int)] rfl rfl (cell_one_new _ _ _) (by simp [Value.oneCell']) hp1 hp2 hp3 ?_; intro v' w1 hown' hgrow _ hat; obtain ⟨g', cap', rfl⟩ := ownsRow_succ hown'; have hcs := CollI.step hv (by decide) hrow hp4 (by omega) hOB hOv hown' hgrow hat; have hv1 : Boxed w1 Bo 25 v := (hv.alloc _).kept hgrow (hv.not_row (by decide) hrow); have hc1 := hv1.cell; have hf1 := hv1.frozen)
    obtain ⟨q1, q2, q3⟩ := hcs
    rw [iVals_snoc, ← toI_snoc, ← vals_snoc] at q1
    have he : (toI (vals pre)).length + 1 = (toI (vals (pre ++ [x]))).length := by rw [vals_snoc, toI_snoc]; simp
    rw [he] at q1 q2 q3 ⊢
    exact ⟨_, q2, q1, hBW.trans q3⟩
  case done =>
    rintro D O xs W hD hOD hxs ⟨⟨v, hv, hrow, hOB, hOv⟩, hBW⟩ hK
    have hGW := hG5.below hBW (Nat.lt_succ_self _)
    have hgn := hGW.n
    rw [hxs, HORD.out] at hrow
    obtain ⟨o, ho⟩ : ∃ o, o = ordr m es := ⟨_, rfl⟩
    rw [← ho] at hrow
    have HO := Lib.hid ho
    have hol : o.length ≤ m := by rw [ho]; exact (good_topoN _ _ _).len
    have HTL := Lib.hid (toI_len o)
    obtain ⟨Av, cv, rfl⟩ := own_any hrow
    have hc := hv.cell
    have hBf : Below w.heap.size w W := hB5.trans (hBW.mono (by omega))
    clear bO5 hr5 hh5 hG5 hxs ho
    by_cases hlt : (toI o).length < m
    · gi_wp2
      refine ⟨by simp, .inl ⟨_, _, rfl, run_takeDeferred hK, ?_⟩⟩
      refine ⟨_, results_tmp2 rfl _ _ _, ?_⟩
      refine ⟨.inr ⟨?_, rfl⟩, hBf.trans (belowK_b (w := w) (Nat.le_refl _) W D _ _ (by omega) hK rfl rfl)⟩
      rw [← HO.out, ← HTL.out]; exact hlt
    · gi_wp2
      refine ⟨by simp, .inl ⟨_, _, rfl, run_takeDeferred hK, ?_⟩⟩
      refine ⟨_, results_tmp2 rfl _ _ _, ?_⟩
      refine ⟨.inl ⟨?_, _, rfl, ?_⟩, hBf.trans (belowK_b (w := w) (Nat.le_refl _) W D _ _ (by omega) hK rfl rfl)⟩
      · rw [← HO.out]
        have := HTL.out
        omega
      · rw [← HO.out]
        exact own_mono (ownsRow_putObj hrow _ hK rfl) (by omega)
  case stop =>
    rintro D c' O pre W _ _ _ h _
    exact h.elim
end Go.Proofs.YtaboafkpmgadmaaDoor
