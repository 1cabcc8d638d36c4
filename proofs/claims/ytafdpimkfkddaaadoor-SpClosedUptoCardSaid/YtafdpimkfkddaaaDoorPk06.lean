/-
  The set of a list's numbers: its bits, its last word, its list. Plain lemmas.
  Contract of graph.Sort.
  Contract of graph.union; slices.Backward over ints.
  The set of the nodes that follow a node: its bits; how it is made of the successors' sets. Plain lemmas.
-/
import Derived.Test.YtafdpimkfkddaaaDoorPk03
import Derived.Test.YtafdpimkfkddaaaDoorPk05
import Derived.Maps.OwnIn
namespace Go.Proofs.YtafdpimkfkddaaaDoor

theorem pw_bit (x j : Nat) : (pw x).testBit j = decide (x % 64 = j) := by unfold pw; rw [Nat.testBit_two_pow]
theorem setB_bit (l : List Nat) (k j : Nat) (hj : j < 64) : (setB l k).testBit j = decide (64 * k + j ∈ l) := by
  have : ∀ (l : List Nat) (a : Nat), (l.foldl (fun a x => if k = x / 64 then orN a (pw x) else a) a).testBit j = (a.testBit j || decide (64 * k + j ∈ l)) := by
    intro l
    induction l with
    | nil => intro a; simp
    | cons x l ih =>
      intro a
      show (l.foldl (fun a x => if k = x / 64 then orN a (pw x) else a) (if k = x / 64 then orN a (pw x) else a)).testBit j = _
      rw [ih]
      by_cases hk : k = x / 64
      · rw [if_pos hk]
        unfold orN
        rw [Nat.testBit_or, pw_bit]
        by_cases hx : x % 64 = j
        · have e : x = 64 * k + j := by omega
          simp [hx, ← e]
        · have e : ¬ 64 * k + j = x := by omega
          simp [hx, e]
      · rw [if_neg hk]
        have e : ¬ 64 * k + j = x := by omega
        simp [e]
  have h := this l 0
  rw [Nat.zero_testBit, Bool.false_or] at h
  exact h
theorem ofS_tb (zs : List Int) (k j : Nat) (hj : j < 64) : tb (ofS zs) k j = decide (64 * k + j ∈ alw zs) := by
  unfold tb ofS ofL
  rw [wd_map]
  split
  · exact setB_bit _ k j hj
  · rename_i hk
    rw [Nat.zero_testBit]
    symm
    rw [decide_eq_false_iff_not]
    intro hm
    have := gN_ge (alw zs) _ hm
    omega
theorem gN_mem (l : List Nat) (h : 0 < gN l) : gN l - 1 ∈ l := by
  have : ∀ (l : List Nat) (g : Nat), l.foldl (fun g x => max g (x + 1)) g = g ∨ (l.foldl (fun g x => max g (x + 1)) g - 1 ∈ l ∧ 0 < l.foldl (fun g x => max g (x + 1)) g) := by
    intro l
    induction l with
    | nil => intro g; exact .inl rfl
    | cons a l ih =>
      intro g
      rcases ih (max g (a + 1)) with h | h
      · rcases Nat.le_total g (a + 1) with hg | hg
        · right
          show l.foldl (fun g x => max g (x + 1)) (max g (a + 1)) - 1 ∈ a :: l ∧ 0 < l.foldl (fun g x => max g (x + 1)) (max g (a + 1))
          rw [h, Nat.max_eq_right hg]
          simp
        · left
          show l.foldl (fun g x => max g (x + 1)) (max g (a + 1)) = g
          rw [h, Nat.max_eq_left hg]
      · right
        exact ⟨List.mem_cons_of_mem _ h.1, h.2⟩
  rcases this l 0 with h' | h'
  · unfold gN at h; omega
  · exact h'.1
theorem ofS_noTail (zs : List Int) : NoTail (ofS zs) := by
  by_cases h : 0 < gN (alw zs)
  · right
    intro h0
    have hl : (ofS zs).length = (gN (alw zs) + 63) / 64 := by unfold ofS; rw [ofL_len]
    have hb := ofS_tb zs ((ofS zs).length - 1) ((gN (alw zs) - 1) % 64) (by omega)
    unfold tb at hb
    rw [h0, Nat.zero_testBit] at hb
    have e : 64 * ((ofS zs).length - 1) + (gN (alw zs) - 1) % 64 = gN (alw zs) - 1 := by rw [hl]; omega
    rw [e, decide_eq_true (gN_mem _ h)] at hb
    cases hb
  · left
    have e : gN (alw zs) = 0 := by omega
    unfold ofS
    rw [e]
    rfl
theorem mem_alw (zs : List Int) (n : Nat) : n ∈ alw zs ↔ (n : Int) ∈ zs ∧ n ≤ 65535 := by
  unfold alw
  rw [List.mem_filterMap]
  constructor
  · rintro ⟨z, hz, h⟩
    unfold okN at h
    split at h
    · injection h with h
      have e : z = (n : Int) := by omega
      subst e
      exact ⟨hz, by omega⟩
    · cases h
  · rintro ⟨hz, hn⟩
    refine ⟨n, hz, ?_⟩
    unfold okN
    rw [if_pos ⟨by omega, by omega⟩]
    simp
theorem ofS_congr {ys zs : List Int} (h : ∀ n, n ∈ alw ys ↔ n ∈ alw zs) : ofS ys = ofS zs :=
  same_sets (ofS_noTail ys) (ofS_noTail zs) (ofS_wd ys) (ofS_wd zs) fun k j hj => by
    rw [ofS_tb ys k j hj, ofS_tb zs k j hj, Bool.eq_iff_iff, decide_eq_true_iff, decide_eq_true_iff]
    exact h _

/-- the list of the set of zs -/
def lst (zs : List Int) : List Int := alist (ofS zs) (64 * (ofS zs).length)
theorem mem_alist (xs : List Nat) (n : Nat) (z : Int) : z ∈ alist xs n ↔ ∃ k, k < n ∧ bitB xs k = true ∧ z = (k : Int) := by
  unfold alist
  rw [List.mem_map]
  constructor
  · rintro ⟨k, hk, rfl⟩
    obtain ⟨h1, h2⟩ := List.mem_filter.1 hk
    exact ⟨k, List.mem_range.1 h1, h2, rfl⟩
  · rintro ⟨k, h1, h2, rfl⟩
    exact ⟨k, List.mem_filter.2 ⟨List.mem_range.2 h1, h2⟩, rfl⟩
theorem bitB_tb (xs : List Nat) (n : Nat) : bitB xs n = tb xs (n / 64) (n % 64) := rfl
theorem ofS_bit (zs : List Int) (n : Nat) : bitB (ofS zs) n = decide (n ∈ alw zs) := by
  rw [bitB_tb, ofS_tb zs _ _ (by omega), show 64 * (n / 64) + n % 64 = n by omega]
theorem bit_in (xs : List Nat) (n : Nat) (h : bitB xs n = true) : n < 64 * xs.length := by
  rcases Nat.lt_or_ge n (64 * xs.length) with h1 | h1
  · exact h1
  · unfold bitB at h
    rw [wd_out xs _ (by omega), Nat.zero_testBit] at h
    cases h
theorem mem_lst (zs : List Int) (z : Int) : z ∈ lst zs ↔ ∃ k, k ∈ alw zs ∧ z = (k : Int) := by
  unfold lst
  rw [mem_alist]
  constructor
  · rintro ⟨k, _, h2, rfl⟩
    rw [ofS_bit, decide_eq_true_iff] at h2
    exact ⟨k, h2, rfl⟩
  · rintro ⟨k, h, rfl⟩
    have hb : bitB (ofS zs) k = true := by rw [ofS_bit]; exact decide_eq_true h
    exact ⟨k, bit_in _ _ hb, hb, rfl⟩
theorem lst_sub (zs : List Int) (z : Int) (h : z ∈ lst zs) : z ∈ zs := by
  obtain ⟨k, hk, rfl⟩ := (mem_lst zs z).1 h
  exact ((mem_alw zs k).1 hk).1
theorem of_lst (zs : List Int) : ofS (lst zs) = ofS zs := ofS_congr fun n => by
  rw [mem_alw]
  constructor
  · rintro ⟨h, _⟩
    obtain ⟨k, hk, e⟩ := (mem_lst zs _).1 h
    have : k = n := by omega
    subst this
    exact hk
  · intro h
    exact ⟨(mem_lst zs _).2 ⟨n, h, rfl⟩, by have := alw_lt zs n h; omega⟩
theorem alist_sorted (xs : List Nat) (n : Nat) : (alist xs n).Pairwise (· < ·) := by
  unfold alist
  rw [List.pairwise_map]
  refine List.Pairwise.filter _ ?_
  exact List.pairwise_lt_range.imp fun h => by omega
theorem alist_up (xs : List Nat) (n i : Nat) (h : i + 1 < (alist xs n).length) : zd (alist xs n) i < zd (alist xs n) (i + 1) := by
  have hp := List.pairwise_iff_getElem.1 (alist_sorted xs n) i (i + 1) (by omega) h (by omega)
  unfold zd
  simpa [List.getD, h, show i < (alist xs n).length by omega] using hp
theorem zd_mem (zs : List Int) (i : Nat) (h : i < zs.length) : zd zs i ∈ zs := by
  unfold zd
  simp [List.getD, h]
end Go.Proofs.YtafdpimkfkddaaaDoor

namespace Go.Proofs.YtafdpimkfkddaaaDoor
open Go.RowKit Go.Shelf
set_option maxRecDepth 100000

attribute [local go_sem] Oper.semAt_some

/-- the edges of a graph -/
def gR (es : List (Int × Int)) (i j : Nat) : Bool := decide (((i : Int), (j : Int)) ∈ es)
theorem okE_of {N : Int} {es : List (Int × Int)} (h : inR N es = true) : ∀ k, k < es.length → okE N (ed es k) = true := fun k hk => by
  unfold inR at h
  rw [Bool.and_eq_true] at h
  exact List.all_eq_true.1 h.2 _ (ed_mem es k hk)
theorem okN_of {N : Int} {es : List (Int × Int)} (h : inR N es = true) : 0 ≤ N ∧ N ≤ 200 := by
  unfold inR okN200 at h
  rw [Bool.and_eq_true, Bool.and_eq_true] at h
  exact ⟨of_decide_eq_true h.1.1, of_decide_eq_true h.1.2⟩
theorem edge_in {m : Nat} {es : List (Int × Int)} (h : inR m es = true) {a b : Int} (hm : (a, b) ∈ es) : 0 ≤ a ∧ a < m ∧ 0 ≤ b ∧ b < m := by
  obtain ⟨k, hk, e⟩ := mem_ed hm
  have h1 := okE_of h k hk
  rw [e] at h1
  unfold okE at h1
  rw [Bool.and_eq_true] at h1
  have h2 := nodeB_true h1.1
  have h3 := nodeB_true h1.2
  simp only at h2 h3
  omega
theorem gR_lt {m : Nat} {es : List (Int × Int)} (h : inR m es = true) : ∀ i j, gR es i j = true → i < m ∧ j < m := fun i j hg => by
  have := edge_in h (of_decide_eq_true hg)
  omega
theorem nxt_bit {m : Nat} {es : List (Int × Int)} (h : inR m es = true) (i j : Nat) : bitB (nxt es i) j = gR es i j := by
  unfold nxt gR
  rw [ofS_bit, Bool.eq_iff_iff, decide_eq_true_iff, decide_eq_true_iff, mem_alw, tos_mem]
  constructor
  · exact fun hh => hh.1
  · intro hh
    have := edge_in h hh
    have := okN_of h
    exact ⟨hh, by omega⟩
theorem eR_nxt {m : Nat} {es : List (Int × Int)} (h : inR m es = true) : eR ((List.range m).map (nxt es)) m = gR es := by
  funext i j
  unfold eR
  by_cases hi : i < m
  · rw [st_map _ _ _ hi, nxt_bit h]; simp [hi]
  · have : gR es i j = false := by
      cases hg : gR es i j with
      | false => rfl
      | true => exact absurd (gR_lt h i j hg).1 hi
    rw [this]; simp [hi]
theorem nxt_bits {m : Nat} {es : List (Int × Int)} (h : inR m es = true) : ∀ k, k < m → ∀ j, bitB (st ((List.range m).map (nxt es)) k) j = true → j < m := fun k hk j hj => by
  rw [st_map _ _ _ hk, nxt_bit h] at hj
  exact (gR_lt h k j hj).2
theorem nxt_room (m : Nat) (es : List (Int × Int)) : ∀ k, k < m → (st ((List.range m).map (nxt es)) k).length ≤ 1024 := fun k hk => by
  rw [st_map _ _ _ hk]; exact ofS_len _

/-- the topological order -/
def ordr (m : Nat) (es : List (Int × Int)) : List Nat := topo (gR es) m

set_option maxHeartbeats 1000000 in
theorem sort_no (A : Option Addr) (c : Nat) (N : Int) (es : List (Int × Int)) (w : World) (he : RdE w w.heap.size A es) (hin : inR N es = false) :
    Calls Tryd.prog 31 #[.agg #[.int .i64 N, .slice A es.length c]] w fun e w' => e = .returned (.tuple #[.slice none 0 0, .int .i64 2]) ∧ Below w.heap.size w w' := by
  go_enter Tryd.func31, Tryd.ntmps31
  go_wp2_with fail
  have hG := GBox.new w N A es.length c 29
  obtain ⟨w1, hw1⟩ : ∃ w1, w1 = w.alloc (.cells #[.int .i64 N, .slice A es.length c] 29) := ⟨_, rfl⟩
  have hb1 : Below w.heap.size w w1 := by rw [hw1]; exact (Below.refl _ _).alloc (Nat.le_refl _) _
  rw [← hw1] at hG ⊢
  clear hw1
  have he1 := he.step hb1
  refine (inRange_any _ _ _ _ _ he1).mono ?_
  rw [hin]
  rintro e w2 ⟨rfl, hb2⟩
  have hb := hb1.trans (hb2.mono hb1.size)
  clear hb1 hb2 hG
  go_wp2
  go_ret2
  exact ⟨rfl, hb⟩

/-- what Sort answers where the edges are in range: the order, or that there is a loop -/
def SortEnds (E : TypeId) (w : World) (m : Nat) (o : List Nat) (e : Ending) (w' : World) : Prop :=
  ((o.length = m ∧ ∃ v, e = .returned (.tuple #[v, .int .i64 0]) ∧ w'.ownsRow w.heap.size E 1 v (toI o).length (iVals (toI o))) ∨ (o.length < m ∧ e = .returned (.tuple #[.slice none 0 0, .int .i64 3]))) ∧ Below w.heap.size w w'

theorem own_mono {w : World} {B B' : Nat} {e : TypeId} {size n : Nat} {v : Value} {xs : List Value} (h : w.ownsRow B e size v n xs) (hB : B' ≤ B) : w.ownsRow B' e size v n xs := by
  obtain ⟨h1, h2⟩ := h
  refine ⟨h1, ?_⟩
  rcases h2 with h2 | ⟨g, cap, cur, hv, hb, hr⟩
  · exact .inl h2
  · exact .inr ⟨g, cap, cur, hv, by omega, hr⟩

set_option maxHeartbeats 2000000 in
theorem sort_in (n : Nat) (hn : 12 ≤ n) (A : Option Addr) (c m : Nat) (es : List (Int × Int)) (w : World) (he : RdE w w.heap.size A es) (hin : inR m es = true) (hT : Tab w) :
    CallsIn Fence.wide n Tryd.prog 31 #[.agg #[.int .i64 (m : Int), .slice A es.length c]] w (SortEnds 3 w m (ordr m es)) := by
  have h1 : 1 ≤ n := by omega
  obtain ⟨i0, hi, hz0, hz1, hz2⟩ := info_parts Tryd.infoInt
  have hm := okN_of hin
  have hm2 : m ≤ 200 := by omega
  have hok := okE_of hin
  refine callsIn_of_wp_marks Tryd.func31 rfl trivial ?_ rfl
  simp only [Tryd.ntmps31, List.size_toArray, List.length_cons, List.length_nil, Nat.reduceAdd, Nat.reduceSub, Array.replicate_succ, Array.replicate_zero, List.push_toArray, List.append_toArray, List.nil_append, List.cons_append]
  gi_wp2_with fail
  have hG := GBox.new w m A es.length c 29
  obtain ⟨w1, hw1⟩ : ∃ w1, w1 = w.alloc (.cells #[.int .i64 (m : Int), .slice A es.length c] 29) := ⟨_, rfl⟩
  have hb1 : Below w.heap.size w w1 := by rw [hw1]; exact (Below.refl _ _).alloc (Nat.le_refl _) _
  have hs1 : w.heap.size < w1.heap.size := by rw [hw1]; simp
  rw [← hw1] at hG ⊢
  clear hw1 hm
  have he1 := he.step hb1
  refine ⟨trivial, ?_⟩
  refine (callsIn_wide.2 (inRange_any _ _ _ _ _ he1)).mono ?_
  rw [hin]
  rintro e w2 ⟨rfl, hb2⟩
  have hG2 := hG.below hb2 hs1
  have he2 := he1.step hb2
  have hB2 : Below w.heap.size w w2 := hb1.trans (hb2.mono hb1.size)
  have hs2 : w.heap.size < w2.heap.size := Nat.lt_of_lt_of_le hs1 hb2.size
  have hgn := hG2.n
  have hge := hG2.e
  clear hb1 hs1 he1 hb2 hG
  obtain ⟨wm, hmk, hrow0, hgr0⟩ := run_make_own (P := Tryd.prog) w2 (w.heap.size + 1) 84 3 i0 (.int .i64 0) 1 Tryd.underlying84 hi hz0 hz1 .i64 .i64 m (by rw [hz2]; omega) (by unfold maxLen; omega) (by omega)
  have hbm : Below w2.heap.size w2 wm := (Below.refl _ w2).grown hgr0 (Nat.le_refl _) (fun k e => by cases e)
  have hGm := hG2.below hbm hs2
  have hgn' := hGm.n
  have hge' := hGm.e
  have hsm : w.heap.size < wm.heap.size := Nat.lt_of_lt_of_le hs2 hbm.size
  have hg2m : w2.heap.size < wm.heap.size := own_block_lt hrow0 _ rfl
  gi_wp2_with fail
  have bO := Boxed.new wm 84 (.slice (some ⟨w2.heap.size, 0, none⟩) 0 m)
  obtain ⟨w3, hw3⟩ : ∃ w3, w3 = wm.alloc (.cells #[.slice (some ⟨w2.heap.size, 0, none⟩) 0 m] 84) := ⟨_, rfl⟩
  have hb3 : Below wm.heap.size wm w3 := by rw [hw3]; exact (Below.refl _ _).alloc (Nat.le_refl _) _
  have hs3 : wm.heap.size < w3.heap.size := by rw [hw3]; simp
  have hr3 : w3.ownsRow (w.heap.size + 1) 3 1 (.slice (some ⟨w2.heap.size, 0, none⟩) 0 m) 0 [] := by rw [hw3]; exact hrow0.alloc _
  have hG3 := hGm.below hb3 hsm
  have hB3 : Below w.heap.size w w3 := (hB2.trans (hbm.mono hB2.size)).trans (hb3.mono (by have := hB2.size; have := hbm.size; omega))
  rw [← hw3] at bO ⊢
  obtain ⟨Bo, hBo⟩ : ∃ Bo, Bo = wm.heap.size := ⟨_, rfl⟩
  rw [← hBo] at bO hs3 ⊢
  have HBo := Lib.hid hBo
  have he3 : RdE w3 w3.heap.size A es := (he.below hB3).more hB3.size
  have hs3' : w.heap.size < w3.heap.size := by omega
  clear hmk hgn hge hgn' hge' hrow0 hgr0 hw3 hG2 hGm he2 hb3 hbm hB2
  have hwBo : w.heap.size < Bo := by omega
  have hg2Bo : w2.heap.size < Bo := by omega
  clear hBo
  refine ⟨trivial, ?_⟩
  refine (callsIn_wide.2 (successors_any _ _ m es _ he3 hm2 hok)).mono ?_
  rintro e w4 ⟨A4, rfl, hu4, hb4⟩
  have bO4 := bO.kept (row := none) ⟨hb4.os, hb4.tape, hb4.output, hb4.size, fun i hi _ => hb4.block i hi⟩ (by simp)
  have hr4 := ownsRow_keeps hr3 (Keeps.of_below (p := fun b => b < w3.heap.size) hb4 fun _ _ h => h) (own_block_lt hr3)
  have hG4 := hG3.below hb4 hs3'
  have hB4 : Below w.heap.size w w4 := hB3.trans (hb4.mono hB3.size)
  have hs4 : Bo < w4.heap.size := Nat.lt_of_lt_of_le hs3 hb4.size
  have hT4 := hT.step hB4
  clear hb4 hG3 hr3 bO he3 hB3
  gi_wp2_with (refine ⟨trivial, ?_⟩; refine (smallestFirst_in (n - 1) _ _ _ _).mono ?_; rintro e w' ⟨rfl, rfl⟩)
  have hh5 := Boxed.new w4 73 (.slice A4 m m)
  have bO5 := bO4.alloc (.cells #[.slice A4 m m] 73)
  have hr5 := hr4.alloc (.cells #[.slice A4 m m] 73)
  have hG5 : GBox (w4.alloc (.cells #[.slice A4 m m] 73)) w.heap.size m A es.length c := hG4.below (below_alloc w4 _) (by omega)
  obtain ⟨w5, hw5⟩ : ∃ w5, w5 = w4.alloc (.cells #[.slice A4 m m] 73) := ⟨_, rfl⟩
  rw [← hw5] at hh5 bO5 hr5 hG5 ⊢
  have hs5 : w5.heap.size = w4.heap.size + 1 := by rw [hw5]; simp
  have hb5 : Below w4.heap.size w4 w5 := by rw [hw5]; exact below_alloc _ _
  have hB5 : Below w.heap.size w w5 := hB4.trans (hb5.mono hB4.size)
  have hT5 := hT4.step hb5
  have hu5 := hu4.lt'.keeps (Keeps.of_below (p := fun b => b < w4.heap.size) hb5 fun _ _ h => h) (fun b hb => hb.2)
  have hTn : 0 < w.heap.size := hT.pos
  obtain ⟨Bs, hBs⟩ : ∃ Bs, Bs = w4.heap.size := ⟨_, rfl⟩
  rw [← hBs] at hh5 hs5 hs4 hu5 ⊢
  have hBsl : Bs < w5.heap.size := by omega
  clear hw5 hr4 bO4 hG4 hB4 hT4 hb5 hu4 hBs hs5
  obtain ⟨xss, hxss⟩ : ∃ xss, xss = (List.range m).map (nxt es) := ⟨_, rfl⟩
  have hxl : xss.length = m := by rw [hxss]; simp
  have hbits : ∀ k, k < m → ∀ j, bitB (st xss k) j = true → j < m := by rw [hxss]; exact nxt_bits hin
  have hroom : ∀ k, k < m → (st xss k).length ≤ 1024 := by rw [hxss]; exact nxt_room m es
  have hord : topo (eR xss m) m = ordr m es := by rw [hxss, eR_nxt hin]; rfl
  have HORD := Lib.hid hord
  rw [← hxss] at hu5
  clear hxss hord
  refine wpIn_rangeFunc_O rfl h1 (gf := 47) (lb := #[.pointer (some ⟨Bs, 0, none⟩)]) rfl trivial (enters_of Tryd.func47 (by kernel_rfl) rfl)
    (smallest1_in (n - 1) (by omega) m hm2 Bs m (fun b => w3.heap.size ≤ b ∧ b < Bs) A4 xss hxl w5 hu5 (fun b hb => by omega) hh5.cell (by omega) hbits hroom hT5) (Keeps.refl _ _) (fun _ => rfl)
    (fun ys O W => CollJ 84 3 1 (w.heap.size + 1) Bo (toI (vals ys)).length (iVals (toI (vals ys))) O W ∧ Below (w.heap.size + 1) w5 W) (fun _ _ _ _ => False)
    ?stab (fun _ _ _ _ _ h _ => h.elim) (fun k => k = Bo ∨ k = w2.heap.size) ?own (fun k hk => by rcases hk with h | h | h <;> omega) ?start
    (fun pre x a' O W => (CollJ 84 3 1 (w.heap.size + 1) Bo (toI (vals pre)).length (iVals (toI (vals pre))) O W ∧ Below (w.heap.size + 1) w5 W) ∧ a' = { tmps := #[.agg #[.int .i64 (m : Int), .slice A es.length c], .pointer (some ⟨w.heap.size, 0, none⟩), .slice none 0 0, .int .i64 0, .pointer (some ⟨Bo, 0, none⟩), .int .i64 (x.1 : Int), .agg #[.int .i64 (m : Int), .slice A es.length c], .bool true, .bool false, .pointer (some ⟨w.heap.size, 0, none⟩), .int .i64 (m : Int), .slice (some ⟨w2.heap.size, 0, none⟩) 0 m, .agg #[.int .i64 (m : Int), .slice A es.length c], .slice A4 m m, .func (.func 47) #[] #[.pointer (some ⟨Bs, 0, none⟩)], .int .i64 (x.1 : Int), undef, undef, undef, undef, undef, undef, undef, undef, undef, undef], defers := [] })
    ?stabx ?assign ?body ?done ?stop
  case own =>
    intro k hk
    exact ⟨by omega, fun h => by rcases h with h | h | h <;> omega⟩
  case start => exact ⟨⟨_, bO5, hr5, .inl rfl, fun b hb => .inr (by simpa [Value.ownBlock] using hb.symm)⟩, Below.refl _ _⟩
  case stab =>
    rintro s O W W' ⟨h, hb⟩ hk
    exact ⟨h.keeps hk fun b hb => .inr hb, hb.trans (hk.below (by have := hb.size; omega) fun k hk => .inl (by omega))⟩
  case stabx =>
    rintro pre x a' s O W W' ⟨⟨h, hb⟩, ha⟩ hk
    exact ⟨⟨h.keeps hk fun b hb => .inr hb, hb.trans (hk.below (by have := hb.size; omega) fun k hk => .inl (by omega))⟩, ha⟩
  case assign =>
    intro l pre x O W K hI hlen hsz htop hK
    gi_wp2
    exact hK _ _ _ (StepO.refl htop) ⟨hI, rfl⟩
  case body =>
    rintro l pre x a' O W ⟨⟨⟨v, hv, hrow, hOB, hOv⟩, hBW⟩, rfl⟩ hlen hsz htop
    replace hlen : pre.length < m := hlen
    have hc := hv.cell
    have hpl : (toI (vals pre)).length = pre.length := by rw [toI_len, vals_len]
    have hp1 : (toI (vals pre)).length + 1 ≤ maxLen := by unfold maxLen; omega
    have hp2 : ((toI (vals pre)).length + 1) * 8 ≤ 140737488355328 := by omega
    have hp3 : w.heap.size + 1 ≤ (W.alloc (.cells #[.int .i64 (x.1 : Int)] 3)).heap.size := by simp; omega
    have hp4 : w.heap.size + 1 ≤ W.heap.size := by omega
    clear bO5 hr5 hh5 hG5 hpl
    gi_wp2_with (gi_at_builtin; refine wpListIn_append_own_at _ rfl _ _ 84 rfl (w.heap.size + 1) 3 i0 (.int .i64 0) 1 8 Tryd.underlying84 hi hz0 hz1 hz2 rfl (by decide) _ _ _ rfl (hrow.alloc _) ⟨W.heap.size, 0, none⟩ 1 1 [.int .i64 (x.1 : Int)] rfl rfl (cell_one_new _ _ _) (by simp [Value.oneCell']) hp1 hp2 hp3 ?_; intro v' w1 hown' hgrow _ hat; obtain ⟨g', cap', rfl⟩ := ownsRow_succ hown'; have hcs := CollJ.step hv (by decide) hrow hp4 (by omega) hOB hOv hown' hgrow hat; have hv1 : Boxed w1 Bo 84 v := (hv.alloc _).kept hgrow (hv.not_row (by decide) hrow); have hc1 := hv1.cell; have hf1 := hv1.frozen)
    obtain ⟨q1, q2, q3⟩ := hcs
    rw [iVals_snoc, ← toI_snoc, ← vals_snoc] at q1
    have he : (toI (vals pre)).length + 1 = (toI (vals (pre ++ [x]))).length := by rw [vals_snoc, toI_snoc]; simp
    rw [he] at q1 q2 q3 ⊢
    exact ⟨_, q2, q1, hBW.trans q3⟩
  case done =>
    rintro D O xs W hD hOD hxs ⟨⟨v, hv, hrow, hOB, hOv⟩, hBW⟩ hK
    have hGW := hG5.below hBW (Nat.lt_succ_self _)
    have hgn := hGW.n
    rw [hxs, HORD.out] at hrow
    obtain ⟨o, ho⟩ : ∃ o, o = ordr m es := ⟨_, rfl⟩
    rw [← ho] at hrow
    have HO := Lib.hid ho
    have hol : o.length ≤ m := by rw [ho]; exact (good_topoN _ _ _).len
    have HTL := Lib.hid (toI_len o)
    obtain ⟨Av, cv, rfl⟩ := own_any hrow
    have hc := hv.cell
    have hBf : Below w.heap.size w W := hB5.trans (hBW.mono (by omega))
    clear bO5 hr5 hh5 hG5 hxs ho
    by_cases hlt : (toI o).length < m
    · gi_wp2
      refine ⟨by simp, .inl ⟨_, _, rfl, run_takeDeferred hK, ?_⟩⟩
      refine ⟨_, results_tmp2 rfl _ _ _, ?_⟩
      refine ⟨.inr ⟨?_, rfl⟩, hBf.trans (belowK_b (w := w) (Nat.le_refl _) W D _ _ (by omega) hK rfl rfl)⟩
      rw [← HO.out, ← HTL.out]; exact hlt
    · gi_wp2
      refine ⟨by simp, .inl ⟨_, _, rfl, run_takeDeferred hK, ?_⟩⟩
      refine ⟨_, results_tmp2 rfl _ _ _, ?_⟩
      refine ⟨.inl ⟨?_, _, rfl, ?_⟩, hBf.trans (belowK_b (w := w) (Nat.le_refl _) W D _ _ (by omega) hK rfl rfl)⟩
      · rw [← HO.out]
        have := HTL.out
        omega
      · rw [← HO.out]
        exact own_mono (ownsRow_putObj hrow _ hK rfl) (by omega)
  case stop =>
    rintro D c' O pre W _ _ _ h _
    exact h.elim
end Go.Proofs.YtafdpimkfkddaaaDoor

namespace Go.Proofs.YtafdpimkfkddaaaDoor
open Go.RowKit Go.Shelf
set_option maxRecDepth 100000

attribute [local go_sem] Oper.semAt_some

/-- the union of those of the sets whose numbers L tells -/
def unionL (xss : List (List Nat)) (L : List Nat) : List Nat := L.foldl (fun a n => mrg orN a (st xss n)) []
theorem unionL_snoc (xss : List (List Nat)) (L : List Nat) (n : Nat) : unionL xss (L ++ [n]) = mrg orN (unionL xss L) (st xss n) := by unfold unionL; rw [List.foldl_append]; rfl
theorem unionL_len (xss : List (List Nat)) (L : List Nat) (h : ∀ n, n ∈ L → (st xss n).length ≤ 1024) : (unionL xss L).length ≤ 1024 := by
  have : ∀ (L : List Nat) (a : List Nat), a.length ≤ 1024 → (∀ n, n ∈ L → (st xss n).length ≤ 1024) → (L.foldl (fun a n => mrg orN a (st xss n)) a).length ≤ 1024 := by
    intro L
    induction L with
    | nil => intro a ha _; exact ha
    | cons x L ih =>
      intro a ha h
      refine ih _ ?_ fun n hn => h n (List.mem_cons_of_mem _ hn)
      dsimp only
      have := mrg_le orN a (st xss x)
      have := h x List.mem_cons_self
      omega
  exact this L [] (by simp) h
theorem unionL_ws (xss : List (List Nat)) (L : List Nat) (h : ∀ n, n ∈ L → Ws (st xss n)) : Ws (unionL xss L) := by
  have : ∀ (L : List Nat) (a : List Nat), Ws a → (∀ n, n ∈ L → Ws (st xss n)) → Ws (L.foldl (fun a n => mrg orN a (st xss n)) a) := by
    intro L
    induction L with
    | nil => intro a ha _; exact ha
    | cons x L ih =>
      intro a ha h
      exact ih _ (ws_or ha (h x List.mem_cons_self)) fun n hn => h n (List.mem_cons_of_mem _ hn)
  exact this L [] ws_nil h
theorem unionL_tb (xss : List (List Nat)) (L : List Nat) (k j : Nat) : tb (unionL xss L) k j = L.any fun n => tb (st xss n) k j := by
  have : ∀ (L : List Nat) (a : List Nat), tb (L.foldl (fun a n => mrg orN a (st xss n)) a) k j = (tb a k j || L.any fun n => tb (st xss n) k j) := by
    intro L
    induction L with
    | nil => intro a; simp
    | cons x L ih =>
      intro a
      show tb (L.foldl (fun a n => mrg orN a (st xss n)) (mrg orN a (st xss x))) k j = _
      rw [ih, tb_or, List.any_cons, Bool.or_assoc]
  have h := this L []
  rw [tb_nil, Bool.false_or] at h
  exact h
theorem unionL_noTail (xss : List (List Nat)) (L : List Nat) : NoTail (unionL xss L) := by
  rcases List.eq_nil_or_concat L with rfl | ⟨L', x, rfl⟩
  · exact .inl rfl
  · rw [List.concat_eq_append, unionL_snoc]; exact mrg_noTail _ _ _

theorem rdU_empty (w : World) (B : Nat) : RdU w B none [] := ⟨fun k => by simp [wd], by simp, fun h => by simp at h⟩

set_option maxHeartbeats 1000000 in
theorem union_any (A A2 : Option Addr) (c c2 m : Nat) (xss : List (List Nat)) (hl : xss.length = m) (xs : List Nat) (w : World) (hx : RdUU w w.heap.size A xss) (hs : RdU w w.heap.size A2 xs)
    (hbits : ∀ j, j ∈ mem xs → j < m) (hroom : ∀ k, k < m → (st xss k).length ≤ 1024) (hsl : xs.length ≤ 1024) (hT : Tab w) :
    Calls Tryd.prog 35 #[.slice A m c, .slice A2 xs.length c2] w fun e w' => ∃ A1 c1, e = .returned (.slice A1 (unionL xss (mem xs)).length c1) ∧ RdU w' w'.heap.size A1 (unionL xss (mem xs)) ∧ Below w.heap.size w w' := by
  go_enter Tryd.func35, Tryd.ntmps35
  go_wp2_with fail
  refine (list_any A2 c2 xs _ hs (by omega) hT).mono ?_
  rintro e w1 ⟨A3, c3, rfl, hr, hb1⟩
  rw [show alist xs (64 * xs.length) = toI (mem xs) from rfl] at hr ⊢
  obtain ⟨L, hL⟩ : ∃ L, L = mem xs := ⟨_, rfl⟩
  rw [← hL] at hr hbits ⊢
  have hLl := toI_len L
  have hml : L.length ≤ 65536 := by rw [hL]; exact mem_len xs hsl
  have HL := Lib.hid hL
  have HLl := Lib.hid hLl
  rw [hLl]
  clear hL hLl hs
  have hx1 := hx.step hb1
  clear hx
  go_wp2_with fail
  go_loopw [5, 11] (fun v i wr => ∃ (t : Nat) (A4 : Option Addr) (c4 : Nat), t ≤ L.length ∧ i = .int .i64 t ∧ v = .slice A4 (unionL xss (L.take t)).length c4 ∧ RdU wr wr.heap.size A4 (unionL xss (L.take t)) ∧ Below w1.heap.size w1 wr) (fun _ i _ => L.length - (intOf i).toNat)
  case atStart => exact ⟨0, none, 0, Nat.zero_le _, rfl, rfl, rdU_empty _ _, Below.refl _ _⟩
  case round =>
    obtain ⟨t, A4, c4, ht, rfl, rfl, hu, hbr⟩ := hrel
    by_cases htl : t < L.length
    · obtain ⟨y, hy1, hy2⟩ := zd_toI L t htl
      have hym : y < m := hbits y (by obtain ⟨h1, h2⟩ := List.getElem?_eq_some_iff.1 hy2; rw [← h2]; exact List.getElem_mem h1)
      obtain ⟨b, off, rfl, hb, hc⟩ := hr.rd (by rw [HLl.out]; omega)
      have hc1 := (hbr.cell (p := ⟨b, off + t, none⟩) hb).trans (hc t (by rw [HLl.out]; omega))
      dsimp only at hc1
      rw [hy1] at hc1
      obtain ⟨b2, off2, A5, c5, rfl, hb2, hc2, hs5⟩ := hx1.at_ (k := y) (by omega)
      have hc2' := (hbr.cell (p := ⟨b2, off2 + y, none⟩) hb2).trans hc2
      have hs6 := (hs5.below hbr).more hbr.size
      have hul : (unionL xss (L.take t)).length ≤ 1024 := unionL_len xss _ fun n hn => hroom n (hbits n (List.mem_of_mem_take hn))
      have hsl5 := hroom y hym
      have HT := Lib.hid (take_at L t y hy2)
      have hy0 : (0 : Int) ≤ (y : Int) := Int.natCast_nonneg _
      have hy3 : (y : Int) < (m : Int) := by omega
      clear hc hy1 hy2 hc2 hs5
      go_wp2_with fail
      refine (oporN_any A4 A5 c4 c5 _ _ _ hu hs6 (by omega) (by omega)).mono ?_
      rintro e w2 ⟨A6, c6, rfl, hr6, hb6⟩
      rw [← unionL_snoc, ← HT.out] at hr6 ⊢
      have hb7 := hbr.trans (hb6.mono hbr.size)
      clear hb6 hbr hu hs6
      go_wp2
      go_roundw
      case rel => exact ⟨t + 1, A6, c6, by omega, by go_num, rfl, hr6, hb7⟩
      case measure => simp [intOf]; omega
    · obtain rfl : t = L.length := by omega
      rw [List.take_length] at hu ⊢
      go_wp2
      go_ret
      refine ⟨A4, c4, ?_, ?_, hb1.trans (hbr.mono hb1.size)⟩
      · rw [← HL.out]; rfl
      · rw [← HL.out]; exact hu

/-- a slice of numbers whose block p names -/
structure RdNp (w : World) (p : Nat → Prop) (A : Option Addr) (o : List Nat) : Prop where
  room : o.length ≤ 1048576
  rd : 0 < o.length → ∃ b off, A = some ⟨b, off, none⟩ ∧ p b ∧ ∀ (k x : Nat), o[k]? = some x → w.cell? ⟨b, off + k, none⟩ = some (.int .i64 (x : Int))
theorem RdNp.keeps {w w' : World} {p q : Nat → Prop} {A : Option Addr} {o : List Nat} (h : RdNp w p A o) (hk : Keeps q w w') (hq : ∀ b, p b → q b) : RdNp w' p A o := ⟨h.room, fun hn => by
  obtain ⟨b, off, hA, hp, hc⟩ := h.rd hn
  have hlt : b < w.heap.size := World.block_lt_of_cell? w _ (hc 0 o[0] (by simp [hn]))
  exact ⟨b, off, hA, hp, fun k x hx => (World.cell?_of_block (hk.block b hlt (hq b hp))).trans (hc k x hx)⟩⟩
theorem own_rdNp {w : World} {base : Nat} {e : TypeId} {v : Value} {o : List Nat} (h : w.ownsRow base e 1 v (toI o).length (iVals (toI o))) (hr : o.length ≤ 1048576) : ∃ A c, v = .slice A o.length c ∧ RdNp w (fun b => base ≤ b ∧ b < w.heap.size) A o := by
  rw [toI_len] at h
  obtain ⟨A, c, rfl⟩ := own_any h
  refine ⟨A, c, rfl, hr, fun hn => ?_⟩
  obtain ⟨g, cap, hv, hb, hg⟩ := own_shape h hn
  injection hv with hA _ hc
  subst hA
  subst hc
  refine ⟨g, 0, rfl, ⟨hb, hg⟩, fun k x hx => ?_⟩
  obtain ⟨hk, hkx⟩ := List.getElem?_eq_some_iff.1 hx
  rw [Nat.zero_add, h.cellAt k (by omega), iVals_at _ _ (by rw [toI_len]; exact hk)]
  obtain ⟨y, hy1, hy2⟩ := zd_toI o k hk
  rw [hx] at hy2
  injection hy2 with hy2
  rw [hy1, hy2]

/-- a place and what stands there -/
abbrev Bk (L m : Nat) := { p : Nat × Nat // p.1 < L ∧ p.2 < m }

theorem backward_in (n : Nat) (a : Option Addr) (len cap : Nat) (w : World) :
    CallsIn Fence.wide n Tryd.prog 33 #[.slice a len cap] w fun e w' => e = .returned (.func (.func 41) #[] #[.pointer (some ⟨w.heap.size, 0, none⟩)]) ∧ w' = w.alloc (.cells #[.slice a len cap] 84) := by
  refine callsIn_of_wp Tryd.func33 rfl trivial ?_ rfl
  simp only [Tryd.ntmps33, List.size_toArray, List.length_cons, List.length_nil, Nat.reduceAdd, Nat.reduceSub, Array.replicate_succ, Array.replicate_zero, List.push_toArray, List.append_toArray, List.nil_append, List.cons_append]
  gi_wp2
  go_ret
  exact ⟨rfl, rfl⟩

set_option maxHeartbeats 1000000 in
theorem backward1_in (n : Nat) (hn : 2 ≤ n) (m Bs c : Nat) (p : Nat → Prop) (A : Option Addr) (o : List Nat) (hom : ∀ x, x ∈ o → x < m) (w : World) (hx : RdNp w p A o) (hpl : ∀ b, p b → b < w.heap.size)
    (hc : w.cell? ⟨Bs, 0, none⟩ = some (.slice A o.length c)) (hBs : Bs < w.heap.size) :
    SeqO Fence.wide n Tryd.prog 41 #[.pointer (some ⟨Bs, 0, none⟩)] (fun x : Bk o.length m => #[Value.int .i64 (x.1.1 : Int), .int .i64 (x.1.2 : Int)]) (fun b => p b ∨ b = Bs)
      (fun ys => ys.length = o.length) (fun _ => True) (fun pre x => pre.length < o.length ∧ x.1.1 + pre.length + 1 = o.length ∧ o[x.1.1]? = some x.1.2) w := by
  have h1 : 1 ≤ n := by omega
  intro l J Jx O W hkW hO hJ hJx hY h0
  have hF : ∀ k, (p k ∨ k = Bs) → k < W.heap.size := fun k hk => by
    have := hkW.size
    rcases hk with hk | hk
    · have := hpl k hk; omega
    · omega
  have hcW : W.cell? ⟨Bs, 0, none⟩ = some (.slice A o.length c) := (World.cell?_of_block (hkW.block Bs hBs (.inr rfl))).trans hc
  have hxW := hx.keeps hkW (fun b hb => .inl hb)
  have hroom := hx.room
  clear hx hc hkW
  refine callsIn_of_wp Tryd.func41 rfl trivial ?_ rfl
  simp only [Tryd.ntmps41, List.size_toArray, List.length_cons, List.length_nil, Nat.reduceAdd, Nat.reduceSub, Array.replicate_succ, Array.replicate_zero, List.push_toArray, List.append_toArray, List.nil_append, List.cons_append]
  gi_wp2
  gi_loopw [3] (fun i wr => ∃ (t : Nat) (ys : List (Bk o.length m)) (O2 : Nat → Prop), t ≤ o.length ∧ i = .int .i64 ((o.length : Int) - 1 - t) ∧ ys.length = t ∧ J ys O2 wr ∧ ItInv (fun b => p b ∨ b = Bs) O W O2 wr) (fun i _ => (intOf i + 1).toNat)
  case atStart => exact ⟨0, [], O, Nat.zero_le _, by simp, rfl, h0, ItInv.start hO⟩
  case round =>
    obtain ⟨t, ys, O2, ht, rfl, hyl, hJ2, hI2⟩ := hrel
    have hcB : wr.cell? ⟨Bs, 0, none⟩ = some (.slice A o.length c) := (World.cell?_of_block (hI2.keeps.block Bs (hF Bs (.inr rfl)) (.inr rfl))).trans hcW
    by_cases htl : t < o.length
    · obtain ⟨i, hi⟩ : ∃ i : Nat, i + t + 1 = o.length := ⟨o.length - 1 - t, by omega⟩
      have hil : i < o.length := by omega
      have e1 : (o.length : Int) - 1 - t = (i : Int) := by omega
      obtain ⟨b, off, rfl, hb, hcell⟩ := (hxW.keeps hI2.keeps (fun b hb => .inl hb)).rd (by omega)
      have hoi : o[i]? = some o[i] := by simp [hil]
      obtain ⟨x, hxe⟩ : ∃ x, x = o[i] := ⟨_, rfl⟩
      rw [← hxe] at hoi
      have hxm : x < m := by rw [hxe]; exact hom _ (List.getElem_mem hil)
      have hci := hcell i x hoi
      rw [e1]
      clear e1 hcell hxe
      obtain ⟨fn, tmps, assign, body, hy, hR⟩ := hY ys ⟨(i, x), hil, hxm⟩ O2 wr hJ2 ⟨by omega, by show i + ys.length + 1 = _; omega, hoi⟩
      have hi0 : (0 : Int) ≤ (i : Int) := Int.natCast_nonneg _
      have hi1 : (i : Int) < (o.length : Int) := by omega
      have HYL := Lib.hid hyl
      have HI := Lib.hid hi
      clear hyl hi
      gi_wp2
      refine hR.mono ?_
      rintro e W3 ⟨O3, hs3, (⟨rfl, hJ3⟩ | ⟨rfl, hJx3⟩)⟩
      · have hI3 := hI2.step hO hF hs3
        have e2 : (o.length : Int) - 1 - ((t + 1 : Nat) : Int) = (i : Int) - 1 := by have := HI.out; omega
        gi_wp2
        go_roundw
        case rel => exact ⟨t + 1, _, O3, by omega, by rw [e2], by rw [List.length_append, HYL.out]; simp, hJ3, hI3⟩
        case measure => first | (simp [intOf]; done) | (simp [intOf]; omega)
      · gi_wp2
        refine bodyPost_ret (results_none rfl _ _ _) rfl ?_
        exact ⟨⟨_, rfl⟩, .inr ⟨_, _, trivial, hJx3⟩⟩
    · obtain rfl : t = o.length := by omega
      have e1 : (o.length : Int) - 1 - (o.length : Int) = -1 := by omega
      rw [e1]
      gi_wp2
      first
        | go_end0
        | refine bodyPost_ret (results_none rfl _ _ _) rfl ?_
      exact ⟨⟨_, rfl⟩, .inl ⟨ys, O2, hyl, hJ2⟩⟩
end Go.Proofs.YtafdpimkfkddaaaDoor

namespace Go.Proofs.YtafdpimkfkddaaaDoor

/-- the set of the nodes that follow n -/
def beh (m : Nat) (es : List (Int × Int)) (n : Nat) : List Nat := ofS (toI ((List.range m).filter (fw (gR es) m n)))
theorem mem_toI (L : List Nat) (n : Nat) : (n : Int) ∈ toI L ↔ n ∈ L := by
  unfold toI
  rw [List.mem_map]
  constructor
  · rintro ⟨k, hk, e⟩
    have : k = n := by omega
    exact this ▸ hk
  · intro h
    exact ⟨n, h, rfl⟩
theorem fw_lt {m : Nat} {es : List (Int × Int)} (h : inR m es = true) {i j : Nat} (hf : fw (gR es) m i j = true) : i < m ∧ j < m := by
  have p := (fw_iff (gR_lt h) i j).1 hf
  exact ⟨p.lt1 (gR_lt h), p.lt2 (gR_lt h)⟩
theorem beh_bit {m : Nat} {es : List (Int × Int)} (h : inR m es = true) (n j : Nat) : bitB (beh m es n) j = fw (gR es) m n j := by
  unfold beh
  rw [ofS_bit, Bool.eq_iff_iff, decide_eq_true_iff, mem_alw, mem_toI, List.mem_filter, List.mem_range]
  constructor
  · exact fun hh => hh.1.2
  · intro hh
    have h1 := fw_lt h hh
    have h2 := okN_of h
    exact ⟨⟨h1.2, hh⟩, by omega⟩
theorem beh_len (m : Nat) (es : List (Int × Int)) (n : Nat) : (beh m es n).length ≤ 1024 := ofS_len _
theorem beh_ws (m : Nat) (es : List (Int × Int)) (n : Nat) : Ws (beh m es n) := ofS_wd _
theorem beh_noTail (m : Nat) (es : List (Int × Int)) (n : Nat) : NoTail (beh m es n) := ofS_noTail _
theorem tb_bit (xs : List Nat) (k j : Nat) (hj : j < 64) : tb xs k j = bitB xs (64 * k + j) := by
  rw [bitB_tb, show (64 * k + j) / 64 = k by omega, show (64 * k + j) % 64 = j by omega]
theorem eq_of_bitB {xs ys : List Nat} (hx : NoTail xs) (hy : NoTail ys) (lx : Ws xs) (ly : Ws ys) (h : ∀ n, bitB xs n = bitB ys n) : xs = ys :=
  same_sets hx hy lx ly fun k j hj => by rw [tb_bit _ _ _ hj, tb_bit _ _ _ hj, h]
theorem or_bit (xs ys : List Nat) (n : Nat) : bitB (mrg orN xs ys) n = (bitB xs n || bitB ys n) := by rw [bitB_tb, bitB_tb, bitB_tb, tb_or]
theorem less_bit (xs ys : List Nat) (hy : Ws ys) (n : Nat) : bitB (mrg lessN xs ys) n = (bitB xs n && !bitB ys n) := by rw [bitB_tb, bitB_tb, bitB_tb, tb_less _ _ hy _ _ (by omega)]
theorem union_bit (xss : List (List Nat)) (L : List Nat) (n : Nat) : bitB (unionL xss L) n = L.any fun x => bitB (st xss x) n := by
  rw [bitB_tb, unionL_tb]; rfl
theorem nxt_ws (es : List (Int × Int)) (n : Nat) : Ws (nxt es n) := ofS_wd _
theorem fw_next {m : Nat} {es : List (Int × Int)} (h : inR m es = true) (n j : Nat) : fw (gR es) m n j = true ↔ gR es n j = true ∨ ∃ c, gR es n c = true ∧ fw (gR es) m c j = true := by
  rw [fw_iff (gR_lt h)]
  constructor
  · intro p
    cases p with
    | one e => exact .inl e
    | step e p => exact .inr ⟨_, e, (fw_iff (gR_lt h) _ _).2 p⟩
  · rintro (e | ⟨c, e, hf⟩)
    · exact .one e
    · exact .step e ((fw_iff (gR_lt h) _ _).1 hf)
/-- what follows n: its successors, and what follows these -/
theorem beh_step {m : Nat} {es : List (Int × Int)} (h : inR m es = true) (n : Nat) (xss : List (List Nat)) (hx : ∀ c, gR es n c = true → st xss c = beh m es c) :
    mrg orN (nxt es n) (unionL xss (mem (nxt es n))) = beh m es n := by
  have hm : ∀ c, c ∈ mem (nxt es n) ↔ gR es n c = true := fun c => by rw [mem_iff, nxt_bit h]
  have hws : Ws (unionL xss (mem (nxt es n))) := unionL_ws _ _ fun c hc => by rw [hx c ((hm c).1 hc)]; exact beh_ws _ _ _
  refine eq_of_bitB (mrg_noTail _ _ _) (beh_noTail _ _ _) (ws_or (nxt_ws _ _) hws) (beh_ws _ _ _) fun j => ?_
  rw [or_bit, nxt_bit h, union_bit, beh_bit h, Bool.eq_iff_iff, fw_next h, Bool.or_eq_true, List.any_eq_true]
  constructor
  · rintro (e | ⟨c, hc, e⟩)
    · exact .inl e
    · rw [hx c ((hm c).1 hc), beh_bit h] at e
      exact .inr ⟨c, (hm c).1 hc, e⟩
  · rintro (e | ⟨c, hc, e⟩)
    · exact .inl e
    · refine .inr ⟨c, (hm c).2 hc, ?_⟩
      rw [hx c hc, beh_bit h]
      exact e
/-- the successors of the node at place i of the order stand behind it -/
theorem succ_behind {m : Nat} {es : List (Int × Int)} (h : inR m es = true) {o : List Nat} (hg : Good (gR es) m o) (hl : o.length = m) {i n c : Nat} (hi : o[i]? = some n) (hR : gR es n c = true) : c ∈ o.drop (i + 1) := by
  have hb := gR_lt h n c hR
  have hc : c ∈ o := hg.all (by omega) hb.2
  obtain ⟨k, hk, e⟩ := List.getElem_of_mem hc
  have hp := hg.pre k c (by rw [List.getElem?_eq_getElem hk, e]) n hb.1 hR
  obtain ⟨i', hi', e'⟩ := List.getElem_of_mem hp
  rw [List.getElem_take] at e'
  have hi2 : i' < k := by simp at hi'; omega
  obtain ⟨hil, hie⟩ := List.getElem?_eq_some_iff.1 hi
  have : i' = i := by
    false_or_by_contra
    rename_i hne
    have hnd := List.pairwise_iff_getElem.1 hg.nodup
    rcases Nat.lt_or_ge i' i with h1 | h1
    · exact hnd i' i (by omega) hil h1 (e'.trans hie.symm)
    · exact hnd i i' hil (by omega) (by omega) (hie.trans e'.symm)
  subst this
  rw [List.mem_iff_getElem]
  exact ⟨k - (i' + 1), by simp; omega, by rw [List.getElem_drop]; rw [← e]; congr 1; omega⟩
theorem drop_step {o : List Nat} {i n : Nat} (hi : o[i]? = some n) (x : Nat) : x ∈ o.drop i ↔ x = n ∨ x ∈ o.drop (i + 1) := by
  obtain ⟨hil, hie⟩ := List.getElem?_eq_some_iff.1 hi
  rw [List.drop_eq_getElem_cons hil, List.mem_cons, hie]
end Go.Proofs.YtafdpimkfkddaaaDoor
