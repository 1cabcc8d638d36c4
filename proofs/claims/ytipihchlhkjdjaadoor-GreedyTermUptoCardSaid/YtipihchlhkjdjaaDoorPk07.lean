/-
  Sets as lists of words: the laws of a Boolean algebra, inclusion as an order. Plain lemmas; no condition but a word's 64 bits.
  The set of a list's numbers: its bits, its last word, its list. Plain lemmas.
  Contract of graph.Sort.
  Contract of the reference's reach: which node leads to which, by Floyd and Warshall, for every graph in range.
-/
import Derived.Test.YtipihchlhkjdjaaDoorPk01
import Derived.Test.YtipihchlhkjdjaaDoorPk05
import Derived.Test.YtipihchlhkjdjaaDoorPk06
import Derived.Maps.OwnIn
import Derived.Test.YtipihchlhkjdjaaDoorPk02
import Derived.Test.YtipihchlhkjdjaaDoorPk00
import Derived.StillTailTactics
import Derived.BigRegion
namespace Go.Proofs.YtipihchlhkjdjaaDoor

/-- words of 64 bits -/
def Ws (xs : List Nat) : Prop := ∀ k, wd xs k < 18446744073709551616
/-- bit j of word k -/
def tb (xs : List Nat) (k j : Nat) : Bool := (wd xs k).testBit j
theorem ws_nil : Ws [] := fun k => by simp [wd]
theorem tb_nil (k j : Nat) : tb [] k j = false := by simp [tb, wd]
theorem ws_and {xs ys : List Nat} (hx : Ws xs) : Ws (mrg andN xs ys) := fun k => by rw [mrg_wd rfl]; exact andN_lt _ _ (hx k)
theorem ws_or {xs ys : List Nat} (hx : Ws xs) (hy : Ws ys) : Ws (mrg orN xs ys) := fun k => by rw [mrg_wd rfl]; exact orN_lt _ _ (hx k) (hy k)
theorem ws_less {xs ys : List Nat} (hx : Ws xs) : Ws (mrg lessN xs ys) := fun k => by rw [mrg_wd rfl]; exact lessN_lt _ _ (hx k)
theorem tb_and (xs ys : List Nat) (k j : Nat) : tb (mrg andN xs ys) k j = (tb xs k j && tb ys k j) := by unfold tb; rw [mrg_wd rfl]; unfold andN; exact Nat.testBit_and _ _ _
theorem tb_or (xs ys : List Nat) (k j : Nat) : tb (mrg orN xs ys) k j = (tb xs k j || tb ys k j) := by unfold tb; rw [mrg_wd rfl]; unfold orN; exact Nat.testBit_or _ _ _
theorem tb_less (xs ys : List Nat) (hy : Ws ys) (k j : Nat) (hj : j < 64) : tb (mrg lessN xs ys) k j = (tb xs k j && !tb ys k j) := by unfold tb; rw [mrg_wd rfl]; exact testBit_lessN _ _ (hy k) j hj
theorem same_sets {xs ys : List Nat} (hx : NoTail xs) (hy : NoTail ys) (lx : Ws xs) (ly : Ws ys) (h : ∀ k j, j < 64 → tb xs k j = tb ys k j) : xs = ys :=
  noTail_ext hx hy fun k => eq_of_bits (lx k) (ly k) (h k)
theorem noTail_nil : NoTail [] := .inl rfl

theorem and_comm' {s t : List Nat} (hs : Ws s) (ht : Ws t) : mrg andN s t = mrg andN t s :=
  same_sets (mrg_noTail _ _ _) (mrg_noTail _ _ _) (ws_and hs) (ws_and ht) fun k j _ => by rw [tb_and, tb_and, Bool.and_comm]
theorem or_comm' {s t : List Nat} (hs : Ws s) (ht : Ws t) : mrg orN s t = mrg orN t s :=
  same_sets (mrg_noTail _ _ _) (mrg_noTail _ _ _) (ws_or hs ht) (ws_or ht hs) fun k j _ => by rw [tb_or, tb_or, Bool.or_comm]
theorem and_over {s t u : List Nat} (hs : Ws s) (_ht : Ws t) (_hu : Ws u) : mrg andN s (mrg orN t u) = mrg orN (mrg andN s t) (mrg andN s u) :=
  same_sets (mrg_noTail _ _ _) (mrg_noTail _ _ _) (ws_and hs) (ws_or (ws_and hs) (ws_and hs)) fun k j _ => by rw [tb_and, tb_or, tb_or, tb_and, tb_and, Bool.and_or_distrib_left]
theorem or_over {s t u : List Nat} (hs : Ws s) (ht : Ws t) (_hu : Ws u) : mrg orN s (mrg andN t u) = mrg andN (mrg orN s t) (mrg orN s u) :=
  same_sets (mrg_noTail _ _ _) (mrg_noTail _ _ _) (ws_or hs (ws_and ht)) (ws_and (ws_or hs ht)) fun k j _ => by rw [tb_or, tb_and, tb_and, tb_or, tb_or, Bool.or_and_distrib_left]
theorem and_less {s t : List Nat} (hs : Ws s) (ht : Ws t) : mrg orN (mrg andN s t) (mrg lessN s t) = mrg orN s [] :=
  same_sets (mrg_noTail _ _ _) (mrg_noTail _ _ _) (ws_or (ws_and hs) (ws_less hs)) (ws_or hs ws_nil) fun k j hj => by rw [tb_or, tb_and, tb_less _ _ ht k j hj, tb_or, tb_nil]; cases tb s k j <;> cases tb t k j <;> rfl
theorem less_and {s t : List Nat} (hs : Ws s) (ht : Ws t) : mrg andN (mrg lessN s t) t = [] :=
  same_sets (mrg_noTail _ _ _) noTail_nil (ws_and (ws_less hs)) ws_nil fun k j hj => by rw [tb_and, tb_less _ _ ht k j hj, tb_nil]; cases tb s k j <;> cases tb t k j <;> rfl

theorem inB_iff {xs ys : List Nat} (hx : Ws xs) (hy : Ws ys) : inB xs ys = true ↔ ∀ k j, j < 64 → tb xs k j = true → tb ys k j = true := by
  unfold inB
  rw [decide_eq_true_iff]
  constructor
  · intro h k j hj hb
    by_cases hk : k < xs.length
    · have h1 := testBit_lessN (wd xs k) (wd ys k) (hy k) j hj
      rw [h k hk] at h1
      unfold tb at hb ⊢
      rw [hb] at h1
      simpa using h1.symm
    · unfold tb at hb
      rw [wd_out xs k (by omega)] at hb
      simp at hb
  · intro h k _
    refine eq_of_bits (lessN_lt _ _ (hx k)) (by omega) fun j hj => ?_
    rw [testBit_lessN _ _ (hy k) j hj]
    have h1 := h k j hj
    unfold tb at h1
    cases e : (wd xs k).testBit j
    · simp
    · rw [h1 e]; simp
theorem inB_self {xs : List Nat} (hx : Ws xs) : inB xs xs = true := (inB_iff hx hx).2 fun _ _ _ h => h
theorem inB_and {us xs ys : List Nat} (hu : Ws us) (hx : Ws xs) (hy : Ws ys) : inB us (mrg andN xs ys) = (inB us xs && inB us ys) := by
  rw [Bool.eq_iff_iff, Bool.and_eq_true, inB_iff hu (ws_and hx), inB_iff hu hx, inB_iff hu hy]
  constructor
  · intro h
    exact ⟨fun k j hj hb => by have := h k j hj hb; rw [tb_and, Bool.and_eq_true] at this; exact this.1, fun k j hj hb => by have := h k j hj hb; rw [tb_and, Bool.and_eq_true] at this; exact this.2⟩
  · rintro ⟨h1, h2⟩ k j hj hb
    rw [tb_and, h1 k j hj hb, h2 k j hj hb]; rfl
theorem inB_or {us xs ys : List Nat} (hu : Ws us) (hx : Ws xs) (hy : Ws ys) : inB (mrg orN xs ys) us = (inB xs us && inB ys us) := by
  rw [Bool.eq_iff_iff, Bool.and_eq_true, inB_iff (ws_or hx hy) hu, inB_iff hx hu, inB_iff hy hu]
  constructor
  · intro h
    exact ⟨fun k j hj hb => h k j hj (by rw [tb_or, hb]; rfl), fun k j hj hb => h k j hj (by rw [tb_or, hb]; simp)⟩
  · rintro ⟨h1, h2⟩ k j hj hb
    rw [tb_or, Bool.or_eq_true] at hb
    rcases hb with hb | hb
    · exact h1 k j hj hb
    · exact h2 k j hj hb
theorem inB_trans {xs ys us : List Nat} (hx : Ws xs) (hy : Ws ys) (hu : Ws us) (h1 : inB xs ys = true) (h2 : inB ys us = true) : inB xs us = true := by
  rw [inB_iff hx hy] at h1
  rw [inB_iff hy hu] at h2
  exact (inB_iff hx hu).2 fun k j hj hb => h2 k j hj (h1 k j hj hb)
theorem inB_eq {xs ys : List Nat} (hx : Ws xs) (hy : Ws ys) : decide (mrg orN xs [] = mrg orN ys []) = (inB xs ys && inB ys xs) := by
  rw [Bool.eq_iff_iff, Bool.and_eq_true, decide_eq_true_iff, inB_iff hx hy, inB_iff hy hx]
  constructor
  · intro h
    have e : ∀ k j, tb xs k j = tb ys k j := fun k j => by
      have h1 := tb_or xs [] k j
      rw [h, tb_or, tb_nil, Bool.or_false, Bool.or_false] at h1
      exact h1.symm
    exact ⟨fun k j _ hb => by rw [← e]; exact hb, fun k j _ hb => by rw [e]; exact hb⟩
  · rintro ⟨h1, h2⟩
    refine same_sets (mrg_noTail _ _ _) (mrg_noTail _ _ _) (ws_or hx ws_nil) (ws_or hy ws_nil) fun k j hj => ?_
    rw [tb_or, tb_or, tb_nil, Bool.or_false, Bool.or_false, Bool.eq_iff_iff]
    exact ⟨h1 k j hj, h2 k j hj⟩
end Go.Proofs.YtipihchlhkjdjaaDoor

namespace Go.Proofs.YtipihchlhkjdjaaDoor

theorem pw_bit (x j : Nat) : (pw x).testBit j = decide (x % 64 = j) := by unfold pw; rw [Nat.testBit_two_pow]
theorem setB_bit (l : List Nat) (k j : Nat) (hj : j < 64) : (setB l k).testBit j = decide (64 * k + j ∈ l) := by
  have : ∀ (l : List Nat) (a : Nat), (l.foldl (fun a x => if k = x / 64 then orN a (pw x) else a) a).testBit j = (a.testBit j || decide (64 * k + j ∈ l)) := by
    intro l
    induction l with
    | nil => intro a; simp
    | cons x l ih =>
      intro a
      show (l.foldl (fun a x => if k = x / 64 then orN a (pw x) else a) (if k = x / 64 then orN a (pw x) else a)).testBit j = _
      rw [ih]
      by_cases hk : k = x / 64
      · rw [if_pos hk]
        unfold orN
        rw [Nat.testBit_or, pw_bit]
        by_cases hx : x % 64 = j
        · have e : x = 64 * k + j := by omega
          simp [hx, ← e]
        · have e : ¬ 64 * k + j = x := by omega
          simp [hx, e]
      · rw [if_neg hk]
        have e : ¬ 64 * k + j = x := by omega
        simp [e]
  have h := this l 0
  rw [Nat.zero_testBit, Bool.false_or] at h
  exact h
theorem ofS_tb (zs : List Int) (k j : Nat) (hj : j < 64) : tb (ofS zs) k j = decide (64 * k + j ∈ alw zs) := by
  unfold tb ofS ofL
  rw [wd_map]
  split
  · exact setB_bit _ k j hj
  · rename_i hk
    rw [Nat.zero_testBit]
    symm
    rw [decide_eq_false_iff_not]
    intro hm
    have := gN_ge (alw zs) _ hm
    omega
theorem gN_mem (l : List Nat) (h : 0 < gN l) : gN l - 1 ∈ l := by
  have : ∀ (l : List Nat) (g : Nat), l.foldl (fun g x => max g (x + 1)) g = g ∨ (l.foldl (fun g x => max g (x + 1)) g - 1 ∈ l ∧ 0 < l.foldl (fun g x => max g (x + 1)) g) := by
    intro l
    induction l with
    | nil => intro g; exact .inl rfl
    | cons a l ih =>
      intro g
      rcases ih (max g (a + 1)) with h | h
      · rcases Nat.le_total g (a + 1) with hg | hg
        · right
          show l.foldl (fun g x => max g (x + 1)) (max g (a + 1)) - 1 ∈ a :: l ∧ 0 < l.foldl (fun g x => max g (x + 1)) (max g (a + 1))
          rw [h, Nat.max_eq_right hg]
          simp
        · left
          show l.foldl (fun g x => max g (x + 1)) (max g (a + 1)) = g
          rw [h, Nat.max_eq_left hg]
      · right
        exact ⟨List.mem_cons_of_mem _ h.1, h.2⟩
  rcases this l 0 with h' | h'
  · unfold gN at h; omega
  · exact h'.1
theorem ofS_noTail (zs : List Int) : NoTail (ofS zs) := by
  by_cases h : 0 < gN (alw zs)
  · right
    intro h0
    have hl : (ofS zs).length = (gN (alw zs) + 63) / 64 := by unfold ofS; rw [ofL_len]
    have hb := ofS_tb zs ((ofS zs).length - 1) ((gN (alw zs) - 1) % 64) (by omega)
    unfold tb at hb
    rw [h0, Nat.zero_testBit] at hb
    have e : 64 * ((ofS zs).length - 1) + (gN (alw zs) - 1) % 64 = gN (alw zs) - 1 := by rw [hl]; omega
    rw [e, decide_eq_true (gN_mem _ h)] at hb
    cases hb
  · left
    have e : gN (alw zs) = 0 := by omega
    unfold ofS
    rw [e]
    rfl
theorem mem_alw (zs : List Int) (n : Nat) : n ∈ alw zs ↔ (n : Int) ∈ zs ∧ n ≤ 65535 := by
  unfold alw
  rw [List.mem_filterMap]
  constructor
  · rintro ⟨z, hz, h⟩
    unfold okN at h
    split at h
    · injection h with h
      have e : z = (n : Int) := by omega
      subst e
      exact ⟨hz, by omega⟩
    · cases h
  · rintro ⟨hz, hn⟩
    refine ⟨n, hz, ?_⟩
    unfold okN
    rw [if_pos ⟨by omega, by omega⟩]
    simp
theorem ofS_congr {ys zs : List Int} (h : ∀ n, n ∈ alw ys ↔ n ∈ alw zs) : ofS ys = ofS zs :=
  same_sets (ofS_noTail ys) (ofS_noTail zs) (ofS_wd ys) (ofS_wd zs) fun k j hj => by
    rw [ofS_tb ys k j hj, ofS_tb zs k j hj, Bool.eq_iff_iff, decide_eq_true_iff, decide_eq_true_iff]
    exact h _

/-- the list of the set of zs -/
def lst (zs : List Int) : List Int := alist (ofS zs) (64 * (ofS zs).length)
theorem mem_alist (xs : List Nat) (n : Nat) (z : Int) : z ∈ alist xs n ↔ ∃ k, k < n ∧ bitB xs k = true ∧ z = (k : Int) := by
  unfold alist
  rw [List.mem_map]
  constructor
  · rintro ⟨k, hk, rfl⟩
    obtain ⟨h1, h2⟩ := List.mem_filter.1 hk
    exact ⟨k, List.mem_range.1 h1, h2, rfl⟩
  · rintro ⟨k, h1, h2, rfl⟩
    exact ⟨k, List.mem_filter.2 ⟨List.mem_range.2 h1, h2⟩, rfl⟩
theorem bitB_tb (xs : List Nat) (n : Nat) : bitB xs n = tb xs (n / 64) (n % 64) := rfl
theorem ofS_bit (zs : List Int) (n : Nat) : bitB (ofS zs) n = decide (n ∈ alw zs) := by
  rw [bitB_tb, ofS_tb zs _ _ (by omega), show 64 * (n / 64) + n % 64 = n by omega]
theorem bit_in (xs : List Nat) (n : Nat) (h : bitB xs n = true) : n < 64 * xs.length := by
  rcases Nat.lt_or_ge n (64 * xs.length) with h1 | h1
  · exact h1
  · unfold bitB at h
    rw [wd_out xs _ (by omega), Nat.zero_testBit] at h
    cases h
theorem mem_lst (zs : List Int) (z : Int) : z ∈ lst zs ↔ ∃ k, k ∈ alw zs ∧ z = (k : Int) := by
  unfold lst
  rw [mem_alist]
  constructor
  · rintro ⟨k, _, h2, rfl⟩
    rw [ofS_bit, decide_eq_true_iff] at h2
    exact ⟨k, h2, rfl⟩
  · rintro ⟨k, h, rfl⟩
    have hb : bitB (ofS zs) k = true := by rw [ofS_bit]; exact decide_eq_true h
    exact ⟨k, bit_in _ _ hb, hb, rfl⟩
theorem lst_sub (zs : List Int) (z : Int) (h : z ∈ lst zs) : z ∈ zs := by
  obtain ⟨k, hk, rfl⟩ := (mem_lst zs z).1 h
  exact ((mem_alw zs k).1 hk).1
theorem of_lst (zs : List Int) : ofS (lst zs) = ofS zs := ofS_congr fun n => by
  rw [mem_alw]
  constructor
  · rintro ⟨h, _⟩
    obtain ⟨k, hk, e⟩ := (mem_lst zs _).1 h
    have : k = n := by omega
    subst this
    exact hk
  · intro h
    exact ⟨(mem_lst zs _).2 ⟨n, h, rfl⟩, by have := alw_lt zs n h; omega⟩
theorem alist_sorted (xs : List Nat) (n : Nat) : (alist xs n).Pairwise (· < ·) := by
  unfold alist
  rw [List.pairwise_map]
  refine List.Pairwise.filter _ ?_
  exact List.pairwise_lt_range.imp fun h => by omega
theorem alist_up (xs : List Nat) (n i : Nat) (h : i + 1 < (alist xs n).length) : zd (alist xs n) i < zd (alist xs n) (i + 1) := by
  have hp := List.pairwise_iff_getElem.1 (alist_sorted xs n) i (i + 1) (by omega) h (by omega)
  unfold zd
  simpa [List.getD, h, show i < (alist xs n).length by omega] using hp
theorem zd_mem (zs : List Int) (i : Nat) (h : i < zs.length) : zd zs i ∈ zs := by
  unfold zd
  simp [List.getD, h]
end Go.Proofs.YtipihchlhkjdjaaDoor

namespace Go.Proofs.YtipihchlhkjdjaaDoor
open Go.RowKit Go.Shelf
set_option maxRecDepth 100000

attribute [local go_sem] Oper.semAt_some

/-- the edges of a graph -/
def gR (es : List (Int × Int)) (i j : Nat) : Bool := decide (((i : Int), (j : Int)) ∈ es)
theorem okE_of {N : Int} {es : List (Int × Int)} (h : inR N es = true) : ∀ k, k < es.length → okE N (ed es k) = true := fun k hk => by
  unfold inR at h
  rw [Bool.and_eq_true] at h
  exact List.all_eq_true.1 h.2 _ (ed_mem es k hk)
theorem okN_of {N : Int} {es : List (Int × Int)} (h : inR N es = true) : 0 ≤ N ∧ N ≤ 200 := by
  unfold inR okN200 at h
  rw [Bool.and_eq_true, Bool.and_eq_true] at h
  exact ⟨of_decide_eq_true h.1.1, of_decide_eq_true h.1.2⟩
theorem edge_in {m : Nat} {es : List (Int × Int)} (h : inR m es = true) {a b : Int} (hm : (a, b) ∈ es) : 0 ≤ a ∧ a < m ∧ 0 ≤ b ∧ b < m := by
  obtain ⟨k, hk, e⟩ := mem_ed hm
  have h1 := okE_of h k hk
  rw [e] at h1
  unfold okE at h1
  rw [Bool.and_eq_true] at h1
  have h2 := nodeB_true h1.1
  have h3 := nodeB_true h1.2
  simp only at h2 h3
  omega
theorem gR_lt {m : Nat} {es : List (Int × Int)} (h : inR m es = true) : ∀ i j, gR es i j = true → i < m ∧ j < m := fun i j hg => by
  have := edge_in h (of_decide_eq_true hg)
  omega
theorem nxt_bit {m : Nat} {es : List (Int × Int)} (h : inR m es = true) (i j : Nat) : bitB (nxt es i) j = gR es i j := by
  unfold nxt gR
  rw [ofS_bit, Bool.eq_iff_iff, decide_eq_true_iff, decide_eq_true_iff, mem_alw, tos_mem]
  constructor
  · exact fun hh => hh.1
  · intro hh
    have := edge_in h hh
    have := okN_of h
    exact ⟨hh, by omega⟩
theorem eR_nxt {m : Nat} {es : List (Int × Int)} (h : inR m es = true) : eR ((List.range m).map (nxt es)) m = gR es := by
  funext i j
  unfold eR
  by_cases hi : i < m
  · rw [st_map _ _ _ hi, nxt_bit h]; simp [hi]
  · have : gR es i j = false := by
      cases hg : gR es i j with
      | false => rfl
      | true => exact absurd (gR_lt h i j hg).1 hi
    rw [this]; simp [hi]
theorem nxt_bits {m : Nat} {es : List (Int × Int)} (h : inR m es = true) : ∀ k, k < m → ∀ j, bitB (st ((List.range m).map (nxt es)) k) j = true → j < m := fun k hk j hj => by
  rw [st_map _ _ _ hk, nxt_bit h] at hj
  exact (gR_lt h k j hj).2
theorem nxt_room (m : Nat) (es : List (Int × Int)) : ∀ k, k < m → (st ((List.range m).map (nxt es)) k).length ≤ 1024 := fun k hk => by
  rw [st_map _ _ _ hk]; exact ofS_len _

/-- the topological order -/
def ordr (m : Nat) (es : List (Int × Int)) : List Nat := topo (gR es) m

set_option maxHeartbeats 1000000 in
theorem sort_no (A : Option Addr) (c : Nat) (N : Int) (es : List (Int × Int)) (w : World) (he : RdE w w.heap.size A es) (hin : inR N es = false) :
    Calls Tryd.prog 18 #[.agg #[.int .i64 N, .slice A es.length c]] w fun e w' => e = .returned (.tuple #[.slice none 0 0, .int .i64 2]) ∧ Below w.heap.size w w' := by
  go_enter Tryd.func18, Tryd.ntmps18
  go_wp2_with fail
  have hG := GBox.new w N A es.length c 24
  obtain ⟨w1, hw1⟩ : ∃ w1, w1 = w.alloc (.cells #[.int .i64 N, .slice A es.length c] 24) := ⟨_, rfl⟩
  have hb1 : Below w.heap.size w w1 := by rw [hw1]; exact (Below.refl _ _).alloc (Nat.le_refl _) _
  rw [← hw1] at hG ⊢
  clear hw1
  have he1 := he.step hb1
  refine (inRange_any _ _ _ _ _ he1).mono ?_
  rw [hin]
  rintro e w2 ⟨rfl, hb2⟩
  have hb := hb1.trans (hb2.mono hb1.size)
  clear hb1 hb2 hG
  go_wp2
  go_ret2
  exact ⟨rfl, hb⟩

/-- what Sort answers where the edges are in range: the order, or that there is a loop -/
def SortEnds (E : TypeId) (w : World) (m : Nat) (o : List Nat) (e : Ending) (w' : World) : Prop :=
  ((o.length = m ∧ ∃ v, e = .returned (.tuple #[v, .int .i64 0]) ∧ w'.ownsRow w.heap.size E 1 v (toI o).length (iVals (toI o))) ∨ (o.length < m ∧ e = .returned (.tuple #[.slice none 0 0, .int .i64 3]))) ∧ Below w.heap.size w w'

theorem own_mono {w : World} {B B' : Nat} {e : TypeId} {size n : Nat} {v : Value} {xs : List Value} (h : w.ownsRow B e size v n xs) (hB : B' ≤ B) : w.ownsRow B' e size v n xs := by
  obtain ⟨h1, h2⟩ := h
  refine ⟨h1, ?_⟩
  rcases h2 with h2 | ⟨g, cap, cur, hv, hb, hr⟩
  · exact .inl h2
  · exact .inr ⟨g, cap, cur, hv, by omega, hr⟩

set_option maxHeartbeats 2000000 in
theorem sort_in (n : Nat) (hn : 12 ≤ n) (A : Option Addr) (c m : Nat) (es : List (Int × Int)) (w : World) (he : RdE w w.heap.size A es) (hin : inR m es = true) (hT : Tab w) :
    CallsIn Fence.wide n Tryd.prog 18 #[.agg #[.int .i64 (m : Int), .slice A es.length c]] w (SortEnds 3 w m (ordr m es)) := by
  have h1 : 1 ≤ n := by omega
  obtain ⟨i0, hi, hz0, hz1, hz2⟩ := info_parts Tryd.infoInt
  have hm := okN_of hin
  have hm2 : m ≤ 200 := by omega
  have hok := okE_of hin
  refine callsIn_of_wp_marks Tryd.func18 rfl trivial ?_ rfl
  simp only [Tryd.ntmps18, List.size_toArray, List.length_cons, List.length_nil, Nat.reduceAdd, Nat.reduceSub, Array.replicate_succ, Array.replicate_zero, List.push_toArray, List.append_toArray, List.nil_append, List.cons_append]
  gi_wp2_with fail
  have hG := GBox.new w m A es.length c 24
  obtain ⟨w1, hw1⟩ : ∃ w1, w1 = w.alloc (.cells #[.int .i64 (m : Int), .slice A es.length c] 24) := ⟨_, rfl⟩
  have hb1 : Below w.heap.size w w1 := by rw [hw1]; exact (Below.refl _ _).alloc (Nat.le_refl _) _
  have hs1 : w.heap.size < w1.heap.size := by rw [hw1]; simp
  rw [← hw1] at hG ⊢
  clear hw1 hm
  have he1 := he.step hb1
  refine ⟨trivial, ?_⟩
  refine (callsIn_wide.2 (inRange_any _ _ _ _ _ he1)).mono ?_
  rw [hin]
  rintro e w2 ⟨rfl, hb2⟩
  have hG2 := hG.below hb2 hs1
  have he2 := he1.step hb2
  have hB2 : Below w.heap.size w w2 := hb1.trans (hb2.mono hb1.size)
  have hs2 : w.heap.size < w2.heap.size := Nat.lt_of_lt_of_le hs1 hb2.size
  have hgn := hG2.n
  have hge := hG2.e
  clear hb1 hs1 he1 hb2 hG
  obtain ⟨wm, hmk, hrow0, hgr0⟩ := run_make_own (P := Tryd.prog) w2 (w.heap.size + 1) 34 3 i0 (.int .i64 0) 1 Tryd.underlying34 hi hz0 hz1 .i64 .i64 m (by rw [hz2]; omega) (by unfold maxLen; omega) (by omega)
  have hbm : Below w2.heap.size w2 wm := (Below.refl _ w2).grown hgr0 (Nat.le_refl _) (fun k e => by cases e)
  have hGm := hG2.below hbm hs2
  have hgn' := hGm.n
  have hge' := hGm.e
  have hsm : w.heap.size < wm.heap.size := Nat.lt_of_lt_of_le hs2 hbm.size
  have hg2m : w2.heap.size < wm.heap.size := own_block_lt hrow0 _ rfl
  gi_wp2_with fail
  have bO := Boxed.new wm 34 (.slice (some ⟨w2.heap.size, 0, none⟩) 0 m)
  obtain ⟨w3, hw3⟩ : ∃ w3, w3 = wm.alloc (.cells #[.slice (some ⟨w2.heap.size, 0, none⟩) 0 m] 34) := ⟨_, rfl⟩
  have hb3 : Below wm.heap.size wm w3 := by rw [hw3]; exact (Below.refl _ _).alloc (Nat.le_refl _) _
  have hs3 : wm.heap.size < w3.heap.size := by rw [hw3]; simp
  have hr3 : w3.ownsRow (w.heap.size + 1) 3 1 (.slice (some ⟨w2.heap.size, 0, none⟩) 0 m) 0 [] := by rw [hw3]; exact hrow0.alloc _
  have hG3 := hGm.below hb3 hsm
  have hB3 : Below w.heap.size w w3 := (hB2.trans (hbm.mono hB2.size)).trans (hb3.mono (by have := hB2.size; have := hbm.size; omega))
  rw [← hw3] at bO ⊢
  obtain ⟨Bo, hBo⟩ : ∃ Bo, Bo = wm.heap.size := ⟨_, rfl⟩
  rw [← hBo] at bO hs3 ⊢
  have HBo := Lib.hid hBo
  have he3 : RdE w3 w3.heap.size A es := (he.below hB3).more hB3.size
  have hs3' : w.heap.size < w3.heap.size := by omega
  clear hmk hgn hge hgn' hge' hrow0 hgr0 hw3 hG2 hGm he2 hb3 hbm hB2
  have hwBo : w.heap.size < Bo := by omega
  have hg2Bo : w2.heap.size < Bo := by omega
  clear hBo
  refine ⟨trivial, ?_⟩
  refine (callsIn_wide.2 (successors_any _ _ m es _ he3 hm2 hok)).mono ?_
  rintro e w4 ⟨A4, rfl, hu4, hb4⟩
  have bO4 := bO.kept (row := none) ⟨hb4.os, hb4.tape, hb4.output, hb4.size, fun i hi _ => hb4.block i hi⟩ (by simp)
  have hr4 := ownsRow_keeps hr3 (Keeps.of_below (p := fun b => b < w3.heap.size) hb4 fun _ _ h => h) (own_block_lt hr3)
  have hG4 := hG3.below hb4 hs3'
  have hB4 : Below w.heap.size w w4 := hB3.trans (hb4.mono hB3.size)
  have hs4 : Bo < w4.heap.size := Nat.lt_of_lt_of_le hs3 hb4.size
  have hT4 := hT.step hB4
  clear hb4 hG3 hr3 bO he3 hB3
  gi_wp2_with (refine ⟨trivial, ?_⟩; refine (smallestFirst_in (n - 1) _ _ _ _).mono ?_; rintro e w' ⟨rfl, rfl⟩)
  have hh5 := Boxed.new w4 69 (.slice A4 m m)
  have bO5 := bO4.alloc (.cells #[.slice A4 m m] 69)
  have hr5 := hr4.alloc (.cells #[.slice A4 m m] 69)
  have hG5 : GBox (w4.alloc (.cells #[.slice A4 m m] 69)) w.heap.size m A es.length c := hG4.below (below_alloc w4 _) (by omega)
  obtain ⟨w5, hw5⟩ : ∃ w5, w5 = w4.alloc (.cells #[.slice A4 m m] 69) := ⟨_, rfl⟩
  rw [← hw5] at hh5 bO5 hr5 hG5 ⊢
  have hs5 : w5.heap.size = w4.heap.size + 1 := by rw [hw5]; simp
  have hb5 : Below w4.heap.size w4 w5 := by rw [hw5]; exact below_alloc _ _
  have hB5 : Below w.heap.size w w5 := hB4.trans (hb5.mono hB4.size)
  have hT5 := hT4.step hb5
  have hu5 := hu4.lt'.keeps (Keeps.of_below (p := fun b => b < w4.heap.size) hb5 fun _ _ h => h) (fun b hb => hb.2)
  have hTn : 0 < w.heap.size := hT.pos
  obtain ⟨Bs, hBs⟩ : ∃ Bs, Bs = w4.heap.size := ⟨_, rfl⟩
  rw [← hBs] at hh5 hs5 hs4 hu5 ⊢
  have hBsl : Bs < w5.heap.size := by omega
  clear hw5 hr4 bO4 hG4 hB4 hT4 hb5 hu4 hBs hs5
  obtain ⟨xss, hxss⟩ : ∃ xss, xss = (List.range m).map (nxt es) := ⟨_, rfl⟩
  have hxl : xss.length = m := by rw [hxss]; simp
  have hbits : ∀ k, k < m → ∀ j, bitB (st xss k) j = true → j < m := by rw [hxss]; exact nxt_bits hin
  have hroom : ∀ k, k < m → (st xss k).length ≤ 1024 := by rw [hxss]; exact nxt_room m es
  have hord : topo (eR xss m) m = ordr m es := by rw [hxss, eR_nxt hin]; rfl
  have HORD := Lib.hid hord
  rw [← hxss] at hu5
  clear hxss hord
  refine wpIn_rangeFunc_O rfl h1 (gf := 50) (lb := #[.pointer (some ⟨Bs, 0, none⟩)]) rfl trivial (enters_of Tryd.func50 (by kernel_rfl) rfl)
    (smallest1_in (n - 1) (by omega) m hm2 Bs m (fun b => w3.heap.size ≤ b ∧ b < Bs) A4 xss hxl w5 hu5 (fun b hb => by omega) hh5.cell (by omega) hbits hroom hT5) (Keeps.refl _ _) (fun _ => rfl)
    (fun ys O W => CollJ 34 3 1 (w.heap.size + 1) Bo (toI (vals ys)).length (iVals (toI (vals ys))) O W ∧ Below (w.heap.size + 1) w5 W) (fun _ _ _ _ => False)
    ?stab (fun _ _ _ _ _ h _ => h.elim) (fun k => k = Bo ∨ k = w2.heap.size) ?own (fun k hk => by rcases hk with h | h | h <;> omega) ?start
    (fun pre x a' O W => (CollJ 34 3 1 (w.heap.size + 1) Bo (toI (vals pre)).length (iVals (toI (vals pre))) O W ∧ Below (w.heap.size + 1) w5 W) ∧ a' = { tmps := #[.agg #[.int .i64 (m : Int), .slice A es.length c], .pointer (some ⟨w.heap.size, 0, none⟩), .slice none 0 0, .int .i64 0, .pointer (some ⟨Bo, 0, none⟩), .int .i64 (x.1 : Int), .agg #[.int .i64 (m : Int), .slice A es.length c], .bool true, .bool false, .pointer (some ⟨w.heap.size, 0, none⟩), .int .i64 (m : Int), .slice (some ⟨w2.heap.size, 0, none⟩) 0 m, .agg #[.int .i64 (m : Int), .slice A es.length c], .slice A4 m m, .func (.func 50) #[] #[.pointer (some ⟨Bs, 0, none⟩)], .int .i64 (x.1 : Int), undef, undef, undef, undef, undef, undef, undef, undef, undef, undef], defers := [] })
    ?stabx ?assign ?body ?done ?stop
  case own =>
    intro k hk
    exact ⟨by omega, fun h => by rcases h with h | h | h <;> omega⟩
  case start => exact ⟨⟨_, bO5, hr5, .inl rfl, fun b hb => .inr (by simpa [Value.ownBlock] using hb.symm)⟩, Below.refl _ _⟩
  case stab =>
    rintro s O W W' ⟨h, hb⟩ hk
    exact ⟨h.keeps hk fun b hb => .inr hb, hb.trans (hk.below (by have := hb.size; omega) fun k hk => .inl (by omega))⟩
  case stabx =>
    rintro pre x a' s O W W' ⟨⟨h, hb⟩, ha⟩ hk
    exact ⟨⟨h.keeps hk fun b hb => .inr hb, hb.trans (hk.below (by have := hb.size; omega) fun k hk => .inl (by omega))⟩, ha⟩
  case assign =>
    intro l pre x O W K hI hlen hsz htop hK
    gi_wp2
    exact hK _ _ _ (StepO.refl htop) ⟨hI, rfl⟩
  case body =>
    rintro l pre x a' O W ⟨⟨⟨v, hv, hrow, hOB, hOv⟩, hBW⟩, rfl⟩ hlen hsz htop
    replace hlen : pre.length < m := hlen
    have hc := hv.cell
    have hpl : (toI (vals pre)).length = pre.length := by rw [toI_len, vals_len]
    have hp1 : (toI (vals pre)).length + 1 ≤ maxLen := by unfold maxLen; omega
    have hp2 : ((toI (vals pre)).length + 1) * 8 ≤ 140737488355328 := by omega
    have hp3 : w.heap.size + 1 ≤ (W.alloc (.cells #[.int .i64 (x.1 : Int)] 3)).heap.size := by simp; omega
    have hp4 : w.heap.size + 1 ≤ W.heap.size := by omega
    clear bO5 hr5 hh5 hG5 hpl
    gi_wp2_with (gi_at_builtin; refine wpListIn_append_own_at _ rfl _ _ 34 rfl (w.heap.size + 1) 3 i0 (.int .i64 0) 1 8 Tryd.underlying34 hi hz0 hz1 hz2 rfl (by decide) _ _ _ rfl (hrow.alloc _) ⟨W.heap.size, 0, none⟩ 1 1 [.int .i64 (x.1 : Int)] rfl rfl (cell_one_new _ _ _) (by simp [Value.oneCell']) hp1 hp2 hp3 ?_; intro v' w1 hown' hgrow _ hat; obtain ⟨g', cap', rfl⟩ := ownsRow_succ hown'; have hcs := CollJ.step hv (by decide) hrow hp4 (by omega) hOB hOv hown' hgrow hat; have hv1 : Boxed w1 Bo 34 v := (hv.alloc _).kept hgrow (hv.not_row (by decide) hrow); have hc1 := hv1.cell; have hf1 := hv1.frozen)
    obtain ⟨q1, q2, q3⟩ := hcs
    rw [iVals_snoc, ← toI_snoc, ← vals_snoc] at q1
    have he : (toI (vals pre)).length + 1 = (toI (vals (pre ++ [x]))).length := by rw [vals_snoc, toI_snoc]; simp
    rw [he] at q1 q2 q3 ⊢
    exact ⟨_, q2, q1, hBW.trans q3⟩
  case done =>
    rintro D O xs W hD hOD hxs ⟨⟨v, hv, hrow, hOB, hOv⟩, hBW⟩ hK
    have hGW := hG5.below hBW (Nat.lt_succ_self _)
    have hgn := hGW.n
    rw [hxs, HORD.out] at hrow
    obtain ⟨o, ho⟩ : ∃ o, o = ordr m es := ⟨_, rfl⟩
    rw [← ho] at hrow
    have HO := Lib.hid ho
    have hol : o.length ≤ m := by rw [ho]; exact (good_topoN _ _ _).len
    have HTL := Lib.hid (toI_len o)
    obtain ⟨Av, cv, rfl⟩ := own_any hrow
    have hc := hv.cell
    have hBf : Below w.heap.size w W := hB5.trans (hBW.mono (by omega))
    clear bO5 hr5 hh5 hG5 hxs ho
    by_cases hlt : (toI o).length < m
    · gi_wp2
      refine ⟨by simp, .inl ⟨_, _, rfl, run_takeDeferred hK, ?_⟩⟩
      refine ⟨_, results_tmp2 rfl _ _ _, ?_⟩
      refine ⟨.inr ⟨?_, rfl⟩, hBf.trans (belowK_b (w := w) (Nat.le_refl _) W D _ _ (by omega) hK rfl rfl)⟩
      rw [← HO.out, ← HTL.out]; exact hlt
    · gi_wp2
      refine ⟨by simp, .inl ⟨_, _, rfl, run_takeDeferred hK, ?_⟩⟩
      refine ⟨_, results_tmp2 rfl _ _ _, ?_⟩
      refine ⟨.inl ⟨?_, _, rfl, ?_⟩, hBf.trans (belowK_b (w := w) (Nat.le_refl _) W D _ _ (by omega) hK rfl rfl)⟩
      · rw [← HO.out]
        have := HTL.out
        omega
      · rw [← HO.out]
        exact own_mono (ownsRow_putObj hrow _ hK rfl) (by omega)
  case stop =>
    rintro D c' O pre W _ _ _ h _
    exact h.elim
end Go.Proofs.YtipihchlhkjdjaaDoor

namespace Go.Proofs.YtipihchlhkjdjaaDoor
open Go.RowKit
set_option maxRecDepth 100000

theorem Tryd.infoSB : (Tryd.prog.info? 73).map (fun i => (i.zero, i.size, i.bytes)) = some (some (.slice none 0 0), 1, 24) := by kernel_rfl
theorem Tryd.infoB : (Tryd.prog.info? 4).map (fun i => (i.zero, i.size, i.bytes)) = some (some (.bool false), 1, 1) := by kernel_rfl

/-- a matrix of bools: block g holds the rows, row i lies in block g + 1 + i -/
structure BM (T E : TypeId) (w : World) (g m : Nat) (b : Nat → Nat → Bool) : Prop where
  row : w.rowIs g T m (fun i => .slice (some ⟨g + 1 + i, 0, none⟩) m m)
  el : ∀ i, i < m → w.rowIs (g + 1 + i) E m (fun j => .bool (b i j))
theorem BM.alloc {T E : TypeId} {w : World} {g m : Nat} {b : Nat → Nat → Bool} (h : BM T E w g m b) (o : Obj) : BM T E (w.alloc o) g m b := ⟨h.row.alloc o, fun i hi => (h.el i hi).alloc o⟩
theorem BM.drew {T E : TypeId} {w : World} {g m : Nat} {b : Nat → Nat → Bool} (h : BM T E w g m b) : BM T E w.drew g m b := ⟨h.row.drew, fun i hi => (h.el i hi).drew⟩
theorem BM.step {T E : TypeId} {w w' : World} {g m : Nat} {b : Nat → Nat → Bool} (h : BM T E w g m b) (hb : Below w.heap.size w w') : BM T E w' g m b := ⟨rowIs_step h.row hb, fun i hi => rowIs_step (h.el i hi) hb⟩
theorem BM.congr {T E : TypeId} {w : World} {g m : Nat} {b b' : Nat → Nat → Bool} (h : BM T E w g m b) (hb : ∀ i j, i < m → j < m → b i j = b' i j) : BM T E w g m b' := ⟨h.row, fun i hi => (h.el i hi).congr fun j hj => by rw [hb i j hi hj]⟩
theorem BM.set {T E : TypeId} {w : World} {g m : Nat} {b : Nat → Nat → Bool} (h : BM T E w g m b) (i j : Nat) (v : Bool) : BM T E (w.setCell ⟨g + 1 + i, j, none⟩ (.bool v)) g m (fun x y => if x = i ∧ y = j then v else b x y) := by
  refine ⟨h.row.setOther (by simp; omega) _, fun x hx => ?_⟩
  by_cases e : x = i
  · subst e
    refine ((h.el x hx).set j (.bool v)).congr fun y hy => ?_
    by_cases e2 : y = j <;> simp [e2]
  · refine ((h.el x hx).setOther (by simp; omega) _).congr fun y hy => ?_
    simp [e]
theorem BM.c1 {T E : TypeId} {w : World} {g m : Nat} {b : Nat → Nat → Bool} (h : BM T E w g m b) {i : Nat} (hi : i < m) : w.cell? ⟨g, i, none⟩ = some (.slice (some ⟨g + 1 + i, 0, none⟩) m m) := h.row.cell hi
theorem BM.c2 {T E : TypeId} {w : World} {g m : Nat} {b : Nat → Nat → Bool} (h : BM T E w g m b) {i j : Nat} (hi : i < m) (hj : j < m) : w.cell? ⟨g + 1 + i, j, none⟩ = some (.bool (b i j)) := (h.el i hi).cell hj
theorem BM.f2 {T E : TypeId} {w : World} {g m : Nat} {b : Nat → Nat → Bool} (h : BM T E w g m b) {i : Nat} (hi : i < m) (j : Nat) : w.frozen? ⟨g + 1 + i, j, none⟩ = false := (h.el i hi).frozen j
theorem BM.lt {T E : TypeId} {w : World} {g m : Nat} {b : Nat → Nat → Bool} (h : BM T E w g m b) {i : Nat} (hi : i < m) : g + 1 + i < w.heap.size := (h.el i hi).lt

/-- the rows made so far -/
structure BM0 (T E : TypeId) (w : World) (g m k : Nat) : Prop where
  row : w.rowIs g T m (fun i => if i < k then .slice (some ⟨g + 1 + i, 0, none⟩) m m else .slice none 0 0)
  el : ∀ i, i < k → w.rowIs (g + 1 + i) E m (fun _ => .bool false)
  size : w.heap.size = g + 1 + k
theorem BM0.step {T E : TypeId} {w : World} {g m k : Nat} (h : BM0 T E w g m k) : BM0 T E ((w.setCell ⟨g, k, none⟩ (.slice (some ⟨w.heap.size, 0, none⟩) m m)).alloc (.cells (madeCells #[.bool false] m) E)) g m (k + 1) := by
  have hs := h.size
  refine ⟨((h.row.set k _).alloc _).congr fun i hi => ?_, fun i hi => ?_, by simp; omega⟩
  · by_cases e : i = k
    · subst e; rw [if_pos rfl, if_pos (by omega), hs]
    · rw [if_neg e]
      by_cases e2 : i < k
      · rw [if_pos e2, if_pos (by omega)]
      · rw [if_neg e2, if_neg (by omega)]
  · by_cases e : i = k
    · subst e
      have := World.rowIs_made (w.setCell ⟨g, i, none⟩ (.slice (some ⟨w.heap.size, 0, none⟩) m m)) (.bool false) m E
      rw [World.size_setCell, hs] at this
      rw [hs]
      exact this
    · exact ((h.el i (by omega)).setOther (by simp; omega) _).alloc _

theorem BM.fw {T E : TypeId} {w : World} {g m i1 j1 : Nat} {F0 F1 : Nat → Nat → Bool} (h : BM T E w g m (fun x y => if x < i1 ∨ (x = i1 ∧ y < j1) then F1 x y else F0 x y)) {v : Bool} (hv : F1 i1 j1 = v) :
    BM T E (w.setCell ⟨g + 1 + i1, j1, none⟩ (.bool v)).drew g m (fun x y => if x < i1 ∨ (x = i1 ∧ y < j1 + 1) then F1 x y else F0 x y) := (h.set i1 j1 v).drew.congr fun x y _ _ => by
  by_cases e : x = i1 ∧ y = j1
  · obtain ⟨rfl, rfl⟩ := e
    rw [if_pos ⟨rfl, rfl⟩, if_pos (by omega), hv]
  · rw [if_neg e]
    by_cases e2 : x < i1 ∨ (x = i1 ∧ y < j1)
    · rw [if_pos e2, if_pos (by omega)]
    · rw [if_neg e2, if_neg (by omega)]

set_option maxHeartbeats 2000000 in
theorem reach_rows (A : Option Addr) (c m : Nat) (es : List (Int × Int)) (w : World) (he : RdE w w.heap.size A es) (hin : inR m es = true) :
    Calls Tryd.prog 47 #[.agg #[.int .i64 (m : Int), .slice A es.length c]] w fun e w' => ∃ g, e = .returned (.slice (some ⟨g, 0, none⟩) m m) ∧ BM 73 4 w' g m (fw (gR es) m) ∧ Below w.heap.size w w' := by
  have hroom := he.room
  have hm := okN_of hin
  have hm2 : m ≤ 200 := by omega
  have hok := okE_of hin
  clear hm
  have hmk1 := run_make_row' (P := Tryd.prog) 96 73 (.slice none 0 0) 24 Tryd.underlying96 Tryd.infoSB rfl .i64 .i64 m (by omega) (by omega)
  have hmk2 := run_make_row' (P := Tryd.prog) 73 4 (.bool false) 1 Tryd.underlying73 Tryd.infoB rfl .i64 .i64 m (by omega) (by omega)
  have HOK := Lib.hid hok
  have HIN := Lib.hid hin
  clear hok hin
  go_enter Tryd.func47, Tryd.ntmps47
  go_wp2_with fail
  have hG := GBox.new w m A es.length c 24
  obtain ⟨w1, hw1⟩ : ∃ w1, w1 = w.alloc (.cells #[.int .i64 (m : Int), .slice A es.length c] 24) := ⟨_, rfl⟩
  have hb1 : Below w.heap.size w w1 := by rw [hw1]; exact (Below.refl _ _).alloc (Nat.le_refl _) _
  have hs1 : w1.heap.size = w.heap.size + 1 := by rw [hw1]; simp
  have hM0 := World.rowIs_made w1 (.slice none 0 0) m 73
  obtain ⟨w2, hw2⟩ : ∃ w2, w2 = w1.alloc (.cells (madeCells #[.slice none 0 0] m) 73) := ⟨_, rfl⟩
  have hb2 : Below w1.heap.size w1 w2 := by rw [hw2]; exact (Below.refl _ _).alloc (Nat.le_refl _) _
  have hs2 : w2.heap.size = w1.heap.size + 1 := by rw [hw2]; simp
  rw [← hw1, ← hw2]
  rw [← hw1] at hG
  rw [← hw2] at hM0
  have he1 := he.step hb1
  obtain ⟨B, hB⟩ : ∃ B, B = w.heap.size := ⟨_, rfl⟩
  obtain ⟨g, hg⟩ : ∃ g, g = w1.heap.size := ⟨_, rfl⟩
  rw [← hg] at hb2 hs2 hM0 he1
  have hgB : g = B + 1 := by omega
  have hBM0 : BM0 73 4 w2 g m 0 := ⟨hM0.congr fun i hi => by simp, fun i hi => by omega, by omega⟩
  rw [← hB] at hG ⊢
  rw [← hgB]
  have hBg : B < g := by omega
  have HGB := Lib.hid hgB
  have HB := Lib.hid hB
  have HG1 := Lib.hid hg
  have hG2 := hG.below hb2 hBg
  have hgn := hG2.n
  clear hw1 hw2 hM0 he hs1 hs2 hgB hB hg
  go_loopw [15] (fun i wr => ∃ k : Nat, k ≤ m ∧ i = .int .i64 k ∧ BM0 73 4 wr g m k ∧ Below g w1 wr) (fun i _ => m - (intOf i).toNat)
  case atStart => exact ⟨0, Nat.zero_le _, rfl, hBM0, hb2⟩
  case round =>
    obtain ⟨k, hk, rfl, hM, hbr⟩ := hrel
    have hgr := (hG.below hbr hBg).n
    have hsz := Lib.hid hM.size
    clear hBM0 hb2 hG2 hgn
    by_cases hlt : k < m
    · have hlg := hM.row.lt
      have hck := fun o => ((hM.row.alloc o).cell hlt)
      have hfk := fun o => ((hM.row.alloc o).frozen k)
      have hst := Lib.hid hM.step
      clear hmk1
      go_wp2
      go_roundw
      case rel => exact ⟨k + 1, by omega, by go_num, hst.out, (hbr.setCell (p := ⟨g, k, none⟩) (Nat.le_refl _) _).alloc (by simp; omega) _⟩
      case measure => simp [intOf]; omega
    · obtain rfl : k = m := by omega
      have hM2 : BM 73 4 wr g k (fun i j => decide (((i : Int), (j : Int)) ∈ es.take 0)) :=
        ⟨hM.row.congr fun i hi => by rw [if_pos hi], fun i hi => (hM.el i hi).congr fun j hj => by simp⟩
      have hge := (hG.below hbr hBg).e
      clear hM hmk1 hmk2 hsz
      go_wp2_with fail
      obtain ⟨wo, rfl⟩ : ∃ wo : World, wo = wr := ⟨_, rfl⟩
      go_loopw [28] (fun i wr => ∃ t : Nat, t ≤ es.length ∧ i = .int .i64 t ∧ BM 73 4 wr g k (fun i j => decide (((i : Int), (j : Int)) ∈ es.take t)) ∧ Below g w1 wr) (fun i _ => es.length - (intOf i).toNat)
      case atStart => exact ⟨0, Nat.zero_le _, rfl, hM2, hbr⟩
      case round =>
        obtain ⟨t, ht, rfl, hM, hbt⟩ := hrel
        clear hM2 hbr hgr hge
        by_cases htl : t < es.length
        · have hoke := HOK.out t htl
          unfold okE at hoke
          rw [Bool.and_eq_true] at hoke
          obtain ⟨o1, o2⟩ := hoke
          replace o1 := nodeB_true o1
          replace o2 := nodeB_true o2
          obtain ⟨x, hx⟩ : ∃ x : Nat, (ed es t).1 = (x : Int) := ⟨(ed es t).1.toNat, by omega⟩
          obtain ⟨y, hy⟩ : ∃ y : Nat, (ed es t).2 = (y : Int) := ⟨(ed es t).2.toNat, by omega⟩
          have hxm : x < k := by omega
          have hym : y < k := by omega
          have hte : Hid (ed es t = ((x : Int), (y : Int))) := Lib.hid (by rw [← hx, ← hy])
          have hglt := hM.row.lt
          obtain ⟨b, off, rfl, hb, hc⟩ := he1.rd (by omega)
          have hc1 := (hbt.cell (p := ⟨b, off + t * 2, none⟩) hb).trans (hc t htl).1
          have hc2 := (hbt.cell (p := ⟨b, off + t * 2 + 1, none⟩) hb).trans (hc t htl).2
          rw [hx] at hc1
          rw [hy] at hc2
          clear hc o1 o2 hx hy
          go_wp2_with fail
          have hX := EBox.new wr x y 36
          obtain ⟨w3, hw3⟩ : ∃ w3, w3 = wr.alloc (.cells #[.int .i64 (x : Int), .int .i64 (y : Int)] 36) := ⟨_, rfl⟩
          have hM3 : BM 73 4 w3 g k (fun i j => decide (((i : Int), (j : Int)) ∈ es.take t)) := by rw [hw3]; exact hM.alloc _
          have hbt3 : Below g w1 w3 := by rw [hw3]; exact hbt.alloc (by omega) _
          rw [← hw3] at hX ⊢
          clear hw3 hM hbt hc1 hc2
          have hcx := hX.x
          have hcy := hX.y
          have hr1 := hM3.c1 hxm
          have hr2 := hM3.c2 hxm hym
          have hf2 := hM3.f2 hxm y
          have hx0 : (0 : Int) ≤ (x : Int) := Int.natCast_nonneg _
          have hx1 : (x : Int) < (k : Int) := by omega
          have hy0 : (0 : Int) ≤ (y : Int) := Int.natCast_nonneg _
          have hy1 : (y : Int) < (k : Int) := by omega
          obtain ⟨b0, hb0⟩ : ∃ b0 : Bool, decide (((x : Int), (y : Int)) ∈ es.take t) = b0 := ⟨_, rfl⟩
          rw [hb0] at hr2
          clear hb0 hX
          go_region
          go_wp2
          have hM4 : BM 73 4 (w3.setCell ⟨g + 1 + x, y, none⟩ (.bool true)).drew g k (fun i j => decide (((i : Int), (j : Int)) ∈ es.take (t + 1))) := (hM3.set x y true).drew.congr fun i j hi hj => by
            rw [take_ed es t htl, hte.out]
            by_cases e : i = x ∧ j = y
            · obtain ⟨rfl, rfl⟩ := e; simp
            · have : ¬ ((i : Int) = (x : Int) ∧ (j : Int) = (y : Int)) := fun h => e (by omega)
              rw [if_neg e, Bool.eq_iff_iff, decide_eq_true_iff, decide_eq_true_iff, List.mem_append]
              simp [this]
          go_roundw
          case rel => exact ⟨t + 1, by omega, by go_num, hM4, (hbt3.setCell (p := ⟨g + 1 + x, y, none⟩) (by simp; omega) _).drew⟩
          case measure => simp [intOf]; omega
        · obtain rfl : t = es.length := by omega
          rw [List.take_length] at hM
          obtain ⟨R, hR⟩ : ∃ R, R = gR es := ⟨_, rfl⟩
          have hM0 : BM 73 4 wr g k (fw R 0) := hM.congr fun i j _ _ => by rw [hR]; rfl
          have HRR := Lib.hid hR
          clear hM hR hlt htl ht hk
          go_wp2_with fail
          obtain ⟨wo, rfl⟩ : ∃ wo : World, wo = wr := ⟨_, rfl⟩
          go_loopw [43] (fun i wr => ∃ a : Nat, a ≤ k ∧ i = .int .i64 a ∧ BM 73 4 wr g k (fw R a) ∧ Below g w1 wr) (fun i _ => k - (intOf i).toNat)
          case atStart => exact ⟨0, Nat.zero_le _, rfl, hM0, hbt⟩
          case round =>
            clear hM0 hbt
            obtain ⟨a, ha, rfl, hMa, hba⟩ := hrel
            by_cases hal : a < k
            · have hMi0 : BM 73 4 wr g k (fun x y => if x < 0 then fw R (a + 1) x y else fw R a x y) := hMa.congr fun x y _ _ => by rw [if_neg (by omega)]
              clear hMa
              go_wp2_with fail
              obtain ⟨wo, rfl⟩ : ∃ wo : World, wo = wr := ⟨_, rfl⟩
              go_loopw [48] (fun i wr => ∃ i1 : Nat, i1 ≤ k ∧ i = .int .i64 i1 ∧ BM 73 4 wr g k (fun x y => if x < i1 then fw R (a + 1) x y else fw R a x y) ∧ Below g w1 wr) (fun i _ => k - (intOf i).toNat)
              case atStart => exact ⟨0, Nat.zero_le _, rfl, hMi0, hba⟩
              case round =>
                clear hMi0 hba
                obtain ⟨i1, hi1, rfl, hMi, hbi⟩ := hrel
                by_cases hil : i1 < k
                · have hMj0 : BM 73 4 wr g k (fun x y => if x < i1 ∨ (x = i1 ∧ y < 0) then fw R (a + 1) x y else fw R a x y) := hMi.congr fun x y _ _ => by
                    by_cases e : x < i1
                    · rw [if_pos e, if_pos (.inl e)]
                    · rw [if_neg e, if_neg (by omega)]
                  clear hMi
                  go_wp2_with fail
                  obtain ⟨wo, rfl⟩ : ∃ wo : World, wo = wr := ⟨_, rfl⟩
                  go_loopw [53] (fun i wr => ∃ j1 : Nat, j1 ≤ k ∧ i = .int .i64 j1 ∧ BM 73 4 wr g k (fun x y => if x < i1 ∨ (x = i1 ∧ y < j1) then fw R (a + 1) x y else fw R a x y) ∧ Below g w1 wr) (fun i _ => k - (intOf i).toNat)
                  case atStart => exact ⟨0, Nat.zero_le _, rfl, hMj0, hbi⟩
                  case round =>
                    clear hMj0 hbi
                    obtain ⟨j1, hj1, rfl, hMj, hbj⟩ := hrel
                    by_cases hjl : j1 < k
                    · have hc1 := hMj.c1 hil
                      have hc2 := hMj.c1 hal
                      have hij := hMj.c2 hil hjl
                      have hia := hMj.c2 hil hal
                      have haj := hMj.c2 hal hjl
                      have hf := hMj.f2 hil j1
                      have e1 : (if i1 < i1 ∨ (i1 = i1 ∧ j1 < j1) then fw R (a + 1) i1 j1 else fw R a i1 j1) = fw R a i1 j1 := if_neg (by omega)
                      have e2 : (if i1 < i1 ∨ (i1 = i1 ∧ a < j1) then fw R (a + 1) i1 a else fw R a i1 a) = fw R a i1 a := by rw [fw_col]; exact ite_self _
                      have e3 : (if a < i1 ∨ (a = i1 ∧ j1 < j1) then fw R (a + 1) a j1 else fw R a a j1) = fw R a a j1 := by rw [fw_row]; exact ite_self _
                      rw [e1] at hij
                      rw [e2] at hia
                      rw [e3] at haj
                      clear e1 e2 e3
                      obtain ⟨v1, hv1⟩ : ∃ v1, fw R a i1 j1 = v1 := ⟨_, rfl⟩
                      obtain ⟨v2, hv2⟩ : ∃ v2, fw R a i1 a = v2 := ⟨_, rfl⟩
                      obtain ⟨v3, hv3⟩ : ∃ v3, fw R a a j1 = v3 := ⟨_, rfl⟩
                      rw [hv1] at hij
                      rw [hv2] at hia
                      rw [hv3] at haj
                      have hnew : fw R (a + 1) i1 j1 = (v1 || (v2 && v3)) := by simp only [fw]; rw [hv1, hv2, hv3]
                      have HNEW := Lib.hid hnew
                      clear hv1 hv2 hv3 hnew
                      have hi0 : (0 : Int) ≤ (i1 : Int) := Int.natCast_nonneg _
                      have hi2 : (i1 : Int) < (k : Int) := by omega
                      have hj0 : (0 : Int) ≤ (j1 : Int) := Int.natCast_nonneg _
                      have hj2 : (j1 : Int) < (k : Int) := by omega
                      have ha0 : (0 : Int) ≤ (a : Int) := Int.natCast_nonneg _
                      have ha2 : (a : Int) < (k : Int) := by omega
                      have hcases : v1 = true ∨ (v1 = false ∧ v2 = false) ∨ (v1 = false ∧ v2 = true ∧ v3 = true) ∨ (v1 = false ∧ v2 = true ∧ v3 = false) := by
                        cases v1 <;> cases v2 <;> cases v3 <;> simp
                      rcases hcases with rfl | ⟨rfl, rfl⟩ | ⟨rfl, rfl, rfl⟩ | ⟨rfl, rfl, rfl⟩
                      all_goals
                        go_wp2
                        go_region
                        go_wp2
                        go_roundw
                        case rel => exact ⟨j1 + 1, by omega, by go_num, hMj.fw HNEW.out, (hbj.setCell (p := ⟨g + 1 + i1, j1, none⟩) (by simp; omega) _).drew⟩
                        case measure => simp [intOf]; omega
                    · obtain rfl : j1 = k := by omega
                      have hMi2 : BM 73 4 wr g j1 (fun x y => if x < i1 + 1 then fw R (a + 1) x y else fw R a x y) := hMj.congr fun x y hx hy => by
                        by_cases e : x < i1 + 1
                        · rw [if_pos e, if_pos (by omega)]
                        · rw [if_neg e, if_neg (by omega)]
                      clear hMj
                      go_wp2
                      go_roundw
                      case rel => exact ⟨i1 + 1, by omega, by go_num, hMi2, hbj⟩
                      case measure => simp [intOf]; omega
                · obtain rfl : i1 = k := by omega
                  have hMa2 : BM 73 4 wr g i1 (fw R (a + 1)) := hMi.congr fun x y hx hy => by rw [if_pos hx]
                  clear hMi
                  go_wp2
                  go_roundw
                  case rel => exact ⟨a + 1, by omega, by go_num, hMa2, hbi⟩
                  case measure => simp [intOf]; omega
            · obtain rfl : a = k := by omega
              go_wp2
              go_ret
              refine ⟨g, rfl, by rw [← HRR.out]; exact hMa, hb1.trans (hba.mono ?_)⟩
              have h1 := HGB.out
              have h2 := HB.out
              omega
end Go.Proofs.YtipihchlhkjdjaaDoor
