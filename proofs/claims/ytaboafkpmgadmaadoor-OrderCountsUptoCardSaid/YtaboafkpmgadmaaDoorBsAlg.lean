/-
  Sets as lists of words: the laws of a Boolean algebra, inclusion as an order. Plain lemmas; no condition but a word's 64 bits.
-/
import Derived.Test.YtaboafkpmgadmaaDoorBsA
import Derived.Test.YtaboafkpmgadmaaDoorBsMath
namespace Go.Proofs.YtaboafkpmgadmaaDoor

/-- words of 64 bits -/
def Ws (xs : List Nat) : Prop := ∀ k, wd xs k < 18446744073709551616
/-- bit j of word k -/
def tb (xs : List Nat) (k j : Nat) : Bool := (wd xs k).testBit j
theorem ws_nil : Ws [] := fun k => by simp [wd]
theorem tb_nil (k j : Nat) : tb [] k j = false := by simp [tb, wd]
theorem ws_and {xs ys : List Nat} (hx : Ws xs) : Ws (mrg andN xs ys) := fun k => by rw [mrg_wd rfl]; exact andN_lt _ _ (hx k)
theorem ws_or {xs ys : List Nat} (hx : Ws xs) (hy : Ws ys) : Ws (mrg orN xs ys) := fun k => by rw [mrg_wd rfl]; exact orN_lt _ _ (hx k) (hy k)
theorem ws_less {xs ys : List Nat} (hx : Ws xs) : Ws (mrg lessN xs ys) := fun k => by rw [mrg_wd rfl]; exact lessN_lt _ _ (hx k)
theorem tb_and (xs ys : List Nat) (k j : Nat) : tb (mrg andN xs ys) k j = (tb xs k j && tb ys k j) := by unfold tb; rw [mrg_wd rfl]; unfold andN; exact Nat.testBit_and _ _ _
theorem tb_or (xs ys : List Nat) (k j : Nat) : tb (mrg orN xs ys) k j = (tb xs k j || tb ys k j) := by unfold tb; rw [mrg_wd rfl]; unfold orN; exact Nat.testBit_or _ _ _
theorem tb_less (xs ys : List Nat) (hy : Ws ys) (k j : Nat) (hj : j < 64) : tb (mrg lessN xs ys) k j = (tb xs k j && !tb ys k j) := by unfold tb; rw [mrg_wd rfl]; exact testBit_lessN _ _ (hy k) j hj
theorem same_sets {xs ys : List Nat} (hx : NoTail xs) (hy : NoTail ys) (lx : Ws xs) (ly : Ws ys) (h : ∀ k j, j < 64 → tb xs k j = tb ys k j) : xs = ys :=
  noTail_ext hx hy fun k => eq_of_bits (lx k) (ly k) (h k)
theorem noTail_nil : NoTail [] := .inl rfl

theorem and_comm' {s t : List Nat} (hs : Ws s) (ht : Ws t) : mrg andN s t = mrg andN t s :=
  same_sets (mrg_noTail _ _ _) (mrg_noTail _ _ _) (ws_and hs) (ws_and ht) fun k j _ => by rw [tb_and, tb_and, Bool.and_comm]
theorem or_comm' {s t : List Nat} (hs : Ws s) (ht : Ws t) : mrg orN s t = mrg orN t s :=
  same_sets (mrg_noTail _ _ _) (mrg_noTail _ _ _) (ws_or hs ht) (ws_or ht hs) fun k j _ => by rw [tb_or, tb_or, Bool.or_comm]
theorem and_over {s t u : List Nat} (hs : Ws s) (ht : Ws t) (hu : Ws u) : mrg andN s (mrg orN t u) = mrg orN (mrg andN s t) (mrg andN s u) :=
  same_sets (mrg_noTail _ _ _) (mrg_noTail _ _ _) (ws_and hs) (ws_or (ws_and hs) (ws_and hs)) fun k j _ => by rw [tb_and, tb_or, tb_or, tb_and, tb_and, Bool.and_or_distrib_left]
theorem or_over {s t u : List Nat} (hs : Ws s) (ht : Ws t) (hu : Ws u) : mrg orN s (mrg andN t u) = mrg andN (mrg orN s t) (mrg orN s u) :=
  same_sets (mrg_noTail _ _ _) (mrg_noTail _ _ _) (ws_or hs (ws_and ht)) (ws_and (ws_or hs ht)) fun k j _ => by rw [tb_or, tb_and, tb_and, tb_or, tb_or, Bool.or_and_distrib_left]
theorem and_less {s t : List Nat} (hs : Ws s) (ht : Ws t) : mrg orN (mrg andN s t) (mrg lessN s t) = mrg orN s [] :=
  same_sets (mrg_noTail _ _ _) (mrg_noTail _ _ _) (ws_or (ws_and hs) (ws_less hs)) (ws_or hs ws_nil) fun k j hj => by rw [tb_or, tb_and, tb_less _ _ ht k j hj, tb_or, tb_nil]; cases tb s k j <;> cases tb t k j <;> rfl
theorem less_and {s t : List Nat} (hs : Ws s) (ht : Ws t) : mrg andN (mrg lessN s t) t = [] :=
  same_sets (mrg_noTail _ _ _) noTail_nil (ws_and (ws_less hs)) ws_nil fun k j hj => by rw [tb_and, tb_less _ _ ht k j hj, tb_nil]; cases tb s k j <;> cases tb t k j <;> rfl

theorem inB_iff {xs ys : List Nat} (hx : Ws xs) (hy : Ws ys) : inB xs ys = true ↔ ∀ k j, j < 64 → tb xs k j = true → tb ys k j = true := by
  unfold inB
  rw [decide_eq_true_iff]
  constructor
  · intro h k j hj hb
    by_cases hk : k < xs.length
    · have h1 := testBit_lessN (wd xs k) (wd ys k) (hy k) j hj
      rw [h k hk] at h1
      unfold tb at hb ⊢
      rw [hb] at h1
      simpa using h1.symm
    · unfold tb at hb
      rw [wd_out xs k (by omega)] at hb
      simp at hb
  · intro h k _
    refine eq_of_bits (lessN_lt _ _ (hx k)) (by omega) fun j hj => ?_
    rw [testBit_lessN _ _ (hy k) j hj]
    have h1 := h k j hj
    unfold tb at h1
    cases e : (wd xs k).testBit j
    · simp
    · rw [h1 e]; simp
theorem inB_self {xs : List Nat} (hx : Ws xs) : inB xs xs = true := (inB_iff hx hx).2 fun _ _ _ h => h
theorem inB_and {us xs ys : List Nat} (hu : Ws us) (hx : Ws xs) (hy : Ws ys) : inB us (mrg andN xs ys) = (inB us xs && inB us ys) := by
  rw [Bool.eq_iff_iff, Bool.and_eq_true, inB_iff hu (ws_and hx), inB_iff hu hx, inB_iff hu hy]
  constructor
  · intro h
    exact ⟨fun k j hj hb => by have := h k j hj hb; rw [tb_and, Bool.and_eq_true] at this; exact this.1, fun k j hj hb => by have := h k j hj hb; rw [tb_and, Bool.and_eq_true] at this; exact this.2⟩
  · rintro ⟨h1, h2⟩ k j hj hb
    rw [tb_and, h1 k j hj hb, h2 k j hj hb]; rfl
theorem inB_or {us xs ys : List Nat} (hu : Ws us) (hx : Ws xs) (hy : Ws ys) : inB (mrg orN xs ys) us = (inB xs us && inB ys us) := by
  rw [Bool.eq_iff_iff, Bool.and_eq_true, inB_iff (ws_or hx hy) hu, inB_iff hx hu, inB_iff hy hu]
  constructor
  · intro h
    exact ⟨fun k j hj hb => h k j hj (by rw [tb_or, hb]; rfl), fun k j hj hb => h k j hj (by rw [tb_or, hb]; simp)⟩
  · rintro ⟨h1, h2⟩ k j hj hb
    rw [tb_or, Bool.or_eq_true] at hb
    rcases hb with hb | hb
    · exact h1 k j hj hb
    · exact h2 k j hj hb
theorem inB_trans {xs ys us : List Nat} (hx : Ws xs) (hy : Ws ys) (hu : Ws us) (h1 : inB xs ys = true) (h2 : inB ys us = true) : inB xs us = true := by
  rw [inB_iff hx hy] at h1
  rw [inB_iff hy hu] at h2
  exact (inB_iff hx hu).2 fun k j hj hb => h2 k j hj (h1 k j hj hb)
theorem inB_eq {xs ys : List Nat} (hx : Ws xs) (hy : Ws ys) : decide (mrg orN xs [] = mrg orN ys []) = (inB xs ys && inB ys xs) := by
  rw [Bool.eq_iff_iff, Bool.and_eq_true, decide_eq_true_iff, inB_iff hx hy, inB_iff hy hx]
  constructor
  · intro h
    have e : ∀ k j, tb xs k j = tb ys k j := fun k j => by
      have h1 := tb_or xs [] k j
      rw [h, tb_or, tb_nil, Bool.or_false, Bool.or_false] at h1
      exact h1.symm
    exact ⟨fun k j _ hb => by rw [← e]; exact hb, fun k j _ hb => by rw [e]; exact hb⟩
  · rintro ⟨h1, h2⟩
    refine same_sets (mrg_noTail _ _ _) (mrg_noTail _ _ _) (ws_or hx ws_nil) (ws_or hy ws_nil) fun k j hj => ?_
    rw [tb_or, tb_or, tb_nil, Bool.or_false, Bool.or_false, Bool.eq_iff_iff]
    exact ⟨h1 k j hj, h2 k j hj⟩
end Go.Proofs.YtaboafkpmgadmaaDoor
