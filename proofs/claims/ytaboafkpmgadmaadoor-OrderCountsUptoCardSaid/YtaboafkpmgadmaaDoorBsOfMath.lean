/-
  The set of a list's numbers: its bits, its last word, its list. Plain lemmas.
-/
import Derived.Test.YtaboafkpmgadmaaDoorBsAlive
import Derived.Test.YtaboafkpmgadmaaDoorBsAlg
namespace Go.Proofs.YtaboafkpmgadmaaDoor

theorem pw_bit (x j : Nat) : (pw x).testBit j = decide (x % 64 = j) := by unfold pw; rw [Nat.testBit_two_pow]
theorem setB_bit (l : List Nat) (k j : Nat) (hj : j < 64) : (setB l k).testBit j = decide (64 * k + j ∈ l) := by
  have : ∀ (l : List Nat) (a : Nat), (l.foldl (fun a x => if k = x / 64 then orN a (pw x) else a) a).testBit j = (a.testBit j || decide (64 * k + j ∈ l)) := by
    intro l
    induction l with
    | nil => intro a; simp
    | cons x l ih =>
      intro a
      show (l.foldl (fun a x => if k = x / 64 then orN a (pw x) else a) (if k = x / 64 then orN a (pw x) else a)).testBit j = _
      rw [ih]
      by_cases hk : k = x / 64
      · rw [if_pos hk]
        unfold orN
        rw [Nat.testBit_or, pw_bit]
        by_cases hx : x % 64 = j
        · have e : x = 64 * k + j := by omega
          simp [hx, ← e]
        · have e : ¬ 64 * k + j = x := by omega
          simp [hx, e]
      · rw [if_neg hk]
        have e : ¬ 64 * k + j = x := by omega
        simp [e]
  have h := this l 0
  rw [Nat.zero_testBit, Bool.false_or] at h
  exact h
theorem ofS_tb (zs : List Int) (k j : Nat) (hj : j < 64) : tb (ofS zs) k j = decide (64 * k + j ∈ alw zs) := by
  unfold tb ofS ofL
  rw [wd_map]
  split
  · exact setB_bit _ k j hj
  · rename_i hk
    rw [Nat.zero_testBit]
    symm
    rw [decide_eq_false_iff_not]
    intro hm
    have := gN_ge (alw zs) _ hm
    omega
theorem gN_mem (l : List Nat) (h : 0 < gN l) : gN l - 1 ∈ l := by
  have : ∀ (l : List Nat) (g : Nat), l.foldl (fun g x => max g (x + 1)) g = g ∨ (l.foldl (fun g x => max g (x + 1)) g - 1 ∈ l ∧ 0 < l.foldl (fun g x => max g (x + 1)) g) := by
    intro l
    induction l with
    | nil => intro g; exact .inl rfl
    | cons a l ih =>
      intro g
      rcases ih (max g (a + 1)) with h | h
      · rcases Nat.le_total g (a + 1) with hg | hg
        · right
          show l.foldl (fun g x => max g (x + 1)) (max g (a + 1)) - 1 ∈ a :: l ∧ 0 < l.foldl (fun g x => max g (x + 1)) (max g (a + 1))
          rw [h, Nat.max_eq_right hg]
          simp
        · left
          show l.foldl (fun g x => max g (x + 1)) (max g (a + 1)) = g
          rw [h, Nat.max_eq_left hg]
      · right
        exact ⟨List.mem_cons_of_mem _ h.1, h.2⟩
  rcases this l 0 with h' | h'
  · unfold gN at h; omega
  · exact h'.1
theorem ofS_noTail (zs : List Int) : NoTail (ofS zs) := by
  by_cases h : 0 < gN (alw zs)
  · right
    intro h0
    have hl : (ofS zs).length = (gN (alw zs) + 63) / 64 := by unfold ofS; rw [ofL_len]
    have hb := ofS_tb zs ((ofS zs).length - 1) ((gN (alw zs) - 1) % 64) (by omega)
    unfold tb at hb
    rw [h0, Nat.zero_testBit] at hb
    have e : 64 * ((ofS zs).length - 1) + (gN (alw zs) - 1) % 64 = gN (alw zs) - 1 := by rw [hl]; omega
    rw [e, decide_eq_true (gN_mem _ h)] at hb
    cases hb
  · left
    have e : gN (alw zs) = 0 := by omega
    unfold ofS
    rw [e]
    rfl
theorem mem_alw (zs : List Int) (n : Nat) : n ∈ alw zs ↔ (n : Int) ∈ zs ∧ n ≤ 65535 := by
  unfold alw
  rw [List.mem_filterMap]
  constructor
  · rintro ⟨z, hz, h⟩
    unfold okN at h
    split at h
    · injection h with h
      have e : z = (n : Int) := by omega
      subst e
      exact ⟨hz, by omega⟩
    · cases h
  · rintro ⟨hz, hn⟩
    refine ⟨n, hz, ?_⟩
    unfold okN
    rw [if_pos ⟨by omega, by omega⟩]
    simp
theorem ofS_congr {ys zs : List Int} (h : ∀ n, n ∈ alw ys ↔ n ∈ alw zs) : ofS ys = ofS zs :=
  same_sets (ofS_noTail ys) (ofS_noTail zs) (ofS_wd ys) (ofS_wd zs) fun k j hj => by
    rw [ofS_tb ys k j hj, ofS_tb zs k j hj, Bool.eq_iff_iff, decide_eq_true_iff, decide_eq_true_iff]
    exact h _

/-- the list of the set of zs -/
def lst (zs : List Int) : List Int := alist (ofS zs) (64 * (ofS zs).length)
theorem mem_alist (xs : List Nat) (n : Nat) (z : Int) : z ∈ alist xs n ↔ ∃ k, k < n ∧ bitB xs k = true ∧ z = (k : Int) := by
  unfold alist
  rw [List.mem_map]
  constructor
  · rintro ⟨k, hk, rfl⟩
    obtain ⟨h1, h2⟩ := List.mem_filter.1 hk
    exact ⟨k, List.mem_range.1 h1, h2, rfl⟩
  · rintro ⟨k, h1, h2, rfl⟩
    exact ⟨k, List.mem_filter.2 ⟨List.mem_range.2 h1, h2⟩, rfl⟩
theorem bitB_tb (xs : List Nat) (n : Nat) : bitB xs n = tb xs (n / 64) (n % 64) := rfl
theorem ofS_bit (zs : List Int) (n : Nat) : bitB (ofS zs) n = decide (n ∈ alw zs) := by
  rw [bitB_tb, ofS_tb zs _ _ (by omega), show 64 * (n / 64) + n % 64 = n by omega]
theorem bit_in (xs : List Nat) (n : Nat) (h : bitB xs n = true) : n < 64 * xs.length := by
  rcases Nat.lt_or_ge n (64 * xs.length) with h1 | h1
  · exact h1
  · unfold bitB at h
    rw [wd_out xs _ (by omega), Nat.zero_testBit] at h
    cases h
theorem mem_lst (zs : List Int) (z : Int) : z ∈ lst zs ↔ ∃ k, k ∈ alw zs ∧ z = (k : Int) := by
  unfold lst
  rw [mem_alist]
  constructor
  · rintro ⟨k, _, h2, rfl⟩
    rw [ofS_bit, decide_eq_true_iff] at h2
    exact ⟨k, h2, rfl⟩
  · rintro ⟨k, h, rfl⟩
    have hb : bitB (ofS zs) k = true := by rw [ofS_bit]; exact decide_eq_true h
    exact ⟨k, bit_in _ _ hb, hb, rfl⟩
theorem lst_sub (zs : List Int) (z : Int) (h : z ∈ lst zs) : z ∈ zs := by
  obtain ⟨k, hk, rfl⟩ := (mem_lst zs z).1 h
  exact ((mem_alw zs k).1 hk).1
theorem of_lst (zs : List Int) : ofS (lst zs) = ofS zs := ofS_congr fun n => by
  rw [mem_alw]
  constructor
  · rintro ⟨h, _⟩
    obtain ⟨k, hk, e⟩ := (mem_lst zs _).1 h
    have : k = n := by omega
    subst this
    exact hk
  · intro h
    exact ⟨(mem_lst zs _).2 ⟨n, h, rfl⟩, by have := alw_lt zs n h; omega⟩
theorem alist_sorted (xs : List Nat) (n : Nat) : (alist xs n).Pairwise (· < ·) := by
  unfold alist
  rw [List.pairwise_map]
  refine List.Pairwise.filter _ ?_
  exact List.pairwise_lt_range.imp fun h => by omega
theorem alist_up (xs : List Nat) (n i : Nat) (h : i + 1 < (alist xs n).length) : zd (alist xs n) i < zd (alist xs n) (i + 1) := by
  have hp := List.pairwise_iff_getElem.1 (alist_sorted xs n) i (i + 1) (by omega) h (by omega)
  unfold zd
  simpa [List.getD, h, show i < (alist xs n).length by omega] using hp
theorem zd_mem (zs : List Int) (i : Nat) (h : i < zs.length) : zd zs i ∈ zs := by
  unfold zd
  simp [List.getD, h]
end Go.Proofs.YtaboafkpmgadmaaDoor
