/-
  From how many open nodes each node waits: the numbers that graph.smallestFirst keeps. Plain lemmas.
-/
import Derived.Test.YtaboafkpmgadmaaDoorGrP
import Derived.Test.YtaboafkpmgadmaaDoorGrM
namespace Go.Proofs.YtaboafkpmgadmaaDoor

/-- the edges of a slice of sets -/
def eR (xss : List (List Nat)) (m i j : Nat) : Bool := decide (i < m) && bitB (st xss i) j
theorem eR_lt {xss : List (List Nat)} {m : Nat} (hbits : ∀ k, k < m → ∀ j, bitB (st xss k) j = true → j < m) : ∀ i j, eR xss m i j = true → i < m ∧ j < m := fun i j h => by
  unfold eR at h
  rw [Bool.and_eq_true] at h
  have := of_decide_eq_true h.1
  exact ⟨this, hbits i this j h.2⟩
theorem bit_in' (xs : List Nat) (n : Nat) (h : bitB xs n = true) : n < 64 * xs.length := by
  rcases Nat.lt_or_ge n (64 * xs.length) with h1 | h1
  · exact h1
  · unfold bitB at h
    rw [wd_out xs _ (by omega), Nat.zero_testBit] at h
    cases h
theorem mem_iff {xs : List Nat} {j : Nat} : j ∈ mem xs ↔ bitB xs j = true := by
  unfold mem nums
  rw [List.mem_filter, List.mem_range]
  exact ⟨fun h => h.2, fun h => ⟨bit_in' xs j h, h⟩⟩
theorem mem_nodup (xs : List Nat) : (mem xs).Nodup := by
  unfold mem nums
  exact List.Pairwise.filter _ List.nodup_range
theorem countP_mem (xs : List Nat) (x : Nat) : (mem xs).countP (fun j => decide (j = x)) = if bitB xs x = true then 1 else 0 := by
  have hn := mem_nodup xs
  have h1 : (mem xs).countP (fun j => decide (j = x)) = (mem xs).count x := by
    unfold List.count
    congr 1
  rw [h1]
  by_cases h : bitB xs x = true
  · rw [if_pos h]
    have h2 := List.count_pos_iff.2 (mem_iff.2 h)
    have h3 := List.nodup_iff_count.1 hn x
    omega
  · rw [if_neg h]
    exact List.count_eq_zero_of_not_mem fun hm => h (mem_iff.1 hm)
theorem cnt_eR (xss : List (List Nat)) (m x : Nat) : cntTo (elist xss m) x = (List.range m).countP fun p => eR xss m p x := by
  have : ∀ k, k ≤ m → cntTo (elist xss k) x = (List.range k).countP fun p => eR xss m p x := by
    intro k
    induction k with
    | zero => intro _; simp [elist, cntTo]
    | succ k ih =>
      intro hk
      have h := ih (by omega)
      unfold cntTo at h ⊢
      rw [elist_succ, List.countP_append, h, List.range_succ, List.countP_append, List.countP_map]
      congr 1
      have h2 := countP_mem (st xss k) x
      have e : ((fun e : Nat × Nat => decide (e.2 = x)) ∘ fun j => (k, j)) = fun j => decide (j = x) := rfl
      rw [e, h2]
      unfold eR
      have hkm : k < m := by omega
      cases hb : bitB (st xss k) x <;> simp [hb, hkm]
  exact this m (Nat.le_refl _)

/-- how many open nodes lead to x -/
def opn (R : Nat → Nat → Bool) (N : Nat) (d : List Nat) (x : Nat) : Nat := (List.range N).countP fun p => R p x && !(d.contains p)
/-- what smallestFirst keeps of x -/
def wv (R : Nat → Nat → Bool) (N : Nat) (d : List Nat) (x : Nat) : Int := if x ∈ d then -1 else (opn R N d x : Int)
theorem opn_le (R : Nat → Nat → Bool) (N : Nat) (d : List Nat) (x : Nat) : opn R N d x ≤ N := by
  have := List.countP_le_length (p := fun p => R p x && !(d.contains p)) (l := List.range N)
  rw [List.length_range] at this
  exact this
theorem opn_nil (R : Nat → Nat → Bool) (N x : Nat) : opn R N [] x = (List.range N).countP fun p => R p x := by
  unfold opn; congr 1; funext p; simp
theorem opn_zero {R : Nat → Nat → Bool} {N : Nat} {d : List Nat} {x : Nat} : opn R N d x = 0 ↔ ∀ p, p < N → R p x = true → p ∈ d := by
  unfold opn
  rw [List.countP_eq_zero]
  constructor
  · intro h p hp hr
    have := h p (List.mem_range.2 hp)
    rw [hr] at this
    simpa using this
  · intro h p hp
    cases hr : R p x with
    | false => simp
    | true => simpa using h p (List.mem_range.1 hp) hr
theorem wv_zero {R : Nat → Nat → Bool} {N : Nat} {d : List Nat} {x : Nat} : wv R N d x = 0 ↔ ready R N d x = true := by
  rw [ready_iff]
  unfold wv
  by_cases h : x ∈ d
  · rw [if_pos h]
    exact ⟨fun e => by omega, fun e => absurd h e.1⟩
  · rw [if_neg h]
    constructor
    · intro e
      exact ⟨h, opn_zero.1 (by omega)⟩
    · intro e
      have := (opn_zero (R := R) (N := N) (d := d) (x := x)).2 e.2
      omega
theorem opn_snoc {R : Nat → Nat → Bool} {N : Nat} {d : List Nat} {n : Nat} (hn : n < N) (hd : n ∉ d) (x : Nat) : opn R N d x = opn R N (d ++ [n]) x + if R n x = true then 1 else 0 := by
  have : ∀ M, (List.range M).countP (fun p => R p x && !(d.contains p)) = (List.range M).countP (fun p => R p x && !((d ++ [n]).contains p)) + if n < M ∧ R n x = true then 1 else 0 := by
    intro M
    induction M with
    | zero => simp
    | succ M ih =>
      rw [List.range_succ, List.countP_append, List.countP_append, ih]
      by_cases e : M = n
      · subst e
        have hc : d.contains M = false := by simpa using hd
        have hc2 : (d ++ [M]).contains M = true := by simp
        cases hr : R M x <;> simp [hr, hd]
      · have hc : (d ++ [n]).contains M = d.contains M := by
          have e' : ¬ M = n := e
          rw [Bool.eq_iff_iff]; simp [e']
        have hiff : (n < M + 1 ∧ R n x = true) ↔ (n < M ∧ R n x = true) := by
          constructor
          · rintro ⟨a, b⟩; exact ⟨by omega, b⟩
          · rintro ⟨a, b⟩; exact ⟨by omega, b⟩
        simp only [List.countP_cons, List.countP_nil, hc, hiff]
        omega
  have h := this N
  unfold opn
  rw [h]
  simp [hn]
/-- behind the release of n, when t of its successors L have been told -/
def wvt (R : Nat → Nat → Bool) (N : Nat) (d : List Nat) (n : Nat) (L : List Nat) (t x : Nat) : Int := if x ∈ d ∨ x = n then -1 else (opn R N d x : Int) - if x ∈ L.take t then 1 else 0
theorem wvt_zero (R : Nat → Nat → Bool) (N : Nat) (d : List Nat) (n : Nat) (L : List Nat) : wvt R N d n L 0 = fun x => if x = n then -1 else wv R N d x := by
  funext x
  unfold wvt wv
  by_cases h1 : x = n
  · simp [h1]
  · by_cases h2 : x ∈ d <;> simp [h1, h2]
theorem wvt_all {R : Nat → Nat → Bool} {N : Nat} {d : List Nat} {n : Nat} {L : List Nat} (hn : n < N) (hd : n ∉ d) (hL : ∀ x, x ∈ L ↔ R n x = true) : wvt R N d n L L.length = wv R N (d ++ [n]) := by
  funext x
  unfold wvt wv
  rw [List.take_length]
  have h := opn_snoc (R := R) hn hd x
  by_cases h1 : x ∈ d ∨ x = n
  · rw [if_pos h1, if_pos (by simpa using h1)]
  · have h1' : ¬ x ∈ d ++ [n] := by simpa using h1
    rw [if_neg h1, if_neg h1']
    by_cases h2 : R n x = true
    · rw [if_pos ((hL x).2 h2)]
      rw [if_pos h2] at h
      omega
    · rw [if_neg (fun h3 => h2 ((hL x).1 h3))]
      rw [if_neg h2] at h
      omega
theorem wvt_step {R : Nat → Nat → Bool} {N : Nat} {d : List Nat} {n : Nat} {L : List Nat} (hg : Good R N d) (hn : n < N) (hr : ready R N d n = true) (hL : ∀ x, x ∈ L ↔ R n x = true) (hnd : L.Nodup) {t y : Nat} (hy : L[t]? = some y) :
    wvt R N d n L (t + 1) = (fun x => if x = y then wvt R N d n L t y - 1 else wvt R N d n L t x) := by
  obtain ⟨h1, h2⟩ := ready_iff.1 hr
  obtain ⟨ht, hty⟩ := List.getElem?_eq_some_iff.1 hy
  have hRy : R n y = true := (hL y).1 (by rw [← hty]; exact List.getElem_mem ht)
  have hyd : ¬ (y ∈ d ∨ y = n) := by
    rintro (h3 | h3)
    · exact h1 (hg.mem_pre h3 hn hRy)
    · subst h3
      exact h1 (h2 y hn hRy)
  have hyt : y ∉ L.take t := by
    intro h3
    obtain ⟨j, hj, e⟩ := List.getElem_of_mem h3
    rw [List.getElem_take] at e
    have hj' : j < t := by simp at hj; omega
    exact absurd (e.trans hty.symm) (fun e2 => by
      have := List.pairwise_iff_getElem.1 hnd j t (by omega) ht hj'
      exact this e2)
  have htk : L.take (t + 1) = L.take t ++ [y] := by rw [List.take_succ_eq_append_getElem ht, hty]
  funext x
  by_cases e : x = y
  · subst e
    rw [if_pos rfl]
    unfold wvt
    rw [if_neg hyd, if_neg hyd, htk, if_pos (by simp), if_neg hyt]
    omega
  · rw [if_neg e]
    unfold wvt
    rw [htk]
    have : x ∈ L.take t ++ [y] ↔ x ∈ L.take t := by simp [e]
    simp only [this]
theorem wvt_bd (R : Nat → Nat → Bool) (N : Nat) (d : List Nat) (n : Nat) (L : List Nat) (t x : Nat) : -1 ≤ wvt R N d n L t x ∧ wvt R N d n L t x ≤ N := by
  have := opn_le R N d x
  unfold wvt
  split
  · omega
  · split <;> omega
theorem wv_bd (R : Nat → Nat → Bool) (N : Nat) (d : List Nat) (x : Nat) : -1 ≤ wv R N d x ∧ wv R N d x ≤ N := by
  have := opn_le R N d x
  unfold wv
  split <;> omega
end Go.Proofs.YtaboafkpmgadmaaDoor
