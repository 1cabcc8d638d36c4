/-
  A list's numbers sorted and without repetitions, and the set made of them word by word. Plain lemmas.
-/
import Derived.Test.YtaboafkpmgadmaaDoorBsOfMath
import Derived.Test.YtaboafkpmgadmaaDoorBsSrt
namespace Go.Proofs.YtaboafkpmgadmaaDoor

theorem get_zd (zs : List Int) (j : Nat) : zs.toArray[j]! = zd zs j := by
  unfold zd
  simp [List.getD, getElem!_def]
  cases zs[j]? <;> rfl
theorem zd_at (zs : List Int) (z : Int) (h : z ∈ zs) : ∃ k, k < zs.length ∧ z = zd zs k := by
  obtain ⟨k, hk, e⟩ := List.mem_iff_getElem.1 h
  exact ⟨k, hk, by unfold zd; simpa [List.getD, hk] using e.symm⟩
theorem srt_up (zs : List Int) (i j : Nat) (hij : i ≤ j) (hj : j < (srt zs).length) : zd (srt zs) i ≤ zd (srt zs) j := by
  rcases Nat.lt_or_ge i j with h | h
  · have hs : (srt zs).Pairwise (fun x y => decide (x ≤ y) = true) := List.pairwise_mergeSort (fun a b c h1 h2 => by simp at *; omega) (fun a b => by simp; omega) zs
    have hp := List.pairwise_iff_getElem.1 hs i j (by omega) hj h
    unfold zd
    simpa [List.getD, hj, show i < (srt zs).length by omega] using hp
  · obtain rfl : i = j := by omega
    exact Int.le_refl _
theorem srt_mem (zs : List Int) (z : Int) : z ∈ srt zs ↔ z ∈ zs := List.mem_mergeSort
theorem cpt_def (zs : List Int) : cpt zs = ((List.range zs.length).filter (fun j => decide (j = 0 ∨ zd zs j ≠ zd zs (j - 1)))).map (zd zs) := by
  unfold cpt Lib.compact Lib.compactUpTo Lib.keeps
  simp only [get_zd]
theorem cpt_mem (zs : List Int) (z : Int) : z ∈ cpt zs ↔ z ∈ zs := by
  rw [cpt_def, List.mem_map]
  constructor
  · rintro ⟨j, hj, rfl⟩
    exact zd_mem zs j (List.mem_range.1 (List.mem_filter.1 hj).1)
  · intro h
    obtain ⟨k, hk, rfl⟩ := zd_at zs z h
    clear h
    induction k with
    | zero => exact ⟨0, List.mem_filter.2 ⟨List.mem_range.2 hk, by simp⟩, rfl⟩
    | succ k ih =>
      by_cases e : zd zs (k + 1) = zd zs k
      · rw [e]
        exact ih (by omega)
      · exact ⟨k + 1, List.mem_filter.2 ⟨List.mem_range.2 hk, by simp [e]⟩, rfl⟩
theorem cpt_up (zs : List Int) (hs : ∀ i j, i ≤ j → j < zs.length → zd zs i ≤ zd zs j) : (cpt zs).Pairwise (· < ·) := by
  rw [cpt_def, List.pairwise_map]
  refine List.Pairwise.imp_of_mem ?_ (List.Pairwise.filter _ (List.pairwise_lt_range (n := zs.length)))
  intro i j _ hj hij
  obtain ⟨h1, h2⟩ := List.mem_filter.1 hj
  have hjl := List.mem_range.1 h1
  have h3 : zd zs j ≠ zd zs (j - 1) := by
    have := of_decide_eq_true h2
    rcases this with h | h
    · omega
    · exact h
  have h4 := hs i (j - 1) (by omega) (by omega)
  have h5 := hs (j - 1) j (by omega) hjl
  omega

/-- the reference's list of numbers -/
def nsI (zs : List Int) : List Int := cpt (srt (toI (alw zs)))
theorem nsI_len (zs : List Int) : (nsI zs).length ≤ (alw zs).length := by
  have h1 := cpt_len (srt (toI (alw zs)))
  rw [srt_len, toI_len] at h1
  exact h1
theorem nsI_mem (zs : List Int) (z : Int) : z ∈ nsI zs ↔ ∃ n, n ∈ alw zs ∧ z = (n : Int) := by
  unfold nsI
  rw [cpt_mem, srt_mem]
  unfold toI
  rw [List.mem_map]
  constructor
  · rintro ⟨n, h, rfl⟩; exact ⟨n, h, rfl⟩
  · rintro ⟨n, h, rfl⟩; exact ⟨n, h, rfl⟩
theorem nsI_up (zs : List Int) (i j : Nat) (hij : i < j) (hj : j < (nsI zs).length) : zd (nsI zs) i < zd (nsI zs) j := by
  have hs : (nsI zs).Pairwise (· < ·) := cpt_up _ fun i j h1 h2 => srt_up _ i j h1 h2
  have hp := List.pairwise_iff_getElem.1 hs i j (by omega) hj hij
  unfold zd
  simpa [List.getD, hj, show i < (nsI zs).length by omega] using hp
/-- is n among the numbers? -/
def pIn (zs : List Int) (n : Nat) : Bool := decide (n ∈ alw zs)
/-- k numbers are in, all below b; the others are not below b -/
def At (zs : List Int) (k b : Nat) : Prop := (∀ j, j < k → j < (nsI zs).length → zd (nsI zs) j < (b : Int)) ∧ (∀ j, k ≤ j → j < (nsI zs).length → (b : Int) ≤ zd (nsI zs) j) ∧ b ≤ 65536
theorem nsI_num (zs : List Int) (k : Nat) (hk : k < (nsI zs).length) : ∃ n : Nat, zd (nsI zs) k = (n : Int) ∧ n ∈ alw zs ∧ n ≤ 65535 := by
  obtain ⟨n, hn, e⟩ := (nsI_mem zs _).1 (zd_mem (nsI zs) k hk)
  exact ⟨n, e, hn, by have := alw_lt zs n hn; omega⟩
theorem at_zero (zs : List Int) : At zs 0 0 := ⟨fun j hj => by omega, fun j _ hj => by obtain ⟨n, e, _⟩ := nsI_num zs j hj; omega, by omega⟩
theorem awl_skip (p : Nat → Bool) (a d : Nat) (h : ∀ i, a ≤ i → i < a + d → p i = false) : awl p (a + d) = awl p a := by
  induction d with
  | zero => rfl
  | succ d ih => rw [← Nat.add_assoc, awl_no p _ (h _ (by omega) (by omega)), ih fun i h1 h2 => h i h1 (by omega)]
theorem zd_at' (zs : List Int) (z : Int) (h : z ∈ zs) : ∃ k, k < zs.length ∧ zd zs k = z := by
  obtain ⟨k, hk, e⟩ := zd_at zs z h
  exact ⟨k, hk, e.symm⟩
theorem at_step (zs : List Int) (k b : Nat) (h : At zs k b) (hk : k < (nsI zs).length) :
    ∃ n : Nat, zd (nsI zs) k = (n : Int) ∧ n ≤ 65535 ∧ pIn zs n = true ∧ awl (pIn zs) b = awl (pIn zs) n ∧ At zs (k + 1) (n + 1) := by
  obtain ⟨h1, h2, h3⟩ := h
  obtain ⟨n, e, hn, hl⟩ := nsI_num zs k hk
  refine ⟨n, e, hl, decide_eq_true hn, ?_, ?_, ?_, by omega⟩
  · have hb := h2 k (Nat.le_refl _) hk
    obtain ⟨d, rfl⟩ : ∃ d, n = b + d := ⟨n - b, by omega⟩
    refine (awl_skip (pIn zs) b d fun i hi1 hi2 => ?_).symm
    refine decide_eq_false fun hm => ?_
    obtain ⟨j, hj, ej⟩ := zd_at' _ _ ((nsI_mem zs (i : Int)).2 ⟨i, hm, rfl⟩)
    rcases Nat.lt_or_ge j k with hjk | hjk
    · have := h1 j hjk hj; omega
    · rcases Nat.lt_or_ge k j with hkj | hkj
      · have := nsI_up zs k j hkj hj; omega
      · obtain rfl : j = k := by omega
        omega
  · intro j hj hjl
    rcases Nat.lt_or_ge j k with h | h
    · have := nsI_up zs j k h hk; omega
    · obtain rfl : j = k := by omega
      omega
  · intro j hj hjl
    have := nsI_up zs k j (by omega) hjl
    omega
theorem at_end (zs : List Int) (b : Nat) (h : At zs (nsI zs).length b) : awl (pIn zs) b = ofS zs := by
  obtain ⟨h1, _, h3⟩ := h
  have e : awl (pIn zs) 65536 = awl (pIn zs) b := by
    obtain ⟨d, hd⟩ : ∃ d, 65536 = b + d := ⟨65536 - b, by omega⟩
    rw [hd]
    refine awl_skip (pIn zs) b d fun i hi1 hi2 => decide_eq_false fun hm => ?_
    obtain ⟨j, hj, ej⟩ := zd_at' _ _ ((nsI_mem zs (i : Int)).2 ⟨i, hm, rfl⟩)
    have := h1 j hj hj
    omega
  rw [← e]
  obtain ⟨o1, o2, o3⟩ := awl_ok (pIn zs) 65536
  refine same_sets o3 (ofS_noTail zs) o1 (ofS_wd zs) fun k j hj => ?_
  rw [ofS_tb zs k j hj]
  unfold tb
  rw [o2 k j hj]
  unfold pIn
  by_cases hm : 64 * k + j ∈ alw zs
  · have := alw_lt zs _ hm
    simp [hm, this]
  · simp [hm]
end Go.Proofs.YtaboafkpmgadmaaDoor
