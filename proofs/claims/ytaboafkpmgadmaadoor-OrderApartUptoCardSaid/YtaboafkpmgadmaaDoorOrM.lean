/-
  OrderApart: a list's set has as many members as the list numbers if none comes twice; when all of a list are apart. Plain lemmas.
-/
import Derived.Test.YtaboafkpmgadmaaDoorGrLawBh
namespace Go.Proofs.YtaboafkpmgadmaaDoor
open Go.RowKit

theorem len_sub {L zs : List Int} (hn : L.Nodup) (h : ∀ x, x ∈ L → x ∈ zs) : L.length ≤ zs.length := by
  induction L generalizing zs with
  | nil => exact Nat.zero_le _
  | cons a L ih =>
    rw [List.nodup_cons] at hn
    have ha := h a (List.mem_cons_self ..)
    have h1 := ih (zs := zs.erase a) hn.2 fun x hx => (List.mem_erase_of_ne (fun e => hn.1 (by rw [← e]; exact hx))).2 (h x (List.mem_cons_of_mem _ hx))
    have h2 := List.length_erase_of_mem ha
    have h3 := List.length_pos_of_mem ha
    rw [List.length_cons]
    omega
theorem twice {zs : List Int} (h : ¬ zs.Nodup) : ∃ d, d ∈ zs ∧ d ∈ zs.erase d := by
  induction zs with
  | nil => exact absurd List.nodup_nil h
  | cons a L ih =>
    by_cases ha : a ∈ L
    · exact ⟨a, List.mem_cons_self .., by rw [List.erase_cons_head]; exact ha⟩
    · obtain ⟨d, h1, h2⟩ := ih fun hn => h (List.nodup_cons.2 ⟨ha, hn⟩)
      refine ⟨d, List.mem_cons_of_mem _ h1, ?_⟩
      have : a ≠ d := fun e => ha (e ▸ h1)
      rw [List.erase_cons_tail (by simpa using this)]
      exact List.mem_cons_of_mem _ h2
theorem nodup_len {L zs : List Int} (hn : L.Nodup) (h : ∀ x, x ∈ L ↔ x ∈ zs) : L.length = zs.length ↔ zs.Nodup := by
  constructor
  · intro e
    false_or_by_contra
    rename_i hc
    obtain ⟨d, h1, h2⟩ := twice hc
    have h3 := len_sub (zs := zs.erase d) hn fun x hx => by
      by_cases e : x = d
      · exact e ▸ h2
      · exact (List.mem_erase_of_ne e).2 ((h x).1 hx)
    have h4 := List.length_erase_of_mem h1
    have h5 := List.length_pos_of_mem h1
    omega
  · intro hz
    exact Nat.le_antisymm (len_sub hn fun x hx => (h x).1 hx) (len_sub hz fun x hx => (h x).2 hx)

/-- all are nodes -/
def inA (m : Nat) (zs : List Int) : Bool := zs.all fun z => decide (0 ≤ z) && decide (z < (m : Int))
theorem inA_iff {m : Nat} {zs : List Int} : inA m zs = true ↔ ∀ z, z ∈ zs → 0 ≤ z ∧ z < (m : Int) := by
  unfold inA
  rw [List.all_eq_true]
  exact ⟨fun h z hz => by have := h z hz; simpa using this, fun h z hz => by have := h z hz; simpa using this⟩
theorem size_nodup {m : Nat} (hm : m ≤ 200) {zs : List Int} (h : inA m zs = true) : ones (ofS zs) (ofS zs).length = zs.length ↔ zs.Nodup := by
  have h1 : (lst zs).length = ones (ofS zs) (ofS zs).length := alist_ones _ _
  rw [← h1]
  refine nodup_len ((alist_sorted _ _).imp fun h => by omega) fun x => ?_
  rw [mem_lst]
  constructor
  · rintro ⟨k, hk, rfl⟩
    exact ((mem_alw _ _).1 hk).1
  · intro hx
    have := inA_iff.1 h x hx
    exact ⟨x.toNat, (mem_alw _ _).2 ⟨by rw [show ((x.toNat : Nat) : Int) = x by omega]; exact hx, by omega⟩, by omega⟩

/-- is one of the list behind z? -/
def folB (m : Nat) (es : List (Int × Int)) (zs : List Int) (z : Int) : Bool := zs.any fun y => fw (gR es) m z.toNat y.toNat
/-- all are nodes, none twice, and none behind another one -/
def apB (m : Nat) (es : List (Int × Int)) (zs : List Int) : Bool := inA m zs && (decide zs.Nodup && !zs.any (folB m es zs))
theorem apB_iff {m : Nat} {es : List (Int × Int)} {zs : List Int} : apB m es zs = true ↔ (∀ z, z ∈ zs → 0 ≤ z ∧ z < (m : Int)) ∧ zs.Nodup ∧ ∀ z, z ∈ zs → ∀ y, y ∈ zs → fw (gR es) m z.toNat y.toNat = false := by
  unfold apB
  rw [Bool.and_eq_true, Bool.and_eq_true, inA_iff, decide_eq_true_iff, Bool.not_eq_true', ← Bool.not_eq_true, List.any_eq_true]
  refine and_congr Iff.rfl (and_congr Iff.rfl ⟨fun h z hz y hy => ?_, fun h hc => ?_⟩)
  · rw [← Bool.not_eq_true]
    intro hf
    exact h ⟨z, hz, by unfold folB; rw [List.any_eq_true]; exact ⟨y, hy, hf⟩⟩
  · obtain ⟨z, hz, hf⟩ := hc
    unfold folB at hf
    rw [List.any_eq_true] at hf
    obtain ⟨y, hy, hf⟩ := hf
    rw [h z hz y hy] at hf
    cases hf
theorem zd_nodup {zs : List Int} : zs.Nodup ↔ ∀ a, a < zs.length → ∀ b, b < a → zd zs b ≠ zd zs a := by
  unfold List.Nodup
  rw [List.pairwise_iff_getElem]
  have hz : ∀ k (hk : k < zs.length), zd zs k = zs[k] := fun k hk => by unfold zd; simp [List.getD, hk]
  constructor
  · intro h a ha b hb
    rw [hz a ha, hz b (by omega)]
    exact h b a (by omega) ha hb
  · intro h b a hb ha hlt
    rw [← hz a ha, ← hz b hb]
    exact h a ha b hlt
theorem apB_far {m : Nat} {es : List (Int × Int)} {zs : List Int} {a : Nat} (ha : a < zs.length) (h : ¬ (0 ≤ zd zs a ∧ zd zs a < (m : Int))) : apB m es zs = false := by
  rw [← Bool.not_eq_true, apB_iff]
  exact fun hc => h (hc.1 _ (zd_mem zs a ha))
theorem apB_same {m : Nat} {es : List (Int × Int)} {zs : List Int} {a b : Nat} (ha : a < zs.length) (hb : b < a) (h : zd zs b = zd zs a) : apB m es zs = false := by
  rw [← Bool.not_eq_true, apB_iff]
  exact fun hc => zd_nodup.1 hc.2.1 a ha b hb h
theorem apB_behind {m : Nat} {es : List (Int × Int)} {zs : List Int} {a b : Nat} (ha : a < zs.length) (hb : b < zs.length) (h : fw (gR es) m (zd zs b).toNat (zd zs a).toNat = true) : apB m es zs = false := by
  rw [← Bool.not_eq_true, apB_iff]
  intro hc
  rw [hc.2.2 _ (zd_mem zs b hb) _ (zd_mem zs a ha)] at h
  cases h
theorem apB_good {m : Nat} {es : List (Int × Int)} {zs : List Int} (hirr : ∀ i, fw (gR es) m i i = false)
    (h : ∀ a, a < zs.length → (0 ≤ zd zs a ∧ zd zs a < (m : Int)) ∧ ∀ b, b < a → zd zs b ≠ zd zs a ∧ fw (gR es) m (zd zs b).toNat (zd zs a).toNat = false ∧ fw (gR es) m (zd zs a).toNat (zd zs b).toNat = false) : apB m es zs = true := by
  rw [apB_iff]
  refine ⟨fun z hz => ?_, zd_nodup.2 fun a ha b hb => ((h a ha).2 b hb).1, fun z hz y hy => ?_⟩
  · obtain ⟨a, ha, e⟩ := List.getElem_of_mem hz
    have := (h a ha).1
    rwa [show zd zs a = z by unfold zd; simp [List.getD, ha, e]] at this
  · obtain ⟨a, ha, e1⟩ := List.getElem_of_mem hz
    obtain ⟨b, hb, e2⟩ := List.getElem_of_mem hy
    rw [show z = zd zs a by unfold zd; simp [List.getD, ha, e1], show y = zd zs b by unfold zd; simp [List.getD, hb, e2]]
    rcases Nat.lt_trichotomy a b with hlt | rfl | hlt
    · exact ((h b hb).2 a hlt).2.1
    · exact hirr _
    · exact ((h a ha).2 b hlt).2.2
/-- what is behind z meets the list's set just where one of the list is behind z -/
theorem and_none {m : Nat} (hm : m ≤ 200) {es : List (Int × Int)} (hin : inR m es = true) {zs : List Int} (h : inA m zs = true) (z : Int) : decide (0 < (mrg andN (beh m es z.toNat) (ofS zs)).length) = folB m es zs z := by
  have hbit : ∀ n, bitB (mrg andN (beh m es z.toNat) (ofS zs)) n = (fw (gR es) m z.toNat n && decide (n ∈ alw zs)) := fun n => by
    rw [bitB_tb, tb_and, ← bitB_tb, ← bitB_tb, beh_bit hin, ofS_bit]
  cases hf : folB m es zs z with
  | true =>
    unfold folB at hf
    rw [List.any_eq_true] at hf
    obtain ⟨y, hy, hf⟩ := hf
    rw [decide_eq_true_iff]
    have hy2 := inA_iff.1 h y hy
    have h1 := hbit y.toNat
    rw [hf, Bool.true_and, decide_eq_true ((mem_alw _ _).2 ⟨by rw [show ((y.toNat : Nat) : Int) = y by omega]; exact hy, by omega⟩)] at h1
    have := bit_in _ _ h1
    omega
  | false =>
    rw [decide_eq_false_iff_not]
    have : mrg andN (beh m es z.toNat) (ofS zs) = [] := eq_of_bitB (mrg_noTail _ _ _) noTail_nil (ws_and (beh_ws _ _ _)) ws_nil fun n => by
      rw [hbit, bitB_tb, tb_nil]
      rw [← Bool.not_eq_true, Bool.and_eq_true, decide_eq_true_iff]
      rintro ⟨h1, h2⟩
      unfold folB at hf
      rw [List.any_eq_false] at hf
      exact hf _ ((mem_alw _ _).1 h2).1 (by rw [Int.toNat_natCast]; exact h1)
    rw [this]
    simp
end Go.Proofs.YtaboafkpmgadmaaDoor
