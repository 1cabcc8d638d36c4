/-
  GraphLeast: without an edge of the core what it led to does not follow; an edge of the core is an edge. Plain lemmas.
-/
import Derived.Test.YtaboafkpmgadmaaDoorGrCl
namespace Go.Proofs.YtaboafkpmgadmaaDoor
open Go.RowKit

/-- all but place k -/
def lss (es : List (Int × Int)) (k : Nat) : List (Int × Int) := es.take k ++ es.drop (k + 1)
theorem lss_len {es : List (Int × Int)} {k : Nat} (h : k < es.length) : (lss es k).length = es.length - 1 := by
  unfold lss; simp; omega
theorem lss_sub {es : List (Int × Int)} {k : Nat} {e : Int × Int} (h : e ∈ lss es k) : e ∈ es := by
  unfold lss at h
  rcases List.mem_append.1 h with h | h
  · exact List.mem_of_mem_take h
  · exact List.mem_of_mem_drop h
theorem elist_nodup (xss : List (List Nat)) : ∀ m, (elist xss m).Nodup
  | 0 => by simp [elist]
  | m + 1 => by
    rw [elist_succ, List.nodup_append]
    refine ⟨elist_nodup xss m, ?_, ?_⟩
    · unfold List.Nodup
      rw [List.pairwise_map]
      exact (mem_nodup (st xss m)).imp fun h e => by injection e with _ e; exact h e
    · intro a ha b hb e
      subst e
      obtain ⟨j, _, rfl⟩ := List.mem_map.1 hb
      have := (mem_elist.1 ha).1
      omega
theorem elist_len_le {xss : List (List Nat)} {m : Nat} (hb : ∀ k, k < m → ∀ j, bitB (st xss k) j = true → j < m) : ∀ k, k ≤ m → (elist xss k).length ≤ k * m
  | 0, _ => by simp [elist]
  | k + 1, h => by
    have h1 := elist_len_le hb k (by omega)
    have h2 := nodup_le m _ (mem_nodup (st xss k)) fun x hx => hb k (by omega) x (mem_iff.1 hx)
    rw [elist_succ, List.length_append, List.length_map, Nat.succ_mul]
    omega
theorem cor_len {m : Nat} {es : List (Int × Int)} (h : inR m es = true) : (elist (cors m es) m).length ≤ 40000 := by
  have h1 := elist_len_le (cors_bits h) m (Nat.le_refl _)
  have h2 := Nat.mul_le_mul (show m ≤ 200 by have := okN_of h; omega) (show m ≤ 200 by have := okN_of h; omega)
  omega
theorem elI_nodup {l : List (Nat × Nat)} (h : l.Nodup) : (elI l).Nodup := by
  unfold elI List.Nodup
  rw [List.pairwise_map]
  refine h.imp fun {a b} hne e => hne ?_
  injection e with e1 e2
  obtain ⟨a1, a2⟩ := a
  obtain ⟨b1, b2⟩ := b
  dsimp only at e1 e2
  rw [show a1 = b1 by omega, show a2 = b2 by omega]
theorem lss_out {es : List (Int × Int)} (h : es.Nodup) {k : Nat} (hk : k < es.length) : ed es k ∉ lss es k := by
  have e0 : es = es.take k ++ ed es k :: es.drop (k + 1) := by
    have h1 := (List.take_append_drop k es).symm
    rw [List.drop_eq_getElem_cons hk] at h1
    have h2 : ed es k = es[k] := by unfold ed; simp [List.getD, hk]
    rw [h2]
    exact h1
  rw [e0, List.nodup_append] at h
  obtain ⟨_, h2, h3⟩ := h
  rw [List.nodup_cons] at h2
  unfold lss
  intro hm
  rcases List.mem_append.1 hm with hm | hm
  · exact h3 _ hm _ (List.mem_cons_self ..) rfl
  · exact h2.1 hm

theorem core_edge {m : Nat} {es : List (Int × Int)} (h : inR m es = true) {i j : Nat} (he : gR (elI (elist (cors m es) m)) i j = true) :
    fw (gR es) m i j = true ∧ ∀ c, ¬ (fw (gR es) m i c = true ∧ fw (gR es) m c j = true) := by
  obtain ⟨hi, hb⟩ := (gR_elist _ _ _ _).1 he
  rw [st_cors _ hi, corS_bit h, Bool.and_eq_true, Bool.not_eq_true', ← Bool.not_eq_true, List.any_eq_true] at hb
  refine ⟨hb.1, fun c hc => hb.2 ⟨c, List.mem_range.2 (fw_lt h hc.1).2, ?_⟩⟩
  rw [hc.1, hc.2]
  rfl
theorem corG_of {m : Nat} {es : List (Int × Int)} (h : inR m es = true) (hfull : (ordr m es).length = m) : corG m es = elI (elist (cors m es) m) := by
  unfold corG; rw [if_pos (errn_ok h hfull), Int.toNat_natCast]
/-- an edge of the core: its ends, that it is an edge, and that no way is left without it -/
theorem least_all {m : Nat} {es : List (Int × Int)} (h : inR m es = true) (hfull : (ordr m es).length = m) {k : Nat} (hk : k < (corG m es).length) :
    ∃ i j : Nat, ed (corG m es) k = ((i : Int), (j : Int)) ∧ i < m ∧ j < m ∧ ((i : Int), (j : Int)) ∈ es ∧ errn m (lss (corG m es) k) = 0 ∧ bitB (beh m (lss (corG m es) k) i) j = false := by
  have hm := okN_of h
  have hcor := corG_of h hfull
  have hin2 : inR m (corG m es) = true := by rw [hcor]; exact inR_elist (by omega) (cors_bits h)
  have hme := ed_mem _ _ hk
  obtain ⟨⟨a, b⟩, he⟩ : ∃ e, e = ed (corG m es) k := ⟨_, rfl⟩
  rw [← he] at hme
  have hab := edge_in hin2 hme
  obtain ⟨i, rfl⟩ : ∃ i : Nat, a = (i : Int) := ⟨a.toNat, by omega⟩
  obtain ⟨j, rfl⟩ : ∃ j : Nat, b = (j : Int) := ⟨b.toNat, by omega⟩
  have hg : gR (elI (elist (cors m es) m)) i j = true := by rw [← hcor]; exact decide_eq_true hme
  obtain ⟨h1, h2⟩ := core_edge h hg
  have hsub : ∀ x y, gR (lss (corG m es) k) x y = true → gR (elI (elist (cors m es) m)) x y = true := fun x y hxy => by
    rw [← hcor]
    exact decide_eq_true (lss_sub (of_decide_eq_true hxy))
  have hinl : inR m (lss (corG m es) k) = true := by
    unfold inR at hin2 ⊢
    rw [Bool.and_eq_true] at hin2 ⊢
    refine ⟨hin2.1, ?_⟩
    rw [List.all_eq_true]
    exact fun e he => List.all_eq_true.1 hin2.2 e (lss_sub he)
  have hways : ∀ x y, Path (gR (lss (corG m es) k)) x y → fw (gR es) m x y = true := fun x y p => by
    rw [fw_iff (gR_lt h)]
    exact p.into fun x y hxy => (fw_iff (gR_lt h) x y).1 (core_edge h (hsub x y hxy)).1
  have hirr := fw_irr h hfull
  have hfl : (ordr m (lss (corG m es) k)).length = m := (topo_iff (gR_lt hinl)).2 fun x p => by
    have := hways x x p
    rw [hirr] at this
    cases this
  refine ⟨i, j, he.symm, by omega, by omega, ?_, errn_ok hinl hfl, ?_⟩
  · rcases (fw_next h i j).1 h1 with e | ⟨c, e, hf⟩
    · exact of_decide_eq_true e
    · exact absurd ⟨(fw_next h i c).2 (.inl e), hf⟩ (h2 c)
  · rw [← Bool.not_eq_true, beh_bit hinl, fw_iff (gR_lt hinl)]
    intro p
    cases p with
    | one e =>
      have h3 := of_decide_eq_true e
      rw [he] at h3
      refine lss_out ?_ hk h3
      rw [hcor]
      exact elI_nodup (elist_nodup _ _)
    | step e p => exact h2 _ ⟨(core_edge h (hsub _ _ e)).1, hways _ _ p⟩
end Go.Proofs.YtaboafkpmgadmaaDoor
