/-
  What the closure and the core of a graph lead to is what the graph leads to. Plain lemmas.
-/
import Derived.Test.YtaboafkpmgadmaaDoorGrLawBh
namespace Go.Proofs.YtaboafkpmgadmaaDoor
open Go.RowKit

theorem mem_elist {xss : List (List Nat)} {m i j : Nat} : (i, j) ∈ elist xss m ↔ i < m ∧ bitB (st xss i) j = true := by
  unfold elist
  rw [List.mem_flatMap]
  constructor
  · rintro ⟨k, hk, h⟩
    obtain ⟨x, hx, e⟩ := List.mem_map.1 h
    injection e with e1 e2
    subst e1
    subst e2
    exact ⟨List.mem_range.1 hk, mem_iff.1 hx⟩
  · rintro ⟨hi, hb⟩
    exact ⟨i, List.mem_range.2 hi, List.mem_map.2 ⟨j, mem_iff.2 hb, rfl⟩⟩
theorem mem_elI {l : List (Nat × Nat)} {i j : Nat} : ((i : Int), (j : Int)) ∈ elI l ↔ (i, j) ∈ l := by
  unfold elI
  rw [List.mem_map]
  constructor
  · rintro ⟨⟨a, b⟩, hm, e⟩
    injection e with e1 e2
    have h1 : a = i := by dsimp only at e1; omega
    have h2 : b = j := by dsimp only at e2; omega
    rw [← h1, ← h2]
    exact hm
  · intro h
    exact ⟨(i, j), h, rfl⟩
theorem gR_elist (xss : List (List Nat)) (m i j : Nat) : gR (elI (elist xss m)) i j = true ↔ i < m ∧ bitB (st xss i) j = true := by
  unfold gR
  rw [decide_eq_true_iff, mem_elI, mem_elist]
theorem inR_elist {xss : List (List Nat)} {m : Nat} (hm : m ≤ 200) (hb : ∀ k, k < m → ∀ j, bitB (st xss k) j = true → j < m) : inR m (elI (elist xss m)) = true := by
  unfold inR
  rw [Bool.and_eq_true]
  refine ⟨by unfold okN200; simp; omega, ?_⟩
  rw [List.all_eq_true]
  intro e he
  unfold elI at he
  obtain ⟨⟨a, b⟩, hm2, rfl⟩ := List.mem_map.1 he
  obtain ⟨h1, h2⟩ := mem_elist.1 hm2
  have h3 := hb a h1 b h2
  unfold okE
  rw [nodeB_mk (by omega) (by dsimp only; omega), nodeB_mk (by omega) (by dsimp only; omega)]
  rfl

/-- the same ways: the same sets, the same error -/
theorem same_ways {m : Nat} {es es2 : List (Int × Int)} (h : inR m es = true) (h2 : inR m es2 = true) (hfull : (ordr m es).length = m) (hw : ∀ i j, Path (gR es2) i j ↔ Path (gR es) i j) :
    (∀ i j, fw (gR es2) m i j = fw (gR es) m i j) ∧ (ordr m es2).length = m := by
  constructor
  · intro i j
    rw [Bool.eq_iff_iff, fw_iff (gR_lt h2), fw_iff (gR_lt h)]
    exact hw i j
  · refine (topo_iff (gR_lt h2)).2 fun x hx => ?_
    exact (topo_iff (gR_lt h)).1 hfull x ((hw x x).1 hx)
theorem same_beh {m : Nat} {es es2 : List (Int × Int)} (hw : ∀ i j, fw (gR es2) m i j = fw (gR es) m i j) : beh m es2 = beh m es := by
  funext n
  unfold beh
  have e : fw (gR es2) m n = fw (gR es) m n := by funext j; exact hw n j
  rw [e]
theorem same_all {m : Nat} {es es2 : List (Int × Int)} (hin : inR m es = true) (h2 : inR m es2 = true) (hfull : (ordr m es).length = m) (hw : ∀ i j, Path (gR es2) i j ↔ Path (gR es) i j) :
    errn m es2 = 0 ∧ clsG m es2 = clsG m es ∧ corG m es2 = corG m es := by
  obtain ⟨h3, h4⟩ := same_ways hin h2 hfull hw
  have e1 := errn_ok hin hfull
  have e2 := errn_ok h2 h4
  have e3 := same_beh h3
  have e4 : behs m es2 = behs m es := by unfold behs; rw [e3]
  have e5 : cors m es2 = cors m es := by
    unfold cors
    have : corS m es2 = corS m es := by funext k; unfold corS; rw [e3, e4]
    rw [this]
  refine ⟨e2, ?_, ?_⟩
  · unfold clsG; rw [if_pos e1, if_pos e2, Int.toNat_natCast, e4]
  · unfold corG; rw [if_pos e1, if_pos e2, Int.toNat_natCast, e5]

/-- the closure's edges are the ways -/
theorem cls_ways {m : Nat} {es : List (Int × Int)} (h : inR m es = true) (i j : Nat) : Path (gR (elI (elist (behs m es) m))) i j ↔ Path (gR es) i j := by
  have hE : ∀ i j, gR (elI (elist (behs m es) m)) i j = true ↔ fw (gR es) m i j = true := fun i j => by
    rw [gR_elist]
    constructor
    · rintro ⟨h1, h2⟩
      rw [st_behs _ h1, beh_bit h] at h2
      exact h2
    · intro hf
      have hl := fw_lt h hf
      exact ⟨hl.1, by rw [st_behs _ hl.1, beh_bit h]; exact hf⟩
  constructor
  · exact Path.into fun a b hab => (fw_iff (gR_lt h) _ _).1 ((hE a b).1 hab)
  · intro p
    exact .one ((hE i j).2 ((fw_iff (gR_lt h) _ _).2 p))

/-- between: the nodes on the ways from i to j -/
def betw (R : Nat → Nat → Bool) (m i j : Nat) : Nat := (List.range m).countP fun c => fw R m i c && fw R m c j
theorem countP_lt {p q : Nat → Bool} : ∀ {l : List Nat}, (∀ x ∈ l, p x = true → q x = true) → ∀ {y : Nat}, y ∈ l → q y = true → p y = false → l.countP p < l.countP q
  | [], _, _, hy, _, _ => by simp at hy
  | a :: l, hs, y, hy, h1, h2 => by
    have hs' : ∀ x ∈ l, p x = true → q x = true := fun x hx => hs x (List.mem_cons_of_mem _ hx)
    have hle : l.countP p ≤ l.countP q := List.countP_mono_left hs'
    rw [List.countP_cons, List.countP_cons]
    rcases List.mem_cons.1 hy with e | hy
    · subst e
      rw [h1, h2]
      simp
      omega
    · have ih := countP_lt hs' hy h1 h2
      by_cases hp : p a = true
      · rw [hp, hs a (List.mem_cons_self) hp]
        simp
        omega
      · have hpf : p a = false := by simpa using hp
        rw [hpf]
        cases q a <;> simp <;> omega
/-- every way is made of the core's edges -/
theorem cor_path {m : Nat} {es : List (Int × Int)} (h : inR m es = true) (hfull : (ordr m es).length = m) : ∀ (n i j : Nat), betw (gR es) m i j ≤ n → fw (gR es) m i j = true → Path (gR (elI (elist (cors m es) m))) i j := by
  have hE : ∀ i j, fw (gR es) m i j = true → (∀ c, ¬ (fw (gR es) m i c = true ∧ fw (gR es) m c j = true)) → gR (elI (elist (cors m es) m)) i j = true := fun i j hf hc => by
    have hl := fw_lt h hf
    rw [gR_elist, st_cors _ hl.1, corS_bit h, Bool.and_eq_true]
    refine ⟨hl.1, hf, ?_⟩
    rw [Bool.not_eq_true', List.any_eq_false]
    intro c _ hcc
    rw [Bool.and_eq_true] at hcc
    exact hc c hcc
  intro n
  induction n with
  | zero =>
    intro i j hn hf
    refine .one (hE i j hf fun c hc => ?_)
    have h0 : betw (gR es) m i j = 0 := by omega
    unfold betw at h0
    rw [List.countP_eq_zero] at h0
    exact h0 c (List.mem_range.2 (fw_lt h hc.1).2) (by rw [hc.1, hc.2]; rfl)
  | succ n ih =>
    intro i j hn hf
    by_cases hc : ∃ c, fw (gR es) m i c = true ∧ fw (gR es) m c j = true
    · obtain ⟨c, h1, h2⟩ := hc
      have hcm := List.mem_range.2 (fw_lt h h1).2
      have hq : (fw (gR es) m i c && fw (gR es) m c j) = true := by rw [h1, h2]; rfl
      have b1 : betw (gR es) m i c < betw (gR es) m i j := by
        unfold betw
        refine countP_lt (fun x _ hx => ?_) hcm hq ?_
        · rw [Bool.and_eq_true] at hx ⊢
          exact ⟨hx.1, fw_tr h hx.2 h2⟩
        · rw [fw_irr h hfull c, Bool.and_false]
      have b2 : betw (gR es) m c j < betw (gR es) m i j := by
        unfold betw
        refine countP_lt (fun x _ hx => ?_) hcm hq ?_
        · rw [Bool.and_eq_true] at hx ⊢
          exact ⟨fw_tr h h1 hx.1, hx.2⟩
        · rw [fw_irr h hfull c, Bool.false_and]
      exact (ih i c (by omega) h1).trans (ih c j (by omega) h2)
    · exact .one (hE i j hf fun c hcc => hc ⟨c, hcc⟩)
theorem cor_ways {m : Nat} {es : List (Int × Int)} (h : inR m es = true) (hfull : (ordr m es).length = m) (i j : Nat) : Path (gR (elI (elist (cors m es) m))) i j ↔ Path (gR es) i j := by
  constructor
  · refine Path.into fun a b hab => ?_
    rw [gR_elist] at hab
    have h2 := hab.2
    rw [st_cors _ hab.1, corS_bit h, Bool.and_eq_true] at h2
    exact (fw_iff (gR_lt h) _ _).1 h2.1
  · intro p
    exact cor_path h hfull _ i j (Nat.le_refl _) ((fw_iff (gR_lt h) _ _).2 p)

/-- the closure's and the core's own answers -/
theorem cls_all {m : Nat} {es : List (Int × Int)} (hin : inR m es = true) (hfull : (ordr m es).length = m) : errn m (clsG m es) = 0 ∧ clsG m (clsG m es) = clsG m es ∧ corG m (clsG m es) = corG m es := by
  have hm := okN_of hin
  have e : clsG m es = elI (elist (behs m es) m) := by unfold clsG; rw [if_pos (errn_ok hin hfull), Int.toNat_natCast]
  have h2 : inR m (clsG m es) = true := by rw [e]; exact inR_elist (by omega) (behs_bits hin)
  exact same_all hin h2 hfull fun i j => by rw [e]; exact cls_ways hin i j
theorem cor_all {m : Nat} {es : List (Int × Int)} (hin : inR m es = true) (hfull : (ordr m es).length = m) : errn m (corG m es) = 0 ∧ clsG m (corG m es) = clsG m es ∧ corG m (corG m es) = corG m es := by
  have hm := okN_of hin
  have e : corG m es = elI (elist (cors m es) m) := by unfold corG; rw [if_pos (errn_ok hin hfull), Int.toNat_natCast]
  have h2 : inR m (corG m es) = true := by rw [e]; exact inR_elist (by omega) (cors_bits hin)
  exact same_all hin h2 hfull fun i j => by rw [e]; exact cor_ways hin hfull i j
/-- every edge is in the closure -/
theorem edge_cls {m : Nat} {es : List (Int × Int)} (hin : inR m es = true) (hfull : (ordr m es).length = m) {e : Int × Int} (he : e ∈ es) : e ∈ clsG m es := by
  have e1 : clsG m es = elI (elist (behs m es) m) := by unfold clsG; rw [if_pos (errn_ok hin hfull), Int.toNat_natCast]
  obtain ⟨x, y⟩ := e
  have hed := edge_in hin he
  obtain ⟨a, rfl⟩ : ∃ a : Nat, x = (a : Int) := ⟨x.toNat, by omega⟩
  obtain ⟨b, rfl⟩ : ∃ b : Nat, y = (b : Int) := ⟨y.toNat, by omega⟩
  have hg : gR es a b = true := decide_eq_true he
  have hl := gR_lt hin a b hg
  rw [e1, mem_elI, mem_elist, st_behs _ hl.1, beh_bit hin]
  exact ⟨hl.1, (fw_iff (gR_lt hin) _ _).2 (.one hg)⟩
end Go.Proofs.YtaboafkpmgadmaaDoor
