/-
  Disjoint sets as trees: who stands above whom; a way to the top may be shortened; a tree may be hung below another. Plain mathematics.
-/
import Derived.Test.YtafhljjekpaehaaUfM
namespace Go.Proofs.Ytafhljjekpaehaa

/-- p says who stands above, f the top of each; d falls on the way up -/
structure Fr (N : Nat) (p f d : Nat → Nat) : Prop where
  lt : ∀ x, x < N → p x < N
  up : ∀ x, x < N → f (p x) = f x
  top : ∀ x, x < N → p x = x → f x = x
  dn : ∀ x, x < N → p x ≠ x → d (p x) < d x
theorem Fr.rootA {N : Nat} {p f d : Nat → Nat} (h : Fr N p f d) : ∀ k x, d x < k → x < N → f x < N ∧ p (f x) = f x
  | 0, _, hk, _ => by omega
  | k + 1, x, hk, hx => by
    by_cases e : p x = x
    · rw [h.top x hx e]; exact ⟨hx, e⟩
    · have h1 := h.rootA k (p x) (by have := h.dn x hx e; omega) (h.lt x hx)
      rw [h.up x hx] at h1
      exact h1
theorem Fr.root {N : Nat} {p f d : Nat → Nat} (h : Fr N p f d) {x : Nat} (hx : x < N) : f x < N ∧ p (f x) = f x := h.rootA (d x + 1) x (by omega) hx
theorem Fr.idem {N : Nat} {p f d : Nat → Nat} (h : Fr N p f d) {x : Nat} (hx : x < N) : f (f x) = f x := h.top _ (h.root hx).1 (h.root hx).2
theorem Fr.congr {N : Nat} {p q f d : Nat → Nat} (h : Fr N p f d) (e : ∀ x, x < N → q x = p x) : Fr N q f d :=
  ⟨fun x hx => by rw [e x hx]; exact h.lt x hx, fun x hx => by rw [e x hx]; exact h.up x hx, fun x hx hq => h.top x hx (by rw [← e x hx]; exact hq), fun x hx hq => by rw [e x hx] at hq ⊢; exact h.dn x hx hq⟩
/-- the way up made shorter by one -/
def hlv (p : Nat → Nat) (i : Nat) : Nat → Nat := fun x => if x = i then p (p i) else p x
theorem Fr.hlv_ne {N : Nat} {p f d : Nat → Nat} (h : Fr N p f d) {i : Nat} (hi : i < N) (hn : p i ≠ i) : p (p i) ≠ i := fun e => by
  have h1 := h.dn i hi hn
  by_cases e2 : p (p i) = p i
  · exact hn (by rw [← e2]; exact e)
  · have h2 := h.dn (p i) (h.lt i hi) e2
    rw [e] at h2
    omega
theorem Fr.halve {N : Nat} {p f d : Nat → Nat} (h : Fr N p f d) {i : Nat} (hi : i < N) (hn : p i ≠ i) : Fr N (hlv p i) f d := by
  have hne := h.hlv_ne hi hn
  refine ⟨fun x hx => ?_, fun x hx => ?_, fun x hx hp => ?_, fun x hx hp => ?_⟩
  · unfold hlv
    by_cases e : x = i
    · rw [if_pos e]; exact h.lt _ (h.lt i hi)
    · rw [if_neg e]; exact h.lt x hx
  · unfold hlv
    by_cases e : x = i
    · rw [if_pos e, h.up _ (h.lt i hi), h.up i hi, e]
    · rw [if_neg e]; exact h.up x hx
  · unfold hlv at hp
    by_cases e : x = i
    · rw [if_pos e, e] at hp; exact absurd hp hne
    · rw [if_neg e] at hp; exact h.top x hx hp
  · unfold hlv at hp ⊢
    by_cases e : x = i
    · rw [if_pos e, e]
      have h1 := h.dn i hi hn
      by_cases e2 : p (p i) = p i
      · rw [e2]; exact h1
      · have h2 := h.dn (p i) (h.lt i hi) e2
        omega
    · rw [if_neg e] at hp ⊢
      exact h.dn x hx hp
theorem Fr.hlv_top {N : Nat} {p f d : Nat → Nat} (h : Fr N p f d) {i : Nat} (hi : i < N) (hn : p i ≠ i) (x : Nat) : hlv p i x = x ↔ p x = x := by
  unfold hlv
  by_cases e : x = i
  · subst e
    rw [if_pos rfl]
    exact ⟨fun h1 => absurd h1 (h.hlv_ne hi hn), fun h1 => absurd h1 hn⟩
  · rw [if_neg e]

/-- trees that say what s says: the same top, the same number; the size stands at the top -/
structure Us (N : Nat) (p z f d s : Nat → Nat) : Prop where
  fr : Fr N p f d
  same : ∀ x y, x < N → y < N → (f x = f y ↔ s x = s y)
  sz : ∀ x, x < N → p x = x → z x = usz N s x
theorem Us.of {N : Nat} {p q z f d s : Nat → Nat} (h : Us N p z f d s) (hq : Fr N q f d) (ht : ∀ x, x < N → (q x = x ↔ p x = x)) : Us N q z f d s :=
  ⟨hq, h.same, fun x hx hp => h.sz x hx ((ht x hx).1 hp)⟩
theorem Us.size {N : Nat} {p z f d s : Nat → Nat} (h : Us N p z f d s) {x : Nat} (hx : x < N) : z (f x) = usz N s x := by
  have h1 := h.fr.root hx
  rw [h.sz _ h1.1 h1.2]
  exact usz_same ((h.same _ _ h1.1 hx).1 (h.fr.idem hx))
theorem usz_leT (n : Nat) (s : Nat → Nat) (x : Nat) : usz n s x ≤ n := by
  unfold usz
  have := List.countP_le_length (p := fun y => s y == s x) (l := List.range n)
  simpa using this
theorem rel_sameT {s : Nat → Nat} {i j : Nat} (h : s i = s j) : rel s i j = s := by
  funext x
  unfold rel
  split
  · rename_i h2; rw [h, h2]
  · rfl
theorem usz_id {N x : Nat} (h : x < N) : usz N id x = 1 := by
  have h1 := cnt_one (p := fun _ => false) (a := x) rfl N h
  unfold usz
  rw [show (fun y => id y == id x) = (fun l => (fun _ => false) l || l == x) from by funext y; simp, h1]
  simp
theorem Us.start (N : Nat) : Us N id (fun _ => 1) id (fun _ => 0) id :=
  ⟨⟨fun _ h => h, fun _ _ => rfl, fun _ _ _ => rfl, fun _ _ h => absurd rfl h⟩, fun _ _ _ _ => Iff.rfl, fun _ hx _ => (usz_id hx).symm⟩
theorem merge_iff {a b u v X Y : Nat} (huv : (u = a ∧ v = b) ∨ (u = b ∧ v = a)) :
    ((if X = v then u else X) = (if Y = v then u else Y)) ↔ (X = Y ∨ ((X = a ∨ X = b) ∧ (Y = a ∨ Y = b))) := by
  split <;> split <;> omega
theorem cnt_or {a b : Nat → Bool} (h : ∀ x, ¬ (a x = true ∧ b x = true)) : ∀ l : List Nat, l.countP (fun x => a x || b x) = l.countP a + l.countP b
  | [] => rfl
  | x :: l => by
    rw [List.countP_cons, List.countP_cons, List.countP_cons, cnt_or h l]
    have := h x
    cases ha : a x <;> cases hb : b x
    · simp
    · simp; omega
    · simp; omega
    · exact absurd ⟨ha, hb⟩ this
theorem Us.link {N : Nat} {p z f d s : Nat → Nat} (h : Us N p z f d s) {i j u v : Nat} (hi : i < N) (hj : j < N) (hne : f i ≠ f j) (huv : (u = f i ∧ v = f j) ∨ (u = f j ∧ v = f i)) :
    ∃ f' d', Us N (fun x => if x = v then u else p x) (fun x => if x = u then z u + z v else z x) f' d' (rel s i j) := by
  have ri := h.fr.root hi
  have rj := h.fr.root hj
  have hu : u < N ∧ p u = u := by rcases huv with ⟨e, _⟩ | ⟨e, _⟩ <;> rw [e] <;> assumption
  have hv : v < N ∧ p v = v := by rcases huv with ⟨_, e⟩ | ⟨_, e⟩ <;> rw [e] <;> assumption
  have huv' : u ≠ v := by
    rcases huv with ⟨e1, e2⟩ | ⟨e1, e2⟩
    · rw [e1, e2]; exact hne
    · rw [e1, e2]; exact fun e => hne e.symm
  have fu := h.fr.top u hu.1 hu.2
  have fv := h.fr.top v hv.1 hv.2
  have hsij : s i ≠ s j := fun e => hne ((h.same i j hi hj).2 e)
  have hrel : ∀ x y, rel s i j x = rel s i j y ↔ (s x = s y ∨ ((s x = s i ∨ s x = s j) ∧ (s y = s i ∨ s y = s j))) := fun x y => merge_iff (.inl ⟨rfl, rfl⟩)
  have hse : ∀ x y, x < N → y < N → ((if f x = v then u else f x) = (if f y = v then u else f y) ↔ rel s i j x = rel s i j y) := fun x y hx hy => by
    rw [hrel x y, merge_iff huv, h.same x y hx hy, h.same x i hx hi, h.same x j hx hj, h.same y i hy hi, h.same y j hy hj]
  refine ⟨fun x => if f x = v then u else f x, fun x => if f x = v then d x + d u + 1 else d x, ⟨fun x hx => ?_, fun x hx => ?_, fun x hx hp => ?_, fun x hx hp => ?_⟩, hse, fun x hx hp => ?_⟩
  · split
    · exact hu.1
    · exact h.fr.lt x hx
  · by_cases e : x = v
    · rw [if_pos e, e, fu, fv, if_pos rfl, if_neg huv']
    · rw [if_neg e, h.fr.up x hx]
  · by_cases e : x = v
    · rw [if_pos e] at hp; exact absurd (hp.trans e) huv'
    · rw [if_neg e] at hp
      rw [h.fr.top x hx hp, if_neg e]
  · by_cases e : x = v
    · rw [if_pos e, fu, if_neg huv', e, fv, if_pos rfl]
      omega
    · rw [if_neg e] at hp ⊢
      have h1 := h.fr.dn x hx hp
      rw [h.fr.up x hx]
      split <;> omega
  · have hxv : x ≠ v := fun e => by
      rw [if_pos e] at hp; exact huv' (hp.trans e)
    rw [if_neg hxv] at hp
    have fx := h.fr.top x hx hp
    have hmu : ∀ y, y < N → (s y = s u ∨ s y = s v ↔ (s y = s i ∨ s y = s j)) := fun y hy => by
      have e1 := (h.same u i hu.1 hi)
      have e2 := (h.same v j hv.1 hj)
      have e3 := (h.same u j hu.1 hj)
      have e4 := (h.same v i hv.1 hi)
      rw [fu] at e1 e3
      rw [fv] at e2 e4
      rcases huv with ⟨a, b⟩ | ⟨a, b⟩
      · rw [e1.1 a, e2.1 b]
      · rw [e3.1 a, e4.1 b]; exact Or.comm
    by_cases e : x = u
    · subst e
      rw [if_pos rfl, h.sz x hx hp, h.sz v hv.1 hv.2]
      unfold usz
      rw [← cnt_or (fun y hy => by
        rw [beq_iff_eq, beq_iff_eq] at hy
        exact huv' (fu.symm.trans (((h.same x v hx hv.1).2 (hy.1.symm.trans hy.2)).trans fv)))]
      refine (List.countP_congr fun y hy => ?_).symm
      have hy := List.mem_range.1 hy
      rw [beq_iff_eq, Bool.or_eq_true, beq_iff_eq, beq_iff_eq, hrel y x]
      have hx2 := (hmu x hx).1 (.inl rfl)
      constructor
      · rintro (e | ⟨e, _⟩)
        · exact .inl e
        · exact (hmu y hy).2 e
      · intro e
        exact .inr ⟨(hmu y hy).1 e, hx2⟩
    · rw [if_neg e, h.sz x hx hp]
      unfold usz
      refine List.countP_congr fun y hy => ?_
      have hy := List.mem_range.1 hy
      rw [beq_iff_eq, beq_iff_eq, hrel y x]
      have hno : ¬ (s x = s i ∨ s x = s j) := fun e2 => by
        rcases (hmu x hx).2 e2 with e3 | e3
        · exact e (fx.symm.trans (((h.same x u hx hu.1).2 e3).trans fu))
        · exact hxv (fx.symm.trans (((h.same x v hx hv.1).2 e3).trans fv))
      exact ⟨fun e => .inl e, fun e => e.elim id fun e => absurd e.2 hno⟩
end Go.Proofs.Ytafhljjekpaehaa
