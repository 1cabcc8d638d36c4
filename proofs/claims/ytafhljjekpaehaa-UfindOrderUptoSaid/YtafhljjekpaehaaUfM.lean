/-
  Disjoint sets: each thing has its set's number; to join two is to number anew. Plain mathematics.
-/
import Derived.Test.YtafhljjekpaehaaBsMem
namespace Go.Proofs.Ytafhljjekpaehaa

/-- an operation: its kind and its two numbers -/
abbrev SOp := Int × Int × Int
def inS (n : Nat) (x : Int) : Bool := decide (0 ≤ x) && decide (x < (n : Int))
def inS2 (n : Nat) (o : SOp) : Bool := inS n o.2.1 && inS n o.2.2
theorem inS_iff {n : Nat} {x : Int} : inS n x = true ↔ 0 ≤ x ∧ x < (n : Int) := by
  unfold inS
  rw [Bool.and_eq_true, decide_eq_true_eq, decide_eq_true_eq]
/-- is it a join of two that are there? -/
def isJ (n : Nat) (o : SOp) : Bool := decide (o.1 = 1) && inS2 n o
/-- to number anew -/
def rel (s : Nat → Nat) (i j : Nat) : Nat → Nat := fun x => if s x = s j then s i else s x
def ustep (n : Nat) (s : Nat → Nat) (o : SOp) : Nat → Nat := if isJ n o = true then rel s o.2.1.toNat o.2.2.toNat else s
def ust (n : Nat) (s : Nat → Nat) (ops : List SOp) : Nat → Nat := ops.foldl (ustep n) s
/-- how many are numbered as x is -/
def usz (n : Nat) (s : Nat → Nat) (x : Nat) : Nat := (List.range n).countP fun y => s y == s x
/-- the answer to an operation -/
def uans (n : Nat) (s : Nat → Nat) (o : SOp) : Int :=
  if isJ n o = true then (if s o.2.1.toNat = s o.2.2.toNat then 0 else 1)
  else if (decide (o.1 = 2) && inS2 n o) = true then (if s o.2.1.toNat = s o.2.2.toNat then 1 else 0)
  else if (decide (o.1 = 3) && inS n o.2.1) = true then (usz n s o.2.1.toNat : Nat) else -1
def urun (n : Nat) : (Nat → Nat) → List SOp → List Int
  | _, [] => []
  | s, o :: os => uans n s o :: urun n (ustep n s o) os
theorem urun_len (n : Nat) : ∀ (ops : List SOp) (s : Nat → Nat), (urun n s ops).length = ops.length
  | [], _ => rfl
  | o :: os, s => by
    unfold urun
    rw [List.length_cons, List.length_cons, urun_len n os]
theorem ust_snoc (n : Nat) (s : Nat → Nat) (ops : List SOp) (o : SOp) : ust n s (ops ++ [o]) = ustep n (ust n s ops) o := by unfold ust; rw [List.foldl_append]; rfl
theorem urun_snoc (n : Nat) (o : SOp) : ∀ (ops : List SOp) (s : Nat → Nat), urun n s (ops ++ [o]) = urun n s ops ++ [uans n (ust n s ops) o]
  | [], _ => rfl
  | p :: os, s => by
    show uans n s p :: urun n (ustep n s p) (os ++ [o]) = uans n s p :: urun n (ustep n s p) os ++ [uans n (ust n (ustep n s p) os) o]
    rw [urun_snoc n o os]
    rfl

/-! ### being in one set -/
inductive Con (n : Nat) (ops : List SOp) : Nat → Nat → Prop
  | refl (x : Nat) : Con n ops x x
  | symm {x y : Nat} : Con n ops x y → Con n ops y x
  | trans {x y z : Nat} : Con n ops x y → Con n ops y z → Con n ops x z
  | join (o : SOp) : o ∈ ops → isJ n o = true → Con n ops o.2.1.toNat o.2.2.toNat
theorem Con.mono {n : Nat} {ops ops' : List SOp} (h : ∀ o, o ∈ ops → o ∈ ops') {x y : Nat} (p : Con n ops x y) : Con n ops' x y := by
  induction p with
  | refl x => exact .refl x
  | symm _ ih => exact .symm ih
  | trans _ _ ih1 ih2 => exact .trans ih1 ih2
  | join o ho hj => exact .join o (h o ho) hj
theorem ustep_keep {n : Nat} {s : Nat → Nat} {o : SOp} {x y : Nat} (h : s x = s y) : ustep n s o x = ustep n s o y := by
  unfold ustep rel
  split
  · dsimp only
    rw [h]
  · exact h
theorem ust_keep {n : Nat} {x y : Nat} : ∀ (ops : List SOp) (s : Nat → Nat), s x = s y → ust n s ops x = ust n s ops y
  | [], _, h => h
  | _ :: os, _, h => ust_keep os _ (ustep_keep h)
theorem ustep_join {n : Nat} {s : Nat → Nat} {o : SOp} (h : isJ n o = true) : ustep n s o o.2.1.toNat = ustep n s o o.2.2.toNat := by
  unfold ustep rel
  rw [if_pos h]
  simp
theorem ust_join {n : Nat} {o : SOp} (hj : isJ n o = true) : ∀ (ops : List SOp) (s : Nat → Nat), o ∈ ops → ust n s ops o.2.1.toNat = ust n s ops o.2.2.toNat
  | [], _, h => by simp at h
  | p :: os, s, h => by
    rcases List.mem_cons.1 h with e | e
    · subst e
      exact ust_keep os _ (ustep_join hj)
    · exact ust_join hj os _ e
theorem ust_of_con {n : Nat} {ops : List SOp} {x y : Nat} (p : Con n ops x y) : ust n id ops x = ust n id ops y := by
  induction p with
  | refl x => rfl
  | symm _ ih => exact ih.symm
  | trans _ _ ih1 ih2 => exact ih1.trans ih2
  | join o ho hj => exact ust_join hj ops _ ho
theorem con_of_ust {n : Nat} : ∀ (k : Nat) (ops : List SOp), ops.length = k → ∀ x y, ust n id ops x = ust n id ops y → Con n ops x y
  | 0, ops, hl, x, y, h => by
    obtain rfl : ops = [] := List.length_eq_zero_iff.1 hl
    have h : x = y := h
    subst h
    exact .refl x
  | k + 1, ops, hl, x, y, h => by
    obtain ⟨os, o, rfl⟩ : ∃ os o, ops = os ++ [o] := ⟨ops.dropLast, ops.getLast (by rintro rfl; simp at hl), (List.dropLast_concat_getLast _).symm⟩
    have ih := con_of_ust (n := n) k os (by simp at hl; omega)
    have up : ∀ {a b : Nat}, Con n os a b → Con n (os ++ [o]) a b := fun p => p.mono fun q hq => List.mem_append_left _ hq
    rw [ust_snoc] at h
    unfold ustep at h
    by_cases hj : isJ n o = true
    · rw [if_pos hj] at h
      have hc : Con n (os ++ [o]) o.2.1.toNat o.2.2.toNat := .join o (by simp) hj
      unfold rel at h
      by_cases h1 : ust n id os x = ust n id os o.2.2.toNat
      · rw [if_pos h1] at h
        by_cases h2 : ust n id os y = ust n id os o.2.2.toNat
        · exact up (ih _ _ (h1.trans h2.symm))
        · rw [if_neg h2] at h
          exact .trans (up (ih _ _ h1)) (.trans (.symm hc) (up (ih _ _ h)))
      · rw [if_neg h1] at h
        by_cases h2 : ust n id os y = ust n id os o.2.2.toNat
        · rw [if_pos h2] at h
          exact .trans (up (ih _ _ h)) (.trans hc (up (ih _ _ h2.symm)))
        · rw [if_neg h2] at h
          exact up (ih _ _ h)
    · rw [if_neg hj] at h
      exact up (ih _ _ h)
theorem ust_iff {n : Nat} (ops : List SOp) (x y : Nat) : ust n id ops x = ust n id ops y ↔ Con n ops x y := ⟨con_of_ust _ ops rfl x y, ust_of_con⟩
/-- the two numbers the other way round -/
def swp (o : SOp) : SOp := (o.1, o.2.2, o.2.1)
theorem isJ_swp (n : Nat) (o : SOp) : isJ n (swp o) = isJ n o := by
  unfold isJ inS2 swp
  rw [Bool.and_comm (inS n o.2.2)]
theorem con_swp {n : Nat} {ops ops' : List SOp} (h : ∀ o, o ∈ ops → swp o ∈ ops') {x y : Nat} (p : Con n ops x y) : Con n ops' x y := by
  induction p with
  | refl x => exact .refl x
  | symm _ ih => exact .symm ih
  | trans _ _ ih1 ih2 => exact .trans ih1 ih2
  | join o ho hj => exact .symm (.join (swp o) (h o ho) (by rw [isJ_swp]; exact hj))
/-- the operations from the end, each the other way round -/
def turnd (ops : List SOp) : List SOp := ops.reverse.map swp
theorem turnd_same {n : Nat} (ops : List SOp) (x y : Nat) : ust n id (turnd ops) x = ust n id (turnd ops) y ↔ ust n id ops x = ust n id ops y := by
  rw [ust_iff, ust_iff]
  constructor
  · refine con_swp fun o ho => ?_
    unfold turnd at ho
    rw [List.mem_map] at ho
    obtain ⟨p, hp, rfl⟩ := ho
    exact List.mem_reverse.1 hp
  · refine con_swp fun o ho => ?_
    unfold turnd
    exact List.mem_map.2 ⟨o, List.mem_reverse.2 ho, rfl⟩

/-! ### how many sets -/
theorem cnt_one {p : Nat → Bool} {a : Nat} (hp : p a = false) : ∀ n, a < n → (List.range n).countP (fun l => p l || l == a) = (List.range n).countP p + 1
  | 0, h => by omega
  | n + 1, h => by
    rw [List.range_succ, List.countP_append, List.countP_append]
    by_cases e : a = n
    · subst e
      have h1 : (List.range a).countP (fun l => p l || l == a) = (List.range a).countP p := List.countP_congr fun l hl => by
        have := List.mem_range.1 hl
        have e2 : (l == a) = false := beq_eq_false_iff_ne.2 (by omega)
        rw [e2, Bool.or_false]
      rw [h1]
      simp [hp]
    · rw [cnt_one hp n (by omega)]
      have e2 : (n == a) = false := beq_eq_false_iff_ne.2 (by omega)
      simp only [List.countP_singleton, e2, Bool.or_false]
      omega
/-- is l the number of one of the first m? -/
def used (s : Nat → Nat) (m l : Nat) : Bool := (List.range m).any fun x => s x == l
theorem used_iff {s : Nat → Nat} {m l : Nat} : used s m l = true ↔ ∃ x, x < m ∧ s x = l := by
  unfold used
  rw [List.any_eq_true]
  constructor
  · rintro ⟨x, hx, h⟩
    exact ⟨x, List.mem_range.1 hx, by simpa using h⟩
  · rintro ⟨x, hx, h⟩
    exact ⟨x, List.mem_range.2 hx, by simpa using h⟩
/-- is i the first of its set? -/
def headB (s : Nat → Nat) (i : Nat) : Bool := (List.range i).all fun j => !(s j == s i)
theorem headB_used (s : Nat → Nat) (i : Nat) : headB s i = !(used s i (s i)) := by
  unfold headB used
  rw [List.not_any_eq_all_not]
def lab (n : Nat) (s : Nat → Nat) : Nat := (List.range n).countP (used s n)
theorem heads_used {n : Nat} {s : Nat → Nat} (hs : ∀ x, x < n → s x < n) : ∀ m, m ≤ n → (List.range m).countP (headB s) = (List.range n).countP (used s m)
  | 0, _ => by
    symm
    rw [List.range_zero, List.countP_nil, List.countP_eq_zero]
    intro l _
    simp [used]
  | m + 1, h => by
    have ih := heads_used hs m (by omega)
    have hu : ∀ l, used s (m + 1) l = (used s m l || l == s m) := fun l => by
      rw [Bool.eq_iff_iff, Bool.or_eq_true, used_iff, used_iff]
      constructor
      · rintro ⟨x, hx, e⟩
        by_cases e1 : x = m
        · subst e1; exact .inr (by simp [e])
        · exact .inl ⟨x, by omega, e⟩
      · rintro (⟨x, hx, e⟩ | e)
        · exact ⟨x, by omega, e⟩
        · exact ⟨m, by omega, by simpa using (beq_iff_eq.1 e).symm⟩
    rw [List.range_succ, List.countP_append, ih, List.countP_singleton, headB_used]
    cases hm : used s m (s m) with
    | true =>
      have : (List.range n).countP (used s (m + 1)) = (List.range n).countP (used s m) := List.countP_congr fun l _ => by
        rw [hu]
        by_cases e : l = s m
        · subst e; simp [hm]
        · simp [e]
      rw [this]
      simp
    | false =>
      have : (List.range n).countP (used s (m + 1)) = (List.range n).countP (fun l => used s m l || l == s m) := List.countP_congr fun l _ => by rw [hu]
      rw [this, cnt_one hm n (hs m (by omega))]
      simp
theorem heads_lab {n : Nat} {s : Nat → Nat} (hs : ∀ x, x < n → s x < n) : (List.range n).countP (headB s) = lab n s := heads_used hs n (Nat.le_refl _)
theorem lab_id (n : Nat) : lab n id = n := by
  have h := (List.countP_eq_length (p := used id n) (l := List.range n)).2 fun l hl => used_iff.2 ⟨l, List.mem_range.1 hl, rfl⟩
  rw [List.length_range] at h
  exact h
theorem ustep_lt {n : Nat} {s : Nat → Nat} (hs : ∀ x, x < n → s x < n) (o : SOp) : ∀ x, x < n → ustep n s o x < n := by
  intro x hx
  unfold ustep
  by_cases hj : isJ n o = true
  · rw [if_pos hj]
    unfold rel
    split
    · unfold isJ inS2 at hj
      simp only [Bool.and_eq_true, inS_iff] at hj
      exact hs _ (by omega)
    · exact hs x hx
  · rw [if_neg hj]; exact hs x hx
theorem ust_lt {n : Nat} : ∀ (ops : List SOp) {s : Nat → Nat}, (∀ x, x < n → s x < n) → ∀ x, x < n → ust n s ops x < n
  | [], _, hs => hs
  | o :: os, _, hs => ust_lt os (ustep_lt hs o)
/-- does the operation make one set of two? -/
def joins1 (n : Nat) (s : Nat → Nat) (o : SOp) : Bool := isJ n o && !(s o.2.1.toNat == s o.2.2.toNat)
theorem lab_step {n : Nat} {s : Nat → Nat} (hs : ∀ x, x < n → s x < n) (o : SOp) : lab n s = lab n (ustep n s o) + (if joins1 n s o = true then 1 else 0) := by
  unfold joins1
  by_cases hj : isJ n o = true
  · have hin : o.2.1.toNat < n ∧ o.2.2.toNat < n := by
      unfold isJ inS2 at hj
      simp only [Bool.and_eq_true, inS_iff] at hj
      omega
    obtain ⟨i, hi⟩ : ∃ i, i = o.2.1.toNat := ⟨_, rfl⟩
    obtain ⟨j, hj2⟩ : ∃ j, j = o.2.2.toNat := ⟨_, rfl⟩
    rw [← hi, ← hj2] at hin
    unfold ustep
    rw [if_pos hj, hj, ← hi, ← hj2]
    by_cases he : s i = s j
    · have : rel s i j = s := by
        funext x
        unfold rel
        split
        · rename_i h; rw [he, h]
        · rfl
      rw [this]
      simp [he]
    · have hb : used (rel s i j) n (s j) = false := by
        rw [← Bool.not_eq_true, used_iff]
        rintro ⟨x, _, h⟩
        unfold rel at h
        split at h
        · exact he h
        · rename_i h1; exact h1 h
      have hu : ∀ l, used s n l = (used (rel s i j) n l || l == s j) := fun l => by
        rw [Bool.eq_iff_iff, Bool.or_eq_true, used_iff, used_iff]
        constructor
        · rintro ⟨x, hx, e⟩
          by_cases e1 : s x = s j
          · exact .inr (by rw [← e, e1]; simp)
          · exact .inl ⟨x, hx, by unfold rel; rw [if_neg e1]; exact e⟩
        · rintro (⟨x, hx, e⟩ | e)
          · unfold rel at e
            split at e
            · exact ⟨i, hin.1, e⟩
            · exact ⟨x, hx, e⟩
          · exact ⟨j, hin.2, (beq_iff_eq.1 e).symm⟩
      unfold lab
      have : (List.range n).countP (used s n) = (List.range n).countP (fun l => used (rel s i j) n l || l == s j) := List.countP_congr fun l _ => by rw [hu]
      rw [this, cnt_one hb n (hs j hin.2)]
      simp [he]
  · unfold ustep
    rw [if_neg hj]
    simp [hj]
/-- how many operations make one set of two -/
def jns (n : Nat) : (Nat → Nat) → List SOp → Nat
  | _, [] => 0
  | s, o :: os => (if joins1 n s o = true then 1 else 0) + jns n (ustep n s o) os
theorem jns_snoc (n : Nat) (o : SOp) : ∀ (ops : List SOp) (s : Nat → Nat), jns n s (ops ++ [o]) = jns n s ops + (if joins1 n (ust n s ops) o = true then 1 else 0)
  | [], s => by
    show (if joins1 n s o = true then 1 else 0) + 0 = 0 + _
    rw [Nat.zero_add, Nat.add_zero]
    rfl
  | p :: os, s => by
    show _ + jns n (ustep n s p) (os ++ [o]) = _ + jns n (ustep n s p) os + _
    rw [jns_snoc n o os]
    show _ = _ + _ + (if joins1 n (ust n (ustep n s p) os) o = true then 1 else 0)
    omega
theorem lab_run {n : Nat} : ∀ (ops : List SOp) {s : Nat → Nat}, (∀ x, x < n → s x < n) → lab n s = lab n (ust n s ops) + jns n s ops
  | [], _, _ => rfl
  | o :: os, s, hs => by
    have h1 := lab_step hs o
    have h2 := lab_run os (ustep_lt hs o)
    show lab n s = lab n (ust n (ustep n s o) os) + (_ + jns n (ustep n s o) os)
    omega
/-- the sets are as many as things, less the joins -/
theorem heads_joins (n : Nat) (ops : List SOp) : (List.range n).countP (headB (ust n id ops)) + jns n id ops = n := by
  have h0 : ∀ x, x < n → (id x : Nat) < n := fun x h => h
  rw [heads_lab (ust_lt ops h0)]
  have h1 := lab_run ops h0
  rw [lab_id] at h1
  exact h1.symm
theorem uans_join {n : Nat} {s : Nat → Nat} {o : SOp} : (decide (o.1 = 1) && decide (uans n s o = 1)) = joins1 n s o := by
  unfold joins1 uans
  by_cases hj : isJ n o = true
  · have h1 : o.1 = 1 := by
      unfold isJ at hj
      rw [Bool.and_eq_true] at hj
      exact of_decide_eq_true hj.1
    rw [if_pos hj, hj]
    by_cases he : s o.2.1.toNat = s o.2.2.toNat
    · simp [he]
    · simp [he, h1]
  · rw [if_neg hj]
    by_cases h1 : o.1 = 1
    · simp [h1, hj]
    · simp [h1, hj]
theorem usz_same {n : Nat} {s : Nat → Nat} {x y : Nat} (h : s x = s y) : usz n s x = usz n s y := by unfold usz; rw [h]
end Go.Proofs.Ytafhljjekpaehaa
