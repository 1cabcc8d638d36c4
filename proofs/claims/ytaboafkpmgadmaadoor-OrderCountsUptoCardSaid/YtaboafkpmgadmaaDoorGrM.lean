/-
  Plain mathematics of directed graphs on the nodes below N: paths, the topological order that takes the smallest node, Floyd and Warshall's closure. No condition but that edges lie below N.
-/
import Derived.Below
namespace Go.Proofs.YtaboafkpmgadmaaDoor

/-- a path of at least one edge -/
inductive Path (R : Nat → Nat → Bool) : Nat → Nat → Prop
  | one {a b : Nat} : R a b = true → Path R a b
  | step {a b c : Nat} : R a b = true → Path R b c → Path R a c
theorem Path.trans {R : Nat → Nat → Bool} {a b c : Nat} (h : Path R a b) (k : Path R b c) : Path R a c := by
  induction h with
  | one h => exact .step h k
  | step h _ ih => exact .step h (ih k)
theorem Path.lt1 {R : Nat → Nat → Bool} {N a b : Nat} (hR : ∀ i j, R i j = true → i < N ∧ j < N) (h : Path R a b) : a < N := by
  cases h with
  | one h => exact (hR _ _ h).1
  | step h _ => exact (hR _ _ h).1
theorem Path.lt2 {R : Nat → Nat → Bool} {N a b : Nat} (hR : ∀ i j, R i j = true → i < N ∧ j < N) (h : Path R a b) : b < N := by
  induction h with
  | one h => exact (hR _ _ h).2
  | step _ _ ih => exact ih
theorem Path.congr {R Q : Nat → Nat → Bool} (h : ∀ i j, R i j = true → Q i j = true) {a b : Nat} (p : Path R a b) : Path Q a b := by
  induction p with
  | one e => exact .one (h _ _ e)
  | step e _ ih => exact .step (h _ _ e) ih
theorem Path.into {R Q : Nat → Nat → Bool} (h : ∀ i j, R i j = true → Path Q i j) {a b : Nat} (p : Path R a b) : Path Q a b := by
  induction p with
  | one e => exact h _ _ e
  | step e _ ih => exact (h _ _ e).trans ih
/-- the last edge of a path -/
theorem Path.last {R : Nat → Nat → Bool} {a b : Nat} (p : Path R a b) : ∃ c, R c b = true ∧ (a = c ∨ Path R a c) := by
  induction p with
  | one e => exact ⟨_, e, .inl rfl⟩
  | step e _ ih =>
    obtain ⟨c, hc, h⟩ := ih
    refine ⟨c, hc, .inr ?_⟩
    rcases h with rfl | h
    · exact .one e
    · exact .step e h

/-! ### pigeons -/
theorem nodup_le : ∀ (N : Nat) (l : List Nat), l.Nodup → (∀ x, x ∈ l → x < N) → l.length ≤ N
  | 0, l, _, h => by
    cases l with
    | nil => simp
    | cons a l => exact absurd (h a List.mem_cons_self) (by omega)
  | N + 1, l, hn, h => by
    by_cases hm : N ∈ l
    · have h1 := nodup_le N (l.erase N) (hn.erase N) (fun x hx => by
        have h2 := (hn.mem_erase_iff).1 hx
        have := h x h2.2
        have := h2.1
        omega)
      rw [List.length_erase_of_mem hm] at h1
      omega
    · have := nodup_le N l hn (fun x hx => by
        have h2 := h x hx
        have : x ≠ N := fun e => hm (e ▸ hx)
        omega)
      omega
theorem exists_out (N : Nat) (d : List Nat) (h : d.length < N) : ∃ x, x < N ∧ x ∉ d := by
  false_or_by_contra
  rename_i hc
  have hall : ∀ x, x < N → x ∈ d := fun x hx => by
    false_or_by_contra
    rename_i h2
    exact hc ⟨x, hx, h2⟩
  have : ∀ (M : Nat) (l : List Nat), (∀ x, x < M → x ∈ l) → M ≤ l.length := by
    intro M
    induction M with
    | zero => intro l _; omega
    | succ M ih =>
      intro l hl
      have hm := hl M (by omega)
      have h1 := ih (l.erase M) (fun x hx => (List.mem_erase_of_ne (by omega)).2 (hl x (by omega)))
      rw [List.length_erase_of_mem hm] at h1
      have := List.length_pos_of_mem hm
      omega
  have := this N d hall
  omega
theorem pigeon (N : Nat) (s : Nat → Nat) (h : ∀ i, s i < N) : ∃ i j, i < j ∧ s i = s j := by
  false_or_by_contra
  rename_i hc
  have hn : ((List.range (N + 1)).map s).Nodup := by
    rw [List.nodup_iff_pairwise_ne, List.pairwise_map]
    exact List.pairwise_lt_range.imp fun {a b} hab e => hc ⟨a, b, hab, e⟩
  have := nodup_le N _ hn (fun x hx => by
    obtain ⟨i, _, rfl⟩ := List.mem_map.1 hx
    exact h i)
  simp at this
  omega

/-! ### the order -/
def ready (R : Nat → Nat → Bool) (N : Nat) (d : List Nat) (x : Nat) : Bool := !(d.contains x) && (List.range N).all fun p => !(R p x) || d.contains p
theorem ready_iff {R : Nat → Nat → Bool} {N : Nat} {d : List Nat} {x : Nat} : ready R N d x = true ↔ x ∉ d ∧ ∀ p, p < N → R p x = true → p ∈ d := by
  unfold ready
  simp only [Bool.and_eq_true, Bool.not_eq_true', List.all_eq_true, List.mem_range, Bool.or_eq_true, List.contains_iff_mem]
  constructor
  · rintro ⟨h1, h2⟩
    refine ⟨fun h => (by rw [← List.contains_iff_mem] at h; rw [h] at h1; cases h1), fun p hp hr => ?_⟩
    rcases h2 p hp with h | h
    · rw [hr] at h; cases h
    · exact h
  · rintro ⟨h1, h2⟩
    refine ⟨by simpa using h1, fun p hp => ?_⟩
    cases hr : R p x with
    | false => exact .inl rfl
    | true => exact .inr (h2 p hp hr)
def pick (R : Nat → Nat → Bool) (N : Nat) (d : List Nat) : Option Nat := (List.range N).find? (ready R N d)
theorem find_range {p : Nat → Bool} {N x : Nat} (h : (List.range N).find? p = some x) : x < N ∧ p x = true ∧ ∀ y, y < x → p y = false := by
  obtain ⟨h1, as, bs, h2, h3⟩ := List.find?_eq_some_iff_append.1 h
  have hx : x = as.length := by
    have e := congrArg (fun l => l[as.length]?) h2
    simp only [List.getElem?_append_right (Nat.le_refl _), Nat.sub_self] at e
    by_cases hlt : as.length < N
    · simp [hlt] at e; omega
    · have := congrArg List.length h2
      simp at this
      omega
  have hlen := congrArg List.length h2
  simp at hlen
  refine ⟨by omega, h1, fun y hy => ?_⟩
  have hm : y ∈ as := by
    have e := congrArg (fun l => l[y]?) h2
    simp only [List.getElem?_append_left (show y < as.length by omega)] at e
    have hyN : y < N := by omega
    simp [hyN] at e
    have e2 := List.getElem?_eq_getElem (show y < as.length by omega)
    rw [e2] at e
    injection e with e
    rw [e]
    exact List.getElem_mem _
  simpa using h3 y hm
theorem find_range_none {p : Nat → Bool} {N : Nat} (h : (List.range N).find? p = none) : ∀ y, y < N → p y = false := fun y hy => by
  have := List.find?_eq_none.1 h y (List.mem_range.2 hy)
  simpa using this
/-- after k rounds -/
def topoN (R : Nat → Nat → Bool) (N : Nat) : Nat → List Nat
  | 0 => []
  | k + 1 => match pick R N (topoN R N k) with
    | none => topoN R N k
    | some x => topoN R N k ++ [x]
def topo (R : Nat → Nat → Bool) (N : Nat) : List Nat := topoN R N N
theorem topoN_some {R : Nat → Nat → Bool} {N k x : Nat} (h : pick R N (topoN R N k) = some x) : topoN R N (k + 1) = topoN R N k ++ [x] := by simp only [topoN, h]
theorem topoN_none {R : Nat → Nat → Bool} {N k : Nat} (h : pick R N (topoN R N k) = none) : topoN R N (k + 1) = topoN R N k := by simp only [topoN, h]
theorem topoN_stop {R : Nat → Nat → Bool} {N k : Nat} (h : pick R N (topoN R N k) = none) (j : Nat) : topoN R N (k + j) = topoN R N k := by
  induction j with
  | zero => rfl
  | succ j ih => rw [← Nat.add_assoc, topoN_none (by rw [ih]; exact h), ih]
/-- no node twice; all below N; before each node stand all from which an edge leads to it -/
structure Good (R : Nat → Nat → Bool) (N : Nat) (d : List Nat) : Prop where
  nodup : d.Nodup
  lt : ∀ x, x ∈ d → x < N
  pre : ∀ i x, d[i]? = some x → ∀ p, p < N → R p x = true → p ∈ d.take i
theorem Good.snoc {R : Nat → Nat → Bool} {N : Nat} {d : List Nat} (h : Good R N d) {x : Nat} (hx : x < N) (hr : ready R N d x = true) : Good R N (d ++ [x]) := by
  obtain ⟨h1, h2⟩ := ready_iff.1 hr
  refine ⟨?_, fun y hy => ?_, fun i y hy p hp hR => ?_⟩
  · rw [List.nodup_append]
    exact ⟨h.nodup, by simp, fun a ha b hb => by simp at hb; subst hb; exact fun e => h1 (e ▸ ha)⟩
  · rcases List.mem_append.1 hy with h3 | h3
    · exact h.lt y h3
    · simp at h3; omega
  · rcases Nat.lt_or_ge i d.length with hi | hi
    · rw [List.getElem?_append_left hi] at hy
      rw [List.take_append_of_le_length (by omega)]
      exact h.pre i y hy p hp hR
    · rw [List.getElem?_append_right hi] at hy
      have hi2 : i = d.length := by
        rcases Nat.eq_zero_or_pos (i - d.length) with h4 | h4
        · omega
        · rw [List.getElem?_eq_none (by simp; omega)] at hy; cases hy
      subst hi2
      simp at hy
      subst hy
      rw [List.take_append_of_le_length (Nat.le_refl _), List.take_length]
      exact h2 p hp hR
theorem good_topoN (R : Nat → Nat → Bool) (N k : Nat) : Good R N (topoN R N k) := by
  induction k with
  | zero => exact ⟨by simp [topoN], fun x hx => by simp [topoN] at hx, fun i x hx => by simp [topoN] at hx⟩
  | succ k ih =>
    cases h : pick R N (topoN R N k) with
    | none => rw [topoN_none h]; exact ih
    | some x =>
      rw [topoN_some h]
      obtain ⟨h1, h2, _⟩ := find_range h
      exact ih.snoc h1 h2
theorem Good.len {R : Nat → Nat → Bool} {N : Nat} {d : List Nat} (h : Good R N d) : d.length ≤ N := nodup_le N d h.nodup h.lt
theorem Good.mem_pre {R : Nat → Nat → Bool} {N : Nat} {d : List Nat} (h : Good R N d) {x p : Nat} (hx : x ∈ d) (hp : p < N) (hR : R p x = true) : p ∈ d := by
  obtain ⟨i, hi, e⟩ := List.getElem_of_mem hx
  exact List.mem_of_mem_take (h.pre i x (by rw [List.getElem?_eq_getElem hi, e]) p hp hR)
theorem topoN_len {R : Nat → Nat → Bool} {N : Nat} : ∀ k, (topoN R N k).length ≤ k
  | 0 => by simp [topoN]
  | k + 1 => by
    have := topoN_len (R := R) (N := N) k
    cases h : pick R N (topoN R N k) with
    | none => rw [topoN_none h]; omega
    | some x => rw [topoN_some h]; simp; omega
/-- as long as each round finds one -/
theorem topoN_eq {R : Nat → Nat → Bool} {N : Nat} : ∀ k, (∀ j, j < k → pick R N (topoN R N j) ≠ none) → (topoN R N k).length = k
  | 0, _ => by simp [topoN]
  | k + 1, h => by
    have ih := topoN_eq k (fun j hj => h j (by omega))
    cases hp : pick R N (topoN R N k) with
    | none => exact absurd hp (h k (by omega))
    | some x => rw [topoN_some hp]; simp; omega
/-- the order is reached at the round that finds none, and by round N at the latest -/
theorem topo_at {R : Nat → Nat → Bool} {N k : Nat} (hk : k ≤ N) (h : pick R N (topoN R N k) = none) : topo R N = topoN R N k := by
  unfold topo
  obtain ⟨j, rfl⟩ : ∃ j, N = k + j := ⟨N - k, by omega⟩
  exact topoN_stop h j
theorem pick_full {R : Nat → Nat → Bool} {N : Nat} {d : List Nat} (h : N ≤ d.length) (hg : Good R N d) : pick R N d = none := by
  cases hp : pick R N d with
  | none => rfl
  | some x =>
    obtain ⟨h1, h2, _⟩ := find_range hp
    have := (hg.snoc h1 h2).len
    simp at this
    omega
/-- where nothing goes round, each round finds one -/
theorem pick_some {R : Nat → Nat → Bool} {N : Nat} {d : List Nat} (hc : ∀ x, ¬ Path R x x) (hl : d.length < N) : pick R N d ≠ none := by
  intro hp
  have hno := find_range_none hp
  have hpre : ∀ x, x < N → x ∉ d → ∃ p, p < N ∧ p ∉ d ∧ R p x = true := fun x hx hxd => by
    false_or_by_contra
    rename_i h2
    have := hno x hx
    have hr : ready R N d x = true := ready_iff.2 ⟨hxd, fun p hpN hR => by
      false_or_by_contra
      rename_i h3
      exact h2 ⟨p, hpN, h3, hR⟩⟩
    rw [hr] at this
    cases this
  obtain ⟨x0, hx0, hd0⟩ := exists_out N d hl
  have hstep : ∀ x : { x : Nat // x < N ∧ x ∉ d }, ∃ y : { x : Nat // x < N ∧ x ∉ d }, R y.1 x.1 = true := fun x => by
    obtain ⟨p, h1, h2, h3⟩ := hpre x.1 x.2.1 x.2.2
    exact ⟨⟨p, h1, h2⟩, h3⟩
  let f : { x : Nat // x < N ∧ x ∉ d } → { x : Nat // x < N ∧ x ∉ d } := fun x => (hstep x).choose
  let s : Nat → { x : Nat // x < N ∧ x ∉ d } := fun i => Nat.rec ⟨x0, hx0, hd0⟩ (fun _ y => f y) i
  have hs : ∀ i, R (s (i + 1)).1 (s i).1 = true := fun i => (hstep (s i)).choose_spec
  have hpath : ∀ i j, Path R (s (i + 1 + j)).1 (s i).1 := by
    intro i j
    induction j with
    | zero => exact .one (hs i)
    | succ j ih => exact .step (hs (i + 1 + j)) ih
  obtain ⟨i, j, hij, e⟩ := pigeon N (fun i => (s i).1) (fun i => (s i).2.1)
  obtain ⟨m, rfl⟩ : ∃ m, j = i + 1 + m := ⟨j - (i + 1), by omega⟩
  have hp2 := hpath i m
  rw [← e] at hp2
  exact hc _ hp2
theorem topo_full {R : Nat → Nat → Bool} {N : Nat} (hc : ∀ x, ¬ Path R x x) : (topo R N).length = N := by
  unfold topo
  have : ∀ k, k ≤ N → (topoN R N k).length = k := by
    intro k
    induction k with
    | zero => intro _; simp [topoN]
    | succ k ih =>
      intro hk
      have h1 := ih (by omega)
      cases hp : pick R N (topoN R N k) with
      | none => exact absurd hp (pick_some hc (by omega))
      | some x => rw [topoN_some hp]; simp; omega
  exact this N (Nat.le_refl _)
/-- a path leads onward in the order -/
theorem Good.path {R : Nat → Nat → Bool} {N : Nat} {d : List Nat} (h : Good R N d) (hR : ∀ i j, R i j = true → i < N ∧ j < N) {a b : Nat} (p : Path R a b) : ∀ i, d[i]? = some b → a ∈ d.take i := by
  induction p with
  | one e => exact fun i hi => h.pre i _ hi _ (hR _ _ e).1 e
  | @step a b c e p ih =>
    intro i hi
    have hb := ih i hi
    obtain ⟨j, hj, ej⟩ := List.getElem_of_mem hb
    have hji : j < i := by simp at hj; omega
    have hdj : d[j]? = some b := by
      rw [List.getElem_take] at ej
      rw [List.getElem?_eq_getElem (by simp at hj; omega), ej]
    have ha := h.pre j b hdj a (hR _ _ e).1 e
    have hsub : d.take j = (d.take i).take j := by rw [List.take_take, Nat.min_eq_left (by omega)]
    rw [hsub] at ha
    exact List.mem_of_mem_take ha
theorem Good.acyclic {R : Nat → Nat → Bool} {N : Nat} {d : List Nat} (h : Good R N d) (hR : ∀ i j, R i j = true → i < N ∧ j < N) {x : Nat} (hx : x ∈ d) : ¬ Path R x x := by
  intro p
  have : ∀ i : Nat, d[i]? = some x → False := by
    intro i
    induction i using Nat.strongRecOn with
    | ind i ih =>
      intro hi
      have hm := h.path hR p i hi
      obtain ⟨j, hj, ej⟩ := List.getElem_of_mem hm
      rw [List.getElem_take] at ej
      exact ih j (by simp at hj; omega) (by rw [List.getElem?_eq_getElem (by simp at hj; omega), ej])
  obtain ⟨i, hi, e⟩ := List.getElem_of_mem hx
  exact this i (by rw [List.getElem?_eq_getElem hi, e])
theorem Good.all {R : Nat → Nat → Bool} {N : Nat} {d : List Nat} (h : Good R N d) (hl : N ≤ d.length) {x : Nat} (hx : x < N) : x ∈ d := by
  false_or_by_contra
  rename_i hn
  have h1 : (d ++ [x]).Nodup := by
    rw [List.nodup_append]
    exact ⟨h.nodup, by simp, fun a ha b hb => by simp at hb; subst hb; exact fun e => hn (e ▸ ha)⟩
  have := nodup_le N (d ++ [x]) h1 (fun y hy => by
    rcases List.mem_append.1 hy with h3 | h3
    · exact h.lt y h3
    · simp at h3; omega)
  simp at this
  omega
/-- THE ORDER IS WHOLE IF AND ONLY IF NOTHING GOES ROUND. -/
theorem topo_iff {R : Nat → Nat → Bool} {N : Nat} (hR : ∀ i j, R i j = true → i < N ∧ j < N) : (topo R N).length = N ↔ ∀ x, ¬ Path R x x := by
  constructor
  · intro h x p
    have hg := good_topoN R N N
    exact hg.acyclic hR (hg.all (by unfold topo at h; omega) (p.lt1 hR)) p
  · exact topo_full

/-! ### Floyd and Warshall -/
def fw (R : Nat → Nat → Bool) : Nat → Nat → Nat → Bool
  | 0, i, j => R i j
  | k + 1, i, j => fw R k i j || (fw R k i k && fw R k k j)
theorem fw_mono {R : Nat → Nat → Bool} {k i j : Nat} (h : fw R k i j = true) : fw R (k + 1) i j = true := by simp [fw, h]
theorem fw_col (R : Nat → Nat → Bool) (k i : Nat) : fw R (k + 1) i k = fw R k i k := by
  simp only [fw]; cases fw R k i k <;> simp
theorem fw_row (R : Nat → Nat → Bool) (k j : Nat) : fw R (k + 1) k j = fw R k k j := by
  simp only [fw]; cases fw R k k j <;> simp
theorem fw_sound {R : Nat → Nat → Bool} : ∀ k i j, fw R k i j = true → Path R i j
  | 0, _, _, h => .one h
  | k + 1, i, j, h => by
    simp only [fw, Bool.or_eq_true, Bool.and_eq_true] at h
    rcases h with h | ⟨h1, h2⟩
    · exact fw_sound k i j h
    · exact (fw_sound k i k h1).trans (fw_sound k k j h2)
theorem fw_trans {R : Nat → Nat → Bool} : ∀ k m i j, m < k → fw R k i m = true → fw R k m j = true → fw R k i j = true
  | 0, _, _, _, h, _, _ => by omega
  | k + 1, m, i, j, hm, h1, h2 => by
    have hthru : fw R k i k = true → fw R k k j = true → fw R (k + 1) i j = true := fun a b => by simp [fw, a, b]
    by_cases e : m = k
    · subst e
      rw [fw_col] at h1
      rw [fw_row] at h2
      exact hthru h1 h2
    · have hm' : m < k := by omega
      simp only [fw, Bool.or_eq_true, Bool.and_eq_true] at h1 h2
      rcases h1 with h1 | ⟨h1, h1'⟩ <;> rcases h2 with h2 | ⟨h2, h2'⟩
      · exact fw_mono (fw_trans k m i j hm' h1 h2)
      · exact hthru (fw_trans k m i k hm' h1 h2) h2'
      · exact hthru h1 (fw_trans k m k j hm' h1' h2)
      · exact hthru h1 h2'
theorem fw_base {R : Nat → Nat → Bool} (k : Nat) {i j : Nat} (h : R i j = true) : fw R k i j = true := by
  induction k with
  | zero => exact h
  | succ k ih => exact fw_mono ih
theorem fw_iff {R : Nat → Nat → Bool} {N : Nat} (hR : ∀ i j, R i j = true → i < N ∧ j < N) (i j : Nat) : fw R N i j = true ↔ Path R i j := by
  constructor
  · exact fw_sound N i j
  · intro p
    induction p with
    | one e => exact fw_base N e
    | step e _ ih => exact fw_trans N _ _ _ (hR _ _ e).2 (fw_base N e) ih
end Go.Proofs.YtaboafkpmgadmaaDoor
