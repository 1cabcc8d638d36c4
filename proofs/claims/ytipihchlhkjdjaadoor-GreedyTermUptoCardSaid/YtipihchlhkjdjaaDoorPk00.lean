/-
  Plain mathematics of directed graphs on the nodes below N: paths, the topological order that takes the smallest node, Floyd and Warshall's closure. No condition but that edges lie below N.
  OrderLevels, plain mathematics: raising the ends of edges until nothing stands too low gives the longest ways, whatever the order it is done in; the chain that goes back from the top.
  Greedy schedules: rounds in which the smallest that are ready are done, as many as there are workers. Plain mathematics.
  Words for memory that hold sets: a slice that reads as a list of 64-bit words or of ints. Plain definitions and lemmas; no condition.
-/
import Derived.Below
import Derived.WalkKit
import Derived.Deep.QuietTactic
namespace Go.Proofs.YtipihchlhkjdjaaDoor

/-- a path of at least one edge -/
inductive Path (R : Nat → Nat → Bool) : Nat → Nat → Prop
  | one {a b : Nat} : R a b = true → Path R a b
  | step {a b c : Nat} : R a b = true → Path R b c → Path R a c
theorem Path.trans {R : Nat → Nat → Bool} {a b c : Nat} (h : Path R a b) (k : Path R b c) : Path R a c := by
  induction h with
  | one h => exact .step h k
  | step h _ ih => exact .step h (ih k)
theorem Path.lt1 {R : Nat → Nat → Bool} {N a b : Nat} (hR : ∀ i j, R i j = true → i < N ∧ j < N) (h : Path R a b) : a < N := by
  cases h with
  | one h => exact (hR _ _ h).1
  | step h _ => exact (hR _ _ h).1
theorem Path.lt2 {R : Nat → Nat → Bool} {N a b : Nat} (hR : ∀ i j, R i j = true → i < N ∧ j < N) (h : Path R a b) : b < N := by
  induction h with
  | one h => exact (hR _ _ h).2
  | step _ _ ih => exact ih
theorem Path.congr {R Q : Nat → Nat → Bool} (h : ∀ i j, R i j = true → Q i j = true) {a b : Nat} (p : Path R a b) : Path Q a b := by
  induction p with
  | one e => exact .one (h _ _ e)
  | step e _ ih => exact .step (h _ _ e) ih
theorem Path.into {R Q : Nat → Nat → Bool} (h : ∀ i j, R i j = true → Path Q i j) {a b : Nat} (p : Path R a b) : Path Q a b := by
  induction p with
  | one e => exact h _ _ e
  | step e _ ih => exact (h _ _ e).trans ih
/-- the last edge of a path -/
theorem Path.last {R : Nat → Nat → Bool} {a b : Nat} (p : Path R a b) : ∃ c, R c b = true ∧ (a = c ∨ Path R a c) := by
  induction p with
  | one e => exact ⟨_, e, .inl rfl⟩
  | step e _ ih =>
    obtain ⟨c, hc, h⟩ := ih
    refine ⟨c, hc, .inr ?_⟩
    rcases h with rfl | h
    · exact .one e
    · exact .step e h

/-! ### pigeons -/
theorem nodup_le : ∀ (N : Nat) (l : List Nat), l.Nodup → (∀ x, x ∈ l → x < N) → l.length ≤ N
  | 0, l, _, h => by
    cases l with
    | nil => simp
    | cons a l => exact absurd (h a List.mem_cons_self) (by omega)
  | N + 1, l, hn, h => by
    by_cases hm : N ∈ l
    · have h1 := nodup_le N (l.erase N) (hn.erase N) (fun x hx => by
        have h2 := (hn.mem_erase_iff).1 hx
        have := h x h2.2
        have := h2.1
        omega)
      rw [List.length_erase_of_mem hm] at h1
      omega
    · have := nodup_le N l hn (fun x hx => by
        have h2 := h x hx
        have : x ≠ N := fun e => hm (e ▸ hx)
        omega)
      omega
theorem exists_out (N : Nat) (d : List Nat) (h : d.length < N) : ∃ x, x < N ∧ x ∉ d := by
  false_or_by_contra
  rename_i hc
  have hall : ∀ x, x < N → x ∈ d := fun x hx => by
    false_or_by_contra
    rename_i h2
    exact hc ⟨x, hx, h2⟩
  have : ∀ (M : Nat) (l : List Nat), (∀ x, x < M → x ∈ l) → M ≤ l.length := by
    intro M
    induction M with
    | zero => intro l _; omega
    | succ M ih =>
      intro l hl
      have hm := hl M (by omega)
      have h1 := ih (l.erase M) (fun x hx => (List.mem_erase_of_ne (by omega)).2 (hl x (by omega)))
      rw [List.length_erase_of_mem hm] at h1
      have := List.length_pos_of_mem hm
      omega
  have := this N d hall
  omega
theorem pigeon (N : Nat) (s : Nat → Nat) (h : ∀ i, s i < N) : ∃ i j, i < j ∧ s i = s j := by
  false_or_by_contra
  rename_i hc
  have hn : ((List.range (N + 1)).map s).Nodup := by
    rw [List.nodup_iff_pairwise_ne, List.pairwise_map]
    exact List.pairwise_lt_range.imp fun {a b} hab e => hc ⟨a, b, hab, e⟩
  have := nodup_le N _ hn (fun x hx => by
    obtain ⟨i, _, rfl⟩ := List.mem_map.1 hx
    exact h i)
  simp at this
  omega

/-! ### the order -/
def ready (R : Nat → Nat → Bool) (N : Nat) (d : List Nat) (x : Nat) : Bool := !(d.contains x) && (List.range N).all fun p => !(R p x) || d.contains p
theorem ready_iff {R : Nat → Nat → Bool} {N : Nat} {d : List Nat} {x : Nat} : ready R N d x = true ↔ x ∉ d ∧ ∀ p, p < N → R p x = true → p ∈ d := by
  unfold ready
  simp only [Bool.and_eq_true, Bool.not_eq_true', List.all_eq_true, List.mem_range, Bool.or_eq_true, List.contains_iff_mem]
  constructor
  · rintro ⟨h1, h2⟩
    refine ⟨fun h => (by rw [← List.contains_iff_mem] at h; rw [h] at h1; cases h1), fun p hp hr => ?_⟩
    rcases h2 p hp with h | h
    · rw [hr] at h; cases h
    · exact h
  · rintro ⟨h1, h2⟩
    refine ⟨by simpa using h1, fun p hp => ?_⟩
    cases hr : R p x with
    | false => exact .inl rfl
    | true => exact .inr (h2 p hp hr)
def pick (R : Nat → Nat → Bool) (N : Nat) (d : List Nat) : Option Nat := (List.range N).find? (ready R N d)
theorem find_range {p : Nat → Bool} {N x : Nat} (h : (List.range N).find? p = some x) : x < N ∧ p x = true ∧ ∀ y, y < x → p y = false := by
  obtain ⟨h1, as_, bs, h2, h3⟩ := List.find?_eq_some_iff_append.1 h
  have hx : x = as_.length := by
    have e := congrArg (fun l => l[as_.length]?) h2
    simp only [List.getElem?_append_right (Nat.le_refl _), Nat.sub_self] at e
    by_cases hlt : as_.length < N
    · simp [hlt] at e; omega
    · have := congrArg List.length h2
      simp at this
      omega
  have hlen := congrArg List.length h2
  simp at hlen
  refine ⟨by omega, h1, fun y hy => ?_⟩
  have hm : y ∈ as_ := by
    have e := congrArg (fun l => l[y]?) h2
    simp only [List.getElem?_append_left (show y < as_.length by omega)] at e
    have hyN : y < N := by omega
    simp [hyN] at e
    have e2 := List.getElem?_eq_getElem (show y < as_.length by omega)
    rw [e2] at e
    injection e with e
    rw [e]
    exact List.getElem_mem _
  simpa using h3 y hm
theorem find_range_none {p : Nat → Bool} {N : Nat} (h : (List.range N).find? p = none) : ∀ y, y < N → p y = false := fun y hy => by
  have := List.find?_eq_none.1 h y (List.mem_range.2 hy)
  simpa using this
/-- after k rounds -/
def topoN (R : Nat → Nat → Bool) (N : Nat) : Nat → List Nat
  | 0 => []
  | k + 1 => match pick R N (topoN R N k) with
    | none => topoN R N k
    | some x => topoN R N k ++ [x]
def topo (R : Nat → Nat → Bool) (N : Nat) : List Nat := topoN R N N
theorem topoN_some {R : Nat → Nat → Bool} {N k x : Nat} (h : pick R N (topoN R N k) = some x) : topoN R N (k + 1) = topoN R N k ++ [x] := by simp only [topoN, h]
theorem topoN_none {R : Nat → Nat → Bool} {N k : Nat} (h : pick R N (topoN R N k) = none) : topoN R N (k + 1) = topoN R N k := by simp only [topoN, h]
theorem topoN_stop {R : Nat → Nat → Bool} {N k : Nat} (h : pick R N (topoN R N k) = none) (j : Nat) : topoN R N (k + j) = topoN R N k := by
  induction j with
  | zero => rfl
  | succ j ih => rw [← Nat.add_assoc, topoN_none (by rw [ih]; exact h), ih]
/-- no node twice; all below N; before each node stand all from which an edge leads to it -/
structure Good (R : Nat → Nat → Bool) (N : Nat) (d : List Nat) : Prop where
  nodup : d.Nodup
  lt : ∀ x, x ∈ d → x < N
  pre : ∀ i x, d[i]? = some x → ∀ p, p < N → R p x = true → p ∈ d.take i
theorem Good.snoc {R : Nat → Nat → Bool} {N : Nat} {d : List Nat} (h : Good R N d) {x : Nat} (hx : x < N) (hr : ready R N d x = true) : Good R N (d ++ [x]) := by
  obtain ⟨h1, h2⟩ := ready_iff.1 hr
  refine ⟨?_, fun y hy => ?_, fun i y hy p hp hR => ?_⟩
  · rw [List.nodup_append]
    exact ⟨h.nodup, by simp, fun a ha b hb => by simp at hb; subst hb; exact fun e => h1 (e ▸ ha)⟩
  · rcases List.mem_append.1 hy with h3 | h3
    · exact h.lt y h3
    · simp at h3; omega
  · rcases Nat.lt_or_ge i d.length with hi | hi
    · rw [List.getElem?_append_left hi] at hy
      rw [List.take_append_of_le_length (by omega)]
      exact h.pre i y hy p hp hR
    · rw [List.getElem?_append_right hi] at hy
      have hi2 : i = d.length := by
        rcases Nat.eq_zero_or_pos (i - d.length) with h4 | h4
        · omega
        · rw [List.getElem?_eq_none (by simp; omega)] at hy; cases hy
      subst hi2
      simp at hy
      subst hy
      rw [List.take_append_of_le_length (Nat.le_refl _), List.take_length]
      exact h2 p hp hR
theorem good_topoN (R : Nat → Nat → Bool) (N k : Nat) : Good R N (topoN R N k) := by
  induction k with
  | zero => exact ⟨by simp [topoN], fun x hx => by simp [topoN] at hx, fun i x hx => by simp [topoN] at hx⟩
  | succ k ih =>
    cases h : pick R N (topoN R N k) with
    | none => rw [topoN_none h]; exact ih
    | some x =>
      rw [topoN_some h]
      obtain ⟨h1, h2, _⟩ := find_range h
      exact ih.snoc h1 h2
theorem Good.len {R : Nat → Nat → Bool} {N : Nat} {d : List Nat} (h : Good R N d) : d.length ≤ N := nodup_le N d h.nodup h.lt
theorem Good.mem_pre {R : Nat → Nat → Bool} {N : Nat} {d : List Nat} (h : Good R N d) {x p : Nat} (hx : x ∈ d) (hp : p < N) (hR : R p x = true) : p ∈ d := by
  obtain ⟨i, hi, e⟩ := List.getElem_of_mem hx
  exact List.mem_of_mem_take (h.pre i x (by rw [List.getElem?_eq_getElem hi, e]) p hp hR)
theorem topoN_len {R : Nat → Nat → Bool} {N : Nat} : ∀ k, (topoN R N k).length ≤ k
  | 0 => by simp [topoN]
  | k + 1 => by
    have := topoN_len (R := R) (N := N) k
    cases h : pick R N (topoN R N k) with
    | none => rw [topoN_none h]; omega
    | some x => rw [topoN_some h]; simp; omega
/-- as_ long as_ each round finds one -/
theorem topoN_eq {R : Nat → Nat → Bool} {N : Nat} : ∀ k, (∀ j, j < k → pick R N (topoN R N j) ≠ none) → (topoN R N k).length = k
  | 0, _ => by simp [topoN]
  | k + 1, h => by
    have ih := topoN_eq k (fun j hj => h j (by omega))
    cases hp : pick R N (topoN R N k) with
    | none => exact absurd hp (h k (by omega))
    | some x => rw [topoN_some hp]; simp; omega
/-- the order is reached at the round that finds none, and by round N at the latest -/
theorem topo_at {R : Nat → Nat → Bool} {N k : Nat} (hk : k ≤ N) (h : pick R N (topoN R N k) = none) : topo R N = topoN R N k := by
  unfold topo
  obtain ⟨j, rfl⟩ : ∃ j, N = k + j := ⟨N - k, by omega⟩
  exact topoN_stop h j
theorem pick_full {R : Nat → Nat → Bool} {N : Nat} {d : List Nat} (h : N ≤ d.length) (hg : Good R N d) : pick R N d = none := by
  cases hp : pick R N d with
  | none => rfl
  | some x =>
    obtain ⟨h1, h2, _⟩ := find_range hp
    have := (hg.snoc h1 h2).len
    simp at this
    omega
/-- where nothing goes round, each round finds one -/
theorem pick_some {R : Nat → Nat → Bool} {N : Nat} {d : List Nat} (hc : ∀ x, ¬ Path R x x) (hl : d.length < N) : pick R N d ≠ none := by
  intro hp
  have hno := find_range_none hp
  have hpre : ∀ x, x < N → x ∉ d → ∃ p, p < N ∧ p ∉ d ∧ R p x = true := fun x hx hxd => by
    false_or_by_contra
    rename_i h2
    have := hno x hx
    have hr : ready R N d x = true := ready_iff.2 ⟨hxd, fun p hpN hR => by
      false_or_by_contra
      rename_i h3
      exact h2 ⟨p, hpN, h3, hR⟩⟩
    rw [hr] at this
    cases this
  obtain ⟨x0, hx0, hd0⟩ := exists_out N d hl
  have hstep : ∀ x : { x : Nat // x < N ∧ x ∉ d }, ∃ y : { x : Nat // x < N ∧ x ∉ d }, R y.1 x.1 = true := fun x => by
    obtain ⟨p, h1, h2, h3⟩ := hpre x.1 x.2.1 x.2.2
    exact ⟨⟨p, h1, h2⟩, h3⟩
  let f : { x : Nat // x < N ∧ x ∉ d } → { x : Nat // x < N ∧ x ∉ d } := fun x => (hstep x).choose
  let s : Nat → { x : Nat // x < N ∧ x ∉ d } := fun i => Nat.rec ⟨x0, hx0, hd0⟩ (fun _ y => f y) i
  have hs : ∀ i, R (s (i + 1)).1 (s i).1 = true := fun i => (hstep (s i)).choose_spec
  have hpath : ∀ i j, Path R (s (i + 1 + j)).1 (s i).1 := by
    intro i j
    induction j with
    | zero => exact .one (hs i)
    | succ j ih => exact .step (hs (i + 1 + j)) ih
  obtain ⟨i, j, hij, e⟩ := pigeon N (fun i => (s i).1) (fun i => (s i).2.1)
  obtain ⟨m, rfl⟩ : ∃ m, j = i + 1 + m := ⟨j - (i + 1), by omega⟩
  have hp2 := hpath i m
  rw [← e] at hp2
  exact hc _ hp2
theorem topo_full {R : Nat → Nat → Bool} {N : Nat} (hc : ∀ x, ¬ Path R x x) : (topo R N).length = N := by
  unfold topo
  have : ∀ k, k ≤ N → (topoN R N k).length = k := by
    intro k
    induction k with
    | zero => intro _; simp [topoN]
    | succ k ih =>
      intro hk
      have h1 := ih (by omega)
      cases hp : pick R N (topoN R N k) with
      | none => exact absurd hp (pick_some hc (by omega))
      | some x => rw [topoN_some hp]; simp; omega
  exact this N (Nat.le_refl _)
/-- a path leads onward in the order -/
theorem Good.path {R : Nat → Nat → Bool} {N : Nat} {d : List Nat} (h : Good R N d) (hR : ∀ i j, R i j = true → i < N ∧ j < N) {a b : Nat} (p : Path R a b) : ∀ i, d[i]? = some b → a ∈ d.take i := by
  induction p with
  | one e => exact fun i hi => h.pre i _ hi _ (hR _ _ e).1 e
  | @step a b c e p ih =>
    intro i hi
    have hb := ih i hi
    obtain ⟨j, hj, ej⟩ := List.getElem_of_mem hb
    have hji : j < i := by simp at hj; omega
    have hdj : d[j]? = some b := by
      rw [List.getElem_take] at ej
      rw [List.getElem?_eq_getElem (by simp at hj; omega), ej]
    have ha := h.pre j b hdj a (hR _ _ e).1 e
    have hsub : d.take j = (d.take i).take j := by rw [List.take_take, Nat.min_eq_left (by omega)]
    rw [hsub] at ha
    exact List.mem_of_mem_take ha
theorem Good.acyclic {R : Nat → Nat → Bool} {N : Nat} {d : List Nat} (h : Good R N d) (hR : ∀ i j, R i j = true → i < N ∧ j < N) {x : Nat} (hx : x ∈ d) : ¬ Path R x x := by
  intro p
  have : ∀ i : Nat, d[i]? = some x → False := by
    intro i
    induction i using Nat.strongRecOn with
    | ind i ih =>
      intro hi
      have hm := h.path hR p i hi
      obtain ⟨j, hj, ej⟩ := List.getElem_of_mem hm
      rw [List.getElem_take] at ej
      exact ih j (by simp at hj; omega) (by rw [List.getElem?_eq_getElem (by simp at hj; omega), ej])
  obtain ⟨i, hi, e⟩ := List.getElem_of_mem hx
  exact this i (by rw [List.getElem?_eq_getElem hi, e])
theorem Good.all {R : Nat → Nat → Bool} {N : Nat} {d : List Nat} (h : Good R N d) (hl : N ≤ d.length) {x : Nat} (hx : x < N) : x ∈ d := by
  false_or_by_contra
  rename_i hn
  have h1 : (d ++ [x]).Nodup := by
    rw [List.nodup_append]
    exact ⟨h.nodup, by simp, fun a ha b hb => by simp at hb; subst hb; exact fun e => hn (e ▸ ha)⟩
  have := nodup_le N (d ++ [x]) h1 (fun y hy => by
    rcases List.mem_append.1 hy with h3 | h3
    · exact h.lt y h3
    · simp at h3; omega)
  simp at this
  omega
/-- THE ORDER IS WHOLE IF AND ONLY IF NOTHING GOES ROUND. -/
theorem topo_iff {R : Nat → Nat → Bool} {N : Nat} (hR : ∀ i j, R i j = true → i < N ∧ j < N) : (topo R N).length = N ↔ ∀ x, ¬ Path R x x := by
  constructor
  · intro h x p
    have hg := good_topoN R N N
    exact hg.acyclic hR (hg.all (by unfold topo at h; omega) (p.lt1 hR)) p
  · exact topo_full

/-! ### Floyd and Warshall -/
def fw (R : Nat → Nat → Bool) : Nat → Nat → Nat → Bool
  | 0, i, j => R i j
  | k + 1, i, j => fw R k i j || (fw R k i k && fw R k k j)
theorem fw_mono {R : Nat → Nat → Bool} {k i j : Nat} (h : fw R k i j = true) : fw R (k + 1) i j = true := by simp [fw, h]
theorem fw_col (R : Nat → Nat → Bool) (k i : Nat) : fw R (k + 1) i k = fw R k i k := by
  simp only [fw]; cases fw R k i k <;> simp
theorem fw_row (R : Nat → Nat → Bool) (k j : Nat) : fw R (k + 1) k j = fw R k k j := by
  simp only [fw]; cases fw R k k j <;> simp
theorem fw_sound {R : Nat → Nat → Bool} : ∀ k i j, fw R k i j = true → Path R i j
  | 0, _, _, h => .one h
  | k + 1, i, j, h => by
    simp only [fw, Bool.or_eq_true, Bool.and_eq_true] at h
    rcases h with h | ⟨h1, h2⟩
    · exact fw_sound k i j h
    · exact (fw_sound k i k h1).trans (fw_sound k k j h2)
theorem fw_trans {R : Nat → Nat → Bool} : ∀ k m i j, m < k → fw R k i m = true → fw R k m j = true → fw R k i j = true
  | 0, _, _, _, h, _, _ => by omega
  | k + 1, m, i, j, hm, h1, h2 => by
    have hthru : fw R k i k = true → fw R k k j = true → fw R (k + 1) i j = true := fun a b => by simp [fw, a, b]
    by_cases e : m = k
    · subst e
      rw [fw_col] at h1
      rw [fw_row] at h2
      exact hthru h1 h2
    · have hm' : m < k := by omega
      simp only [fw, Bool.or_eq_true, Bool.and_eq_true] at h1 h2
      rcases h1 with h1 | ⟨h1, h1'⟩ <;> rcases h2 with h2 | ⟨h2, h2'⟩
      · exact fw_mono (fw_trans k m i j hm' h1 h2)
      · exact hthru (fw_trans k m i k hm' h1 h2) h2'
      · exact hthru h1 (fw_trans k m k j hm' h1' h2)
      · exact hthru h1 h2'
theorem fw_base {R : Nat → Nat → Bool} (k : Nat) {i j : Nat} (h : R i j = true) : fw R k i j = true := by
  induction k with
  | zero => exact h
  | succ k ih => exact fw_mono ih
theorem fw_iff {R : Nat → Nat → Bool} {N : Nat} (hR : ∀ i j, R i j = true → i < N ∧ j < N) (i j : Nat) : fw R N i j = true ↔ Path R i j := by
  constructor
  · exact fw_sound N i j
  · intro p
    induction p with
    | one e => exact fw_base N e
    | step e _ ih => exact fw_trans N _ _ _ (hR _ _ e).2 (fw_base N e) ih
end Go.Proofs.YtipihchlhkjdjaaDoor

namespace Go.Proofs.YtipihchlhkjdjaaDoor

/-- a way of n edges that ends at b -/
inductive Wk (R : Nat → Nat → Bool) : Nat → Nat → Prop
  | zero (b : Nat) : Wk R 0 b
  | step {n a b : Nat} : R a b = true → Wk R n a → Wk R (n + 1) b
/-- in a whole order a way is no longer than what stands ahead -/
theorem Wk.lt {R : Nat → Nat → Bool} {N : Nat} {d : List Nat} (hg : Good R N d) (hR : ∀ i j, R i j = true → i < N ∧ j < N) {n b : Nat} (h : Wk R n b) : ∀ i, d[i]? = some b → n ≤ i := by
  induction h with
  | zero b => intro i _; exact Nat.zero_le _
  | @step n a b e _ ih =>
    intro i hi
    have hm := hg.pre i b hi a (hR _ _ e).1 e
    obtain ⟨j, hj, ej⟩ := List.getElem_of_mem hm
    rw [List.getElem_take] at ej
    have hjl : j < d.length := by simp at hj; omega
    have := ih j (by rw [List.getElem?_eq_getElem hjl, ej])
    simp at hj
    omega
theorem Wk.lt_N {R : Nat → Nat → Bool} {N : Nat} {d : List Nat} (hg : Good R N d) (hl : d.length = N) (hR : ∀ i j, R i j = true → i < N ∧ j < N) {n b : Nat} (h : Wk R n b) (hb : b < N) : n < N := by
  obtain ⟨i, hi, e⟩ := List.getElem_of_mem (hg.all (by omega) hb)
  have := h.lt hg hR i (by rw [List.getElem?_eq_getElem hi, e])
  omega

/-- the end of an edge stands above its start -/
def rlx (f : Nat → Nat) (e : Nat × Nat) : Nat → Nat := fun k => if k = e.2 then max (f e.2) (f e.1 + 1) else f k
def Snd (R : Nat → Nat → Bool) (f : Nat → Nat) : Prop := ∀ b, Wk R (f b) b
theorem Snd.zero (R : Nat → Nat → Bool) : Snd R (fun _ => 0) := fun b => .zero b
theorem Snd.rlx {R : Nat → Nat → Bool} {f : Nat → Nat} (h : Snd R f) {e : Nat × Nat} (he : R e.1 e.2 = true) : Snd R (rlx f e) := by
  intro b
  unfold Proofs.YtipihchlhkjdjaaDoor.rlx
  by_cases hb : b = e.2
  · subst hb
    rw [if_pos rfl]
    rcases Nat.le_total (f e.2) (f e.1 + 1) with h1 | h1
    · rw [Nat.max_eq_right h1]; exact .step he (h _)
    · rw [Nat.max_eq_left h1]; exact h _
  · rw [if_neg hb]; exact h b
theorem rlx_le (f : Nat → Nat) (e : Nat × Nat) (k : Nat) : f k ≤ rlx f e k := by
  unfold rlx; split
  · rename_i h; subst h; omega
  · omega
theorem rlx_at (f : Nat → Nat) (e : Nat × Nat) : f e.1 + 1 ≤ rlx f e e.2 := by
  unfold rlx; rw [if_pos rfl]; omega
def rnd (E : List (Nat × Nat)) (f : Nat → Nat) : Nat → Nat := E.foldl rlx f
theorem rnd_snoc (E : List (Nat × Nat)) (e : Nat × Nat) (f : Nat → Nat) : rnd (E ++ [e]) f = rlx (rnd E f) e := by unfold rnd; rw [List.foldl_append]; rfl
theorem rnd_app (E E2 : List (Nat × Nat)) (f : Nat → Nat) : rnd (E ++ E2) f = rnd E2 (rnd E f) := by unfold rnd; rw [List.foldl_append]
theorem rnd_le (E : List (Nat × Nat)) (f : Nat → Nat) (k : Nat) : f k ≤ rnd E f k := by
  induction E generalizing f with
  | nil => exact Nat.le_refl _
  | cons e E ih => exact Nat.le_trans (rlx_le f e k) (ih (rlx f e))
theorem Snd.rnd {R : Nat → Nat → Bool} {f : Nat → Nat} (h : Snd R f) {E : List (Nat × Nat)} (hE : ∀ e, e ∈ E → R e.1 e.2 = true) : Snd R (rnd E f) := by
  induction E generalizing f with
  | nil => exact h
  | cons e E ih => exact ih (h.rlx (hE e (List.mem_cons_self ..))) fun x hx => hE x (List.mem_cons_of_mem _ hx)
/-- what an edge's start had before, its end stands above afterwards -/
theorem rnd_at {E : List (Nat × Nat)} {e : Nat × Nat} (he : e ∈ E) (f : Nat → Nat) : f e.1 + 1 ≤ rnd E f e.2 := by
  obtain ⟨E1, E2, rfl⟩ := List.append_of_mem he
  rw [rnd_app]
  have h1 := rnd_le E1 f e.1
  have h2 := rlx_at (rnd E1 f) e
  have h3 := rnd_le E2 (rlx (rnd E1 f) e) e.2
  show f e.1 + 1 ≤ rnd E2 (rlx (rnd E1 f) e) e.2
  omega
/-- the longest ways -/
structure Lev (R : Nat → Nat → Bool) (f : Nat → Nat) : Prop where
  way : Snd R f
  top : ∀ n b, Wk R n b → n ≤ f b
theorem Lev.uniq {R : Nat → Nat → Bool} {f g : Nat → Nat} (h : Lev R f) (k : Lev R g) : f = g := by
  funext b
  have h1 := k.top _ _ (h.way b)
  have h2 := h.top _ _ (k.way b)
  omega

/-! ### round by round over all edges -/
def rnds (E : List (Nat × Nat)) : Nat → Nat → Nat
  | 0 => fun _ => 0
  | k + 1 => rnd E (rnds E k)
theorem rnds_snd {R : Nat → Nat → Bool} {E : List (Nat × Nat)} (hE : ∀ e, e ∈ E → R e.1 e.2 = true) : ∀ k, Snd R (rnds E k)
  | 0 => Snd.zero R
  | k + 1 => (rnds_snd hE k).rnd hE
theorem rnds_up {R : Nat → Nat → Bool} {E : List (Nat × Nat)} (hE : ∀ a b, R a b = true → (a, b) ∈ E) : ∀ k n b, n ≤ k → Wk R n b → n ≤ rnds E k b
  | 0, n, b, hn, _ => by omega
  | k + 1, n, b, hn, h => by
    cases h with
    | zero => exact Nat.zero_le _
    | @step n a _ e h =>
      have h1 := rnds_up hE k n a (by omega) h
      have h2 := rnd_at (hE _ _ e) (rnds E k)
      show n + 1 ≤ rnd E (rnds E k) b
      dsimp only at h2
      omega
theorem rnds_lev {R : Nat → Nat → Bool} {N : Nat} {d : List Nat} {E : List (Nat × Nat)} (hg : Good R N d) (hl : d.length = N) (hR : ∀ i j, R i j = true → i < N ∧ j < N) (hE : ∀ a b, R a b = true ↔ (a, b) ∈ E) : Lev R (rnds E N) := by
  refine ⟨rnds_snd (fun e he => (hE _ _).2 he) N, fun n b h => ?_⟩
  rcases Nat.lt_or_ge b N with hb | hb
  · exact rnds_up (fun a b => (hE a b).1) N n b (Nat.le_of_lt (h.lt_N hg hl hR hb)) h
  · cases h with
    | zero => exact Nat.zero_le _
    | step e _ => exact absurd (hR _ _ e).2 (by omega)

/-! ### in the order's turn -/
def outs (nx : Nat → List Nat) (a : Nat) : List (Nat × Nat) := (nx a).map fun b => (a, b)
def trn (nx : Nat → List Nat) (d : List Nat) : Nat → Nat := d.foldl (fun f a => rnd (outs nx a) f) (fun _ => 0)
theorem trn_snoc (nx : Nat → List Nat) (d : List Nat) (a : Nat) : trn nx (d ++ [a]) = rnd (outs nx a) (trn nx d) := by unfold trn; rw [List.foldl_append]; rfl
theorem mem_outs {nx : Nat → List Nat} {a : Nat} {e : Nat × Nat} : e ∈ outs nx a ↔ e.1 = a ∧ e.2 ∈ nx a := by
  unfold outs
  rw [List.mem_map]
  constructor
  · rintro ⟨b, hb, rfl⟩; exact ⟨rfl, hb⟩
  · rintro ⟨h1, h2⟩; exact ⟨e.2, h2, by rw [← h1]⟩
theorem trn_snd {R : Nat → Nat → Bool} {nx : Nat → List Nat} (hnx : ∀ a b, R a b = true ↔ b ∈ nx a) (d : List Nat) (k : Nat) : Snd R (trn nx (d.take k)) := by
  induction k with
  | zero => exact Snd.zero R
  | succ k ih =>
    rcases Nat.lt_or_ge k d.length with hk | hk
    · rw [List.take_succ_eq_append_getElem hk, trn_snoc]
      exact ih.rnd fun e he => by
        obtain ⟨h1, h2⟩ := mem_outs.1 he
        exact (hnx _ _).2 (by rw [h1]; exact h2)
    · rw [List.take_of_length_le (by omega)]
      rw [List.take_of_length_le hk] at ih
      exact ih
theorem trn_up {R : Nat → Nat → Bool} {N : Nat} {d : List Nat} {nx : Nat → List Nat} (hg : Good R N d) (hR : ∀ i j, R i j = true → i < N ∧ j < N) (hnx : ∀ a b, R a b = true ↔ b ∈ nx a) :
    ∀ k, k ≤ d.length → ∀ a, a ∈ d.take k → ∀ b, R a b = true → ∀ n, Wk R n a → n + 1 ≤ trn nx (d.take k) b := by
  intro k
  induction k with
  | zero => intro _ a ha; simp at ha
  | succ k ih =>
    intro hk a ha b e n hw
    have hk' : k < d.length := by omega
    rw [List.take_succ_eq_append_getElem hk'] at ha ⊢
    rw [trn_snoc]
    rcases List.mem_append.1 ha with h1 | h1
    · exact Nat.le_trans (ih (by omega) a h1 b e n hw) (rnd_le _ _ _)
    · obtain rfl : a = d[k] := by simpa using h1
      have h2 : n ≤ trn nx (d.take k) d[k] := by
        cases hw with
        | zero => exact Nat.zero_le _
        | @step n a' _ e' hw' => exact ih (by omega) a' (hg.pre k _ (List.getElem?_eq_getElem hk') _ (hR _ _ e').1 e') _ e' n hw'
      have h3 := rnd_at (E := outs nx d[k]) (e := (d[k], b)) (mem_outs.2 ⟨rfl, (hnx _ _).1 e⟩) (trn nx (d.take k))
      dsimp only at h3
      omega
theorem trn_lev {R : Nat → Nat → Bool} {N : Nat} {d : List Nat} {nx : Nat → List Nat} (hg : Good R N d) (hl : d.length = N) (hR : ∀ i j, R i j = true → i < N ∧ j < N) (hnx : ∀ a b, R a b = true ↔ b ∈ nx a) : Lev R (trn nx d) := by
  have h0 := trn_snd hnx d d.length
  rw [List.take_length] at h0
  refine ⟨h0, fun n b h => ?_⟩
  cases h with
  | zero => exact Nat.zero_le _
  | @step n a _ e h =>
    have := trn_up hg hR hnx d.length (Nat.le_refl _) a (by rw [List.take_length]; exact hg.all (by omega) (hR _ _ e).1) b e n h
    rwa [List.take_length] at this
theorem Snd.lt {R : Nat → Nat → Bool} {N : Nat} {d : List Nat} {f : Nat → Nat} (h : Snd R f) (hg : Good R N d) (hl : d.length = N) (hR : ∀ i j, R i j = true → i < N ∧ j < N) {b : Nat} (hb : b < N) : f b < N := (h b).lt_N hg hl hR hb

/-! ### the height -/
def hgt (f : Nat → Nat) : Nat → Nat
  | 0 => 0
  | k + 1 => max (hgt f k) (f k + 1)
theorem hgt_ge (f : Nat → Nat) {N b : Nat} (hb : b < N) : f b < hgt f N := by
  induction N with
  | zero => omega
  | succ N ih =>
    show f b < max (hgt f N) (f N + 1)
    rcases Nat.lt_or_ge b N with h | h
    · have := ih h; omega
    · obtain rfl : b = N := by omega
      omega
theorem hgt_mem (f : Nat → Nat) : ∀ N, 0 < hgt f N → ∃ b, b < N ∧ f b + 1 = hgt f N
  | 0, h => absurd h (by simp [hgt])
  | N + 1, _ => by
    show ∃ b, b < N + 1 ∧ f b + 1 = max (hgt f N) (f N + 1)
    rcases Nat.lt_or_ge (f N + 1) (hgt f N) with h | h
    · obtain ⟨b, h1, h2⟩ := hgt_mem f N (by omega)
      exact ⟨b, by omega, by omega⟩
    · exact ⟨N, by omega, by omega⟩
theorem hgt_le (f : Nat → Nat) {N M : Nat} (h : ∀ b, b < N → f b < M) : hgt f N ≤ M := by
  induction N with
  | zero => exact Nat.zero_le _
  | succ N ih =>
    show max (hgt f N) (f N + 1) ≤ M
    have h1 := ih fun b hb => h b (by omega)
    have h2 := h N (by omega)
    omega
theorem hgt_pos (f : Nat → Nat) {N : Nat} (h : 0 < N) : 0 < hgt f N := Nat.lt_of_le_of_lt (Nat.zero_le _) (hgt_ge f (b := 0) h)

/-! ### the chain, from its end on -/
/-- who may stand ahead of b: one level lower, with an edge to it -/
def fit (R : Nat → Nat → Bool) (f : Nat → Nat) (b a : Nat) : Bool := decide (f a + 1 = f b) && R a b
def prv (R : Nat → Nat → Bool) (f : Nat → Nat) (N b : Nat) : Option Nat := (List.range N).find? (fit R f b)
theorem prv_some {R : Nat → Nat → Bool} {f : Nat → Nat} {N b : Nat} (h : Lev R f) (hR : ∀ i j, R i j = true → i < N ∧ j < N) (hb : 0 < f b) : ∃ a, prv R f N b = some a ∧ a < N ∧ f a + 1 = f b ∧ R a b = true ∧ ∀ y, y < a → fit R f b y = false := by
  cases hp : prv R f N b with
  | some a =>
    obtain ⟨h1, h2, h3⟩ := find_range hp
    unfold fit at h2
    simp only [Bool.and_eq_true, decide_eq_true_eq] at h2
    exact ⟨a, rfl, h1, h2.1, h2.2, h3⟩
  | none =>
    exfalso
    have hno := find_range_none hp
    obtain ⟨n, hn⟩ : ∃ n, f b = n + 1 := ⟨f b - 1, by omega⟩
    have hw := h.way b
    rw [hn] at hw
    cases hw with
    | @step _ a _ e hw =>
      have h1 := h.top _ _ hw
      have h2 := h.top _ _ (.step e (h.way a))
      have := hno a (hR _ _ e).1
      unfold fit at this
      rw [e] at this
      simp at this
      omega
/-- the first of the top -/
def fst0 (f : Nat → Nat) (N : Nat) : Option Nat := (List.range N).find? fun a => decide (f a + 1 = hgt f N)
theorem fst0_some {f : Nat → Nat} {N : Nat} (hN : 0 < N) : ∃ a, fst0 f N = some a ∧ a < N ∧ f a + 1 = hgt f N ∧ ∀ y, y < a → f y + 1 ≠ hgt f N := by
  cases hp : fst0 f N with
  | some a =>
    obtain ⟨h1, h2, h3⟩ := find_range hp
    exact ⟨a, rfl, h1, by simpa using h2, fun y hy => by simpa using h3 y hy⟩
  | none =>
    exfalso
    have hno := find_range_none hp
    obtain ⟨b, h1, h2⟩ := hgt_mem f N (hgt_pos f hN)
    have := hno b h1
    simp at this
    omega
/-- the j-th from the end -/
def chn (R : Nat → Nat → Bool) (f : Nat → Nat) (N : Nat) : Nat → Nat
  | 0 => (fst0 f N).getD 0
  | j + 1 => (prv R f N (chn R f N j)).getD 0
theorem chn_at {R : Nat → Nat → Bool} {f : Nat → Nat} {N : Nat} (h : Lev R f) (hR : ∀ i j, R i j = true → i < N ∧ j < N) : ∀ j, j < hgt f N → chn R f N j < N ∧ f (chn R f N j) + j + 1 = hgt f N
  | 0, hj => by
    have hN : 0 < N := by
      rcases Nat.eq_zero_or_pos N with h0 | h0
      · subst h0; simp [hgt] at hj
      · exact h0
    obtain ⟨a, h1, h2, h3, _⟩ := fst0_some (f := f) hN
    unfold chn
    rw [h1]
    exact ⟨h2, by simpa using h3⟩
  | j + 1, hj => by
    obtain ⟨h1, h2⟩ := chn_at h hR j (by omega)
    obtain ⟨a, h3, h4, h5, _⟩ := prv_some h hR (b := chn R f N j) (by omega)
    unfold chn
    rw [h3]
    simp only [Option.getD_some]
    exact ⟨h4, by omega⟩
/-- the chain in its order -/
def chain (R : Nat → Nat → Bool) (f : Nat → Nat) (N : Nat) : List Nat := (List.range (hgt f N)).map fun i => chn R f N (hgt f N - 1 - i)
/-- its last j -/
def tailC (R : Nat → Nat → Bool) (f : Nat → Nat) (N j : Nat) : List Nat := (List.range j).map fun i => chn R f N (j - 1 - i)
theorem tailC_cons (R : Nat → Nat → Bool) (f : Nat → Nat) (N j : Nat) : tailC R f N (j + 1) = chn R f N j :: tailC R f N j := by
  unfold tailC
  rw [List.range_succ_eq_map, List.map_cons, List.map_map]
  congr 1
  apply List.map_congr_left
  intro i _
  show chn R f N (j + 1 - 1 - (i + 1)) = _
  congr 1
  omega
theorem tailC_all (R : Nat → Nat → Bool) (f : Nat → Nat) (N : Nat) : tailC R f N (hgt f N) = chain R f N := rfl
end Go.Proofs.YtipihchlhkjdjaaDoor

namespace Go.Proofs.YtipihchlhkjdjaaDoor

/-- who is ready -/
def rdyL (R : Nat → Nat → Bool) (N : Nat) (d : List Nat) : List Nat := (List.range N).filter (ready R N d)
/-- who is done in the next round -/
def rnow (R : Nat → Nat → Bool) (N w : Nat) (d : List Nat) : List Nat := (rdyL R N d).take w
/-- who is done after k rounds -/
def gdn (R : Nat → Nat → Bool) (N w : Nat) : Nat → List Nat
  | 0 => []
  | k + 1 => gdn R N w k ++ rnow R N w (gdn R N w k)
theorem mem_rdyL {R : Nat → Nat → Bool} {N : Nat} {d : List Nat} {x : Nat} : x ∈ rdyL R N d ↔ x < N ∧ ready R N d x = true := by
  unfold rdyL
  rw [List.mem_filter, List.mem_range]
theorem rnow_sub {R : Nat → Nat → Bool} {N w : Nat} {d : List Nat} {x : Nat} (h : x ∈ rnow R N w d) : x < N ∧ ready R N d x = true := mem_rdyL.1 (List.mem_of_mem_take h)
theorem rdyL_nodup (R : Nat → Nat → Bool) (N : Nat) (d : List Nat) : (rdyL R N d).Nodup := List.Nodup.sublist List.filter_sublist List.nodup_range
theorem rnow_nodup (R : Nat → Nat → Bool) (N w : Nat) (d : List Nat) : (rnow R N w d).Nodup := List.Nodup.sublist (List.take_sublist _ _) (rdyL_nodup R N d)
theorem rnow_len (R : Nat → Nat → Bool) (N w : Nat) (d : List Nat) : (rnow R N w d).length ≤ w := by unfold rnow; rw [List.length_take]; omega

theorem Good.batch {R : Nat → Nat → Bool} {N : Nat} {d b : List Nat} (h : Good R N d) (hb : ∀ x, x ∈ b → x < N ∧ ready R N d x = true) (hn : b.Nodup) : Good R N (d ++ b) := by
  refine ⟨?_, fun x hx => ?_, fun i x hi p hp hR => ?_⟩
  · rw [List.nodup_append]
    exact ⟨h.nodup, hn, fun a ha y hy e => (ready_iff.1 (hb y hy).2).1 (e ▸ ha)⟩
  · rcases List.mem_append.1 hx with h1 | h1
    · exact h.lt x h1
    · exact (hb x h1).1
  · by_cases hlt : i < d.length
    · rw [List.getElem?_append_left hlt] at hi
      have := h.pre i x hi p hp hR
      rw [List.take_append_of_le_length (by omega)]
      exact this
    · rw [List.getElem?_append_right (by omega)] at hi
      have hx : x ∈ b := List.mem_of_getElem? hi
      have hpd := (ready_iff.1 (hb x hx).2).2 p hp hR
      rw [List.take_append, List.take_of_length_le (by omega)]
      exact List.mem_append_left _ hpd
theorem gdn_good (R : Nat → Nat → Bool) (N w : Nat) : ∀ k, Good R N (gdn R N w k)
  | 0 => good_topoN R N 0
  | k + 1 => (gdn_good R N w k).batch (fun _ hx => rnow_sub hx) (rnow_nodup R N w _)
theorem gdn_up {R : Nat → Nat → Bool} {N w k x : Nat} (h : x ∈ gdn R N w k) : x ∈ gdn R N w (k + 1) := List.mem_append_left _ h
theorem gdn_len_succ (R : Nat → Nat → Bool) (N w k : Nat) : (gdn R N w (k + 1)).length = (gdn R N w k).length + (rnow R N w (gdn R N w k)).length := by simp only [gdn, List.length_append]

/-- somebody is ready as long as not all is done -/
theorem rnow_pos {R : Nat → Nat → Bool} {N w : Nat} (hw : 1 ≤ w) (hc : ∀ x, ¬ Path R x x) {d : List Nat} (hl : d.length < N) : 1 ≤ (rnow R N w d).length := by
  have h := pick_some hc hl
  cases hp : pick R N d with
  | none => exact absurd hp h
  | some x =>
    obtain ⟨h1, h2, _⟩ := find_range hp
    have hm : x ∈ rdyL R N d := mem_rdyL.2 ⟨h1, h2⟩
    have : 0 < (rdyL R N d).length := List.length_pos_of_mem hm
    unfold rnow
    rw [List.length_take]
    omega
theorem gdn_len {R : Nat → Nat → Bool} {N w : Nat} (hw : 1 ≤ w) (hc : ∀ x, ¬ Path R x x) : ∀ k, k ≤ N → k ≤ (gdn R N w k).length
  | 0, _ => Nat.zero_le _
  | k + 1, hk => by
    have ih := gdn_len (R := R) (N := N) hw hc k (by omega)
    rw [gdn_len_succ]
    by_cases h : (gdn R N w k).length < N
    · have := rnow_pos hw hc (R := R) h
      omega
    · omega
/-- how many rounds -/
def grn (R : Nat → Nat → Bool) (N w : Nat) : Nat := ((List.range (N + 1)).find? fun k => decide (N ≤ (gdn R N w k).length)).getD 0
theorem grn_spec {R : Nat → Nat → Bool} {N w : Nat} (hw : 1 ≤ w) (hc : ∀ x, ¬ Path R x x) : (gdn R N w (grn R N w)).length = N ∧ (∀ j, j < grn R N w → (gdn R N w j).length < N) ∧ grn R N w ≤ N := by
  unfold grn
  cases hf : (List.range (N + 1)).find? fun k => decide (N ≤ (gdn R N w k).length) with
  | none =>
    have := find_range_none hf N (by omega)
    have h2 := gdn_len hw hc (R := R) N (Nat.le_refl _)
    simp only [decide_eq_false_iff_not] at this
    omega
  | some r =>
    obtain ⟨h1, h2, h3⟩ := find_range hf
    have h4 := (gdn_good R N w r).len
    simp only [decide_eq_true_eq, decide_eq_false_iff_not] at h2 h3
    exact ⟨by simp only [Option.getD_some]; omega, fun j hj => by have := h3 j (by simpa using hj); omega, by simp only [Option.getD_some]; omega⟩
theorem grn_uniq {R : Nat → Nat → Bool} {N w r : Nat} (hw : 1 ≤ w) (hc : ∀ x, ¬ Path R x x) (h1 : N ≤ (gdn R N w r).length) (h2 : ∀ j, j < r → (gdn R N w j).length < N) : r = grn R N w := by
  obtain ⟨k1, k2, _⟩ := grn_spec hw hc (R := R) (N := N)
  rcases Nat.lt_trichotomy r (grn R N w) with h | h | h
  · have := k2 r h; omega
  · exact h
  · have := h2 _ h; omega
/-- one worker does them as they are sorted -/
theorem gdn_one (R : Nat → Nat → Bool) (N : Nat) : ∀ k, gdn R N 1 k = topoN R N k
  | 0 => rfl
  | k + 1 => by
    simp only [gdn, topoN]
    rw [gdn_one R N k]
    have h : rnow R N 1 (topoN R N k) = (pick R N (topoN R N k)).toList := by
      unfold rnow rdyL pick
      rw [← List.head?_filter]
      cases (List.range N).filter (ready R N (topoN R N k)) <;> rfl
    rw [h]
    cases pick R N (topoN R N k) with
    | none => simp
    | some x => rfl

/-! ### what is left -/
/-- the edges among those that are not done -/
def left (R : Nat → Nat → Bool) (d : List Nat) (a b : Nat) : Bool := R a b && (!d.contains a && !d.contains b)
theorem left_iff {R : Nat → Nat → Bool} {d : List Nat} {a b : Nat} : left R d a b = true ↔ R a b = true ∧ a ∉ d ∧ b ∉ d := by
  unfold left
  simp only [Bool.and_eq_true, Bool.not_eq_true', ← Bool.not_eq_true, List.contains_iff_mem]
theorem Wk.congr {R Q : Nat → Nat → Bool} (h : ∀ i j, R i j = true → Q i j = true) {n b : Nat} (p : Wk R n b) : Wk Q n b := by
  induction p with
  | zero b => exact .zero b
  | step e _ ih => exact .step (h _ _ e) ih
theorem hgt_mono {R Q : Nat → Nat → Bool} {f g : Nat → Nat} {N : Nat} (hR : Lev R f) (hQ : Lev Q g) (h : ∀ i j, R i j = true → Q i j = true) : hgt f N ≤ hgt g N :=
  hgt_le f fun b hb => Nat.lt_of_le_of_lt (hQ.top _ _ ((hR.way b).congr h)) (hgt_ge g hb)
/-- where all who are ready are done, each way that is left was longer by one -/
theorem wk_left {R : Nat → Nat → Bool} {N : Nat} {d d' : List Nat} (hR : ∀ i j, R i j = true → i < N ∧ j < N) (hd : ∀ x, x ∈ d' ↔ x ∈ d ∨ x ∈ rdyL R N d) {n b : Nat} (h : Wk (left R d') n b) : b ∉ d' → b < N → Wk (left R d) (n + 1) b := by
  induction h with
  | zero b =>
    intro hb hN
    have h1 : b ∉ d := fun e => hb ((hd b).2 (.inl e))
    have h2 : ¬ (ready R N d b = true) := fun e => hb ((hd b).2 (.inr (mem_rdyL.2 ⟨hN, e⟩)))
    false_or_by_contra
    rename_i hc
    refine h2 (ready_iff.2 ⟨h1, fun p _ hp => ?_⟩)
    false_or_by_contra
    rename_i hpd
    exact hc (.step (left_iff.2 ⟨hp, hpd, h1⟩) (.zero p))
  | step e _ ih =>
    intro hb hN
    obtain ⟨h1, h2, h3⟩ := left_iff.1 e
    have h4 := ih h2 (hR _ _ h1).1
    exact .step (left_iff.2 ⟨h1, fun e => h2 ((hd _).2 (.inl e)), fun e => h3 ((hd _).2 (.inl e))⟩) h4
theorem hgt_left {R : Nat → Nat → Bool} {N : Nat} {d d' : List Nat} {f f' : Nat → Nat} (hR : ∀ i j, R i j = true → i < N ∧ j < N) (hd : ∀ x, x ∈ d' ↔ x ∈ d ∨ x ∈ rdyL R N d) (hL : Lev (left R d) f) (hL' : Lev (left R d') f') {n : Nat} (hn : n < N) (hn' : n ∉ d') : hgt f' N < hgt f N := by
  have key : ∀ b, b < N → b ∉ d' → f' b + 1 < hgt f N := fun b hb hb' => by
    have h1 := hL.top _ _ (wk_left hR hd (hL'.way b) hb' hb)
    have h2 := hgt_ge f hb
    omega
  obtain ⟨b, hb, e⟩ := hgt_mem f' N (hgt_pos f' (by omega))
  by_cases hbd : b ∈ d'
  · have hz : f' b = 0 := by
      have hw := hL'.way b
      cases hq : f' b with
      | zero => rfl
      | succ k =>
        rw [hq] at hw
        cases hw with
        | step e _ => exact absurd hbd (left_iff.1 e).2.2
    have := key n hn hn'
    omega
  · have := key b hb hbd
    omega

/-! ### the level of each node, for any order -/
def edsOf (R : Nat → Nat → Bool) (N : Nat) : List (Nat × Nat) := (List.range N).flatMap fun a => ((List.range N).filter (R a)).map fun b => (a, b)
theorem mem_edsOf {R : Nat → Nat → Bool} {N : Nat} (hR : ∀ i j, R i j = true → i < N ∧ j < N) (a b : Nat) : R a b = true ↔ (a, b) ∈ edsOf R N := by
  unfold edsOf
  simp only [List.mem_flatMap, List.mem_range, List.mem_map, List.mem_filter, Prod.mk.injEq]
  constructor
  · exact fun h => ⟨a, (hR a b h).1, b, ⟨(hR a b h).2, h⟩, rfl, rfl⟩
  · rintro ⟨x, _, y, ⟨_, h⟩, rfl, rfl⟩
    exact h
theorem Good.mono {R Q : Nat → Nat → Bool} {N : Nat} {d : List Nat} (h : Good R N d) (hs : ∀ i j, Q i j = true → R i j = true) : Good Q N d := ⟨h.nodup, h.lt, fun i x hi p hp hq => h.pre i x hi p hp (hs _ _ hq)⟩
def levR (R : Nat → Nat → Bool) (N : Nat) : Nat → Nat := rnds (edsOf R N) N
theorem levR_lev {R : Nat → Nat → Bool} {N : Nat} {d0 : List Nat} (hg : Good R N d0) (hl : d0.length = N) (hR : ∀ i j, R i j = true → i < N ∧ j < N) : Lev R (levR R N) := rnds_lev hg hl hR (mem_edsOf hR)
theorem left_lt {R : Nat → Nat → Bool} {N : Nat} (hR : ∀ i j, R i j = true → i < N ∧ j < N) (d : List Nat) : ∀ i j, left R d i j = true → i < N ∧ j < N := fun i j h => hR i j (left_iff.1 h).1
theorem left_lev {R : Nat → Nat → Bool} {N : Nat} {d0 : List Nat} (hg : Good R N d0) (hl : d0.length = N) (hR : ∀ i j, R i j = true → i < N ∧ j < N) (d : List Nat) : Lev (left R d) (levR (left R d) N) :=
  levR_lev (hg.mono fun _ _ h => (left_iff.1 h).1) hl (left_lt hR d)
theorem left_nil (R : Nat → Nat → Bool) : left R [] = R := by funext a b; simp [left]

/-! ### how many rounds -/
/-- the longest chain of what is left -/
def remH (R : Nat → Nat → Bool) (N : Nat) (d : List Nat) : Nat := if N ≤ d.length then 0 else hgt (levR (left R d) N) N
section
variable {R : Nat → Nat → Bool} {N w : Nat} {d0 : List Nat}
theorem remH_all (hg : Good R N d0) (hl : d0.length = N) (hR : ∀ i j, R i j = true → i < N ∧ j < N) {d : List Nat} (hd : d.length < N) {d' : List Nat} (hd' : ∀ x, x ∈ d' ↔ x ∈ d ∨ x ∈ rdyL R N d) : remH R N d' < remH R N d := by
  unfold remH
  rw [if_neg (show ¬ N ≤ d.length by omega)]
  by_cases h : N ≤ d'.length
  · rw [if_pos h]
    exact hgt_pos _ (by omega)
  · rw [if_neg h]
    obtain ⟨n, hn, hn'⟩ := exists_out N d' (by omega)
    exact hgt_left hR hd' (left_lev hg hl hR d) (left_lev hg hl hR d') hn hn'
theorem remH_some (hg : Good R N d0) (hl : d0.length = N) (hR : ∀ i j, R i j = true → i < N ∧ j < N) {d : List Nat} (hd : d.length < N) {d' : List Nat} (hd' : ∀ x, x ∈ d → x ∈ d') : remH R N d' ≤ remH R N d := by
  unfold remH
  rw [if_neg (show ¬ N ≤ d.length by omega)]
  by_cases h : N ≤ d'.length
  · rw [if_pos h]; exact Nat.zero_le _
  · rw [if_neg h]
    refine hgt_mono (left_lev hg hl hR d') (left_lev hg hl hR d) fun i j h => ?_
    obtain ⟨h1, h2, h3⟩ := left_iff.1 h
    exact left_iff.2 ⟨h1, fun e => h2 (hd' _ e), fun e => h3 (hd' _ e)⟩
theorem remH_nil {f : Nat → Nat} (hL : Lev R f) (hg : Good R N d0) (hl : d0.length = N) (hR : ∀ i j, R i j = true → i < N ∧ j < N) : remH R N [] = hgt f N := by
  unfold remH
  by_cases h : N ≤ ([] : List Nat).length
  · rw [if_pos h]
    obtain rfl : N = 0 := by simpa using h
    rfl
  · rw [if_neg h]
    have := left_lev hg hl hR []
    rw [left_nil] at this ⊢
    rw [this.uniq hL]

/-- rounds in which all who are ready are done, and the others -/
def idl (R : Nat → Nat → Bool) (N w : Nat) : Nat → Nat
  | 0 => 0
  | k + 1 => idl R N w k + if (rdyL R N (gdn R N w k)).length ≤ w then 1 else 0
theorem rnow_all {d : List Nat} (h : (rdyL R N d).length ≤ w) : rnow R N w d = rdyL R N d := by unfold rnow; exact List.take_of_length_le h
theorem rnow_full {d : List Nat} (h : ¬ (rdyL R N d).length ≤ w) : (rnow R N w d).length = w := by unfold rnow; rw [List.length_take]; omega
theorem idl_inv {f : Nat → Nat} (hw : 1 ≤ w) (hL : Lev R f) (hg : Good R N d0) (hl : d0.length = N) (hR : ∀ i j, R i j = true → i < N ∧ j < N) (hc : ∀ x, ¬ Path R x x) :
    ∀ k, (∀ j, j < k → (gdn R N w j).length < N) → idl R N w k + remH R N (gdn R N w k) ≤ hgt f N ∧ idl R N w k ≤ k ∧ w * (k - idl R N w k) + idl R N w k ≤ (gdn R N w k).length
  | 0, _ => by
    simp only [idl, gdn]
    rw [remH_nil hL hg hl hR]
    simp
  | k + 1, hj => by
    obtain ⟨h1, h2, h3⟩ := idl_inv hw hL hg hl hR hc k fun j h => hj j (by omega)
    have hk := hj k (by omega)
    have hp := rnow_pos hw hc (R := R) hk
    rw [gdn_len_succ]
    by_cases ha : (rdyL R N (gdn R N w k)).length ≤ w
    · have e : idl R N w (k + 1) = idl R N w k + 1 := by simp only [idl]; rw [if_pos ha]
      have hr : remH R N (gdn R N w (k + 1)) < remH R N (gdn R N w k) := remH_all hg hl hR hk fun x => by
        simp only [gdn]
        rw [List.mem_append, rnow_all ha]
      rw [e, show k + 1 - (idl R N w k + 1) = k - idl R N w k by omega]
      omega
    · have e : idl R N w (k + 1) = idl R N w k := by simp only [idl]; rw [if_neg ha]; rfl
      have hr : remH R N (gdn R N w (k + 1)) ≤ remH R N (gdn R N w k) := remH_some hg hl hR hk fun x hx => gdn_up hx
      have hf := rnow_full ha
      rw [e, show k + 1 - idl R N w k = (k - idl R N w k) + 1 by omega, Nat.mul_add, Nat.mul_one, hf]
      omega
theorem gdn_lev {f : Nat → Nat} (hL : Lev R f) (hR : ∀ i j, R i j = true → i < N ∧ j < N) : ∀ k x, x ∈ gdn R N w k → f x + 1 ≤ k
  | 0, x, h => by simp [gdn] at h
  | k + 1, x, h => by
    rcases List.mem_append.1 h with h | h
    · have := gdn_lev hL hR k x h; omega
    · have hr := (ready_iff.1 (rnow_sub h).2).2
      have hw := hL.way x
      cases hq : f x with
      | zero => omega
      | succ n =>
        rw [hq] at hw
        cases hw with
        | step e p =>
          rename_i a
          have h1 := gdn_lev hL hR k a (hr a (hR _ _ e).1 e)
          have h2 := hL.top _ _ p
          omega
theorem gdn_mul (R : Nat → Nat → Bool) (N w : Nat) : ∀ k, (gdn R N w k).length ≤ w * k
  | 0 => by simp [gdn]
  | k + 1 => by
    have h1 := gdn_mul R N w k
    have h2 := rnow_len R N w (gdn R N w k)
    rw [gdn_len_succ, Nat.mul_add, Nat.mul_one]
    omega
/-- BRENT AND GRAHAM -/
theorem brent {f : Nat → Nat} (hw : 1 ≤ w) (hL : Lev R f) (hg : Good R N d0) (hl : d0.length = N) (hR : ∀ i j, R i j = true → i < N ∧ j < N) (hc : ∀ x, ¬ Path R x x) :
    w * grn R N w ≤ N + (w - 1) * hgt f N ∧ hgt f N ≤ grn R N w ∧ N ≤ w * grn R N w := by
  obtain ⟨s1, s2, s3⟩ := grn_spec hw hc (R := R) (N := N)
  obtain ⟨h1, h2, h3⟩ := idl_inv hw hL hg hl hR hc _ s2
  obtain ⟨r, hr⟩ : ∃ r, r = grn R N w := ⟨_, rfl⟩
  rw [← hr] at s1 s2 s3 h1 h2 h3 ⊢
  obtain ⟨i, hi⟩ : ∃ i, i = idl R N w r := ⟨_, rfl⟩
  rw [← hi] at h1 h2 h3
  refine ⟨?_, hgt_le f fun b hb => ?_, by have := gdn_mul R N w r; omega⟩
  · obtain ⟨v, rfl⟩ : ∃ v, w = v + 1 := ⟨w - 1, by omega⟩
    obtain ⟨e, rfl⟩ : ∃ e, r = i + e := ⟨r - i, by omega⟩
    have m1 : v * i ≤ v * hgt f N := Nat.mul_le_mul_left _ (by omega)
    rw [show i + e - i = e by omega] at h3
    rw [show v + 1 - 1 = v by omega, Nat.mul_add, Nat.add_mul v 1 i]
    omega
  · have := gdn_lev hL hR (w := w) r b ((gdn_good R N w r).all (by omega) hb)
    omega
/-- where there are always enough workers, there are as many rounds as the longest chain has nodes -/
theorem grn_enough {f : Nat → Nat} (hw : 1 ≤ w) (hL : Lev R f) (hg : Good R N d0) (hl : d0.length = N) (hR : ∀ i j, R i j = true → i < N ∧ j < N) (hc : ∀ x, ¬ Path R x x) (he : ∀ k, (rdyL R N (gdn R N w k)).length ≤ w) : grn R N w = hgt f N := by
  obtain ⟨s1, s2, s3⟩ := grn_spec hw hc (R := R) (N := N)
  obtain ⟨h1, h2, h3⟩ := idl_inv hw hL hg hl hR hc _ s2
  have h4 := (brent hw hL hg hl hR hc).2.1
  have : ∀ k, idl R N w k = k := fun k => by
    induction k with
    | zero => rfl
    | succ k ih => simp only [idl]; rw [if_pos (he k), ih]
  rw [this] at h1
  omega
/-- two that are ready are side by side -/
theorem rdyL_apart (hR : ∀ i j, R i j = true → i < N ∧ j < N) {d : List Nat} (hg : Good R N d) {a b : Nat} (ha : a ∈ rdyL R N d) (hb : b ∈ rdyL R N d) : ¬ Path R a b := by
  intro p
  have hpre : ∀ x y, Path R x y → y ∈ d → x ∈ d := fun x y p => by
    induction p with
    | one e => exact fun hy => hg.mem_pre hy (hR _ _ e).1 e
    | step e _ ih => exact fun hy => hg.mem_pre (ih hy) (hR _ _ e).1 e
  obtain ⟨c, hc, h⟩ := p.last
  have hcd := (ready_iff.1 (mem_rdyL.1 hb).2).2 c (hR _ _ hc).1 hc
  have had := (ready_iff.1 (mem_rdyL.1 ha).2).1
  rcases h with rfl | h
  · exact had hcd
  · exact had (hpre _ _ h hcd)
/-- a term's rounds: its work, parted, and its span -/
theorem rounds_parted {N w h r : Nat} (hw : 1 ≤ w) (h1 : w * r ≤ N + (w - 1) * h) : r ≤ N / w + h := by
  have hd := Nat.div_add_mod N w
  have hm := Nat.mod_lt N (show 0 < w by omega)
  obtain ⟨q, hq⟩ : ∃ q, q = N / w := ⟨_, rfl⟩
  rw [← hq] at hd ⊢
  false_or_by_contra
  have h2 : w * (q + h + 1) ≤ w * r := Nat.mul_le_mul_left _ (by omega)
  obtain ⟨v, rfl⟩ : ∃ v, w = v + 1 := ⟨w - 1, by omega⟩
  rw [show v + 1 - 1 = v by omega] at h1
  rw [Nat.mul_add, Nat.mul_add, Nat.mul_one, Nat.add_mul v 1 h] at h2
  omega
end
end Go.Proofs.YtipihchlhkjdjaaDoor

namespace Go.Proofs.YtipihchlhkjdjaaDoor
open Go.RowKit

/-- element k of a list of words, 0 beyond it -/
def wd (xs : List Nat) (k : Nat) : Nat := xs.getD k 0

/-- element k of a list of ints, 0 beyond it -/
def zd (zs : List Int) (k : Nat) : Int := zs.getD k 0

/-- the first n places from A on hold f; they lie below block B -/
def Rd (w : World) (B : Nat) (A : Option Addr) (n : Nat) (f : Nat → Value) : Prop :=
  0 < n → ∃ b off, A = some ⟨b, off, none⟩ ∧ b < B ∧ ∀ k, k < n → w.cell? ⟨b, off + k, none⟩ = some (f k)

/-- a slice of words -/
structure RdU (w : World) (B : Nat) (A : Option Addr) (xs : List Nat) : Prop where
  lt : ∀ k, wd xs k < 18446744073709551616
  room : xs.length ≤ 1152921504606846976
  rd : Rd w B A xs.length (fun k => .int .u64 (wd xs k : Int))

/-- a slice of ints -/
structure RdI (w : World) (B : Nat) (A : Option Addr) (zs : List Int) : Prop where
  lo : ∀ k, -9223372036854775808 ≤ zd zs k
  hi : ∀ k, zd zs k ≤ 9223372036854775807
  room : zs.length ≤ 1152921504606846976
  rd : Rd w B A zs.length (fun k => .int .i64 (zd zs k))

theorem Rd.keep {w w' : World} {B n : Nat} {A : Option Addr} {f : Nat → Value} (h : Rd w B A n f) (hk : ∀ b o, b < B → w'.cell? ⟨b, o, none⟩ = w.cell? ⟨b, o, none⟩) : Rd w' B A n f := fun hn => by
  obtain ⟨b, off, hA, hb, hc⟩ := h hn
  exact ⟨b, off, hA, hb, fun k hk' => (hk b _ hb).trans (hc k hk')⟩
theorem Rd.more {w : World} {B B' n : Nat} {A : Option Addr} {f : Nat → Value} (h : Rd w B A n f) (hB : B ≤ B') : Rd w B' A n f := fun hn => by
  obtain ⟨b, off, hA, hb, hc⟩ := h hn
  exact ⟨b, off, hA, by omega, hc⟩
theorem Rd.below {w w' : World} {B n : Nat} {A : Option Addr} {f : Nat → Value} (h : Rd w B A n f) (hb : Below B w w') : Rd w' B A n f :=
  h.keep fun b o hlt => hb.cell (p := ⟨b, o, none⟩) hlt
theorem RdU.below {w w' : World} {B : Nat} {A : Option Addr} {xs : List Nat} (h : RdU w B A xs) (hb : Below B w w') : RdU w' B A xs := ⟨h.lt, h.room, h.rd.below hb⟩
theorem RdU.more {w : World} {B B' : Nat} {A : Option Addr} {xs : List Nat} (h : RdU w B A xs) (hB : B ≤ B') : RdU w B' A xs := ⟨h.lt, h.room, h.rd.more hB⟩
theorem RdI.below {w w' : World} {B : Nat} {A : Option Addr} {xs : List Int} (h : RdI w B A xs) (hb : Below B w w') : RdI w' B A xs := ⟨h.lo, h.hi, h.room, h.rd.below hb⟩
theorem RdI.more {w : World} {B B' : Nat} {A : Option Addr} {xs : List Int} (h : RdI w B A xs) (hB : B ≤ B') : RdI w B' A xs := ⟨h.lo, h.hi, h.room, h.rd.more hB⟩
theorem RdU.drewN {w : World} {B : Nat} {A : Option Addr} {xs : List Nat} (h : RdU w B A xs) (n : Nat) : RdU (w.drewN n) B A xs := ⟨h.lt, h.room, h.rd⟩
theorem RdI.drewN {w : World} {B : Nat} {A : Option Addr} {xs : List Int} (h : RdI w B A xs) (n : Nat) : RdI (w.drewN n) B A xs := ⟨h.lo, h.hi, h.room, h.rd⟩
theorem RdU.keep {w w' : World} {B : Nat} {A : Option Addr} {xs : List Nat} (h : RdU w B A xs) (hk : ∀ b o, b < B → w'.cell? ⟨b, o, none⟩ = w.cell? ⟨b, o, none⟩) : RdU w' B A xs := ⟨h.lt, h.room, h.rd.keep hk⟩
theorem RdI.keep {w w' : World} {B : Nat} {A : Option Addr} {xs : List Int} (h : RdI w B A xs) (hk : ∀ b o, b < B → w'.cell? ⟨b, o, none⟩ = w.cell? ⟨b, o, none⟩) : RdI w' B A xs := ⟨h.lo, h.hi, h.room, h.rd.keep hk⟩

theorem zd_out (zs : List Int) (k : Nat) (h : zs.length ≤ k) : zd zs k = 0 := by
  unfold zd; simp [List.getD, h]
theorem wd_out (xs : List Nat) (k : Nat) (h : xs.length ≤ k) : wd xs k = 0 := by
  unfold wd; simp [List.getD, h]

/-- words, ints as values -/
def uVals (xs : List Nat) : List Value := xs.map fun (x : Nat) => Value.int .u64 (x : Int)
def iVals (zs : List Int) : List Value := zs.map fun (z : Int) => Value.int .i64 z
theorem uVals_at (xs : List Nat) (k : Nat) (h : k < xs.length) : (uVals xs)[k]? = some (.int .u64 (wd xs k : Int)) := by
  unfold uVals wd; simp [h, List.getD]
theorem iVals_at (zs : List Int) (k : Nat) (h : k < zs.length) : (iVals zs)[k]? = some (.int .i64 (zd zs k)) := by
  unfold iVals zd; simp [h, List.getD]
theorem uVals_len (xs : List Nat) : (uVals xs).length = xs.length := by simp [uVals]
theorem iVals_len (zs : List Int) : (iVals zs).length = zs.length := by simp [iVals]
theorem uVals_snoc (xs : List Nat) (x : Nat) : uVals xs ++ [.int .u64 (x : Int)] = uVals (xs ++ [x]) := by simp [uVals]
theorem iVals_snoc (zs : List Int) (z : Int) : iVals zs ++ [.int .i64 z] = iVals (zs ++ [z]) := by simp [iVals]

/-- what an owned row looks like -/
theorem own_shape {w : World} {base n : Nat} {e : TypeId} {v : Value} {xs : List Value} (h : w.ownsRow base e 1 v n xs) (hn : 0 < n) :
    ∃ g cap, v = .slice (some ⟨g, 0, none⟩) n cap ∧ base ≤ g ∧ g < w.heap.size := by
  rcases h.2 with ⟨_, h0⟩ | ⟨g, cap, cur, hv, hb, hg, _⟩
  · omega
  · refine ⟨g, cap, hv, hb, ?_⟩
    rcases Nat.lt_or_ge g w.heap.size with hlt | hge
    · exact hlt
    · rw [Array.getElem?_eq_none hge] at hg; cases hg
theorem own_any {w : World} {base n : Nat} {e : TypeId} {v : Value} {xs : List Value} (h : w.ownsRow base e 1 v n xs) : ∃ A cap, v = .slice A n cap := by
  rcases h.2 with ⟨rfl, rfl⟩ | ⟨g, cap, cur, hv, _⟩
  · exact ⟨_, _, rfl⟩
  · exact ⟨_, _, hv⟩
theorem own_rd {w : World} {base n c : Nat} {e : TypeId} {A : Option Addr} {xs : List Value} {f : Nat → Value} (h : w.ownsRow base e 1 (.slice A n c) n xs) (hf : ∀ k, k < n → xs[k]? = some (f k)) : Rd w w.heap.size A n f := fun hn => by
  obtain ⟨g, cap, hv, _, hg⟩ := own_shape h hn
  injection hv with hA _ hc
  subst hA
  subst hc
  refine ⟨g, 0, rfl, hg, fun k hk => ?_⟩
  rw [Nat.zero_add, h.cellAt k (by omega)]
  exact hf k hk
theorem own_rdU {w : World} {base : Nat} {e : TypeId} {v : Value} {xs : List Nat} (h : w.ownsRow base e 1 v xs.length (uVals xs)) (hlt : ∀ k, wd xs k < 18446744073709551616) (hroom : xs.length ≤ 1152921504606846976) :
    ∃ A c, v = .slice A xs.length c ∧ RdU w w.heap.size A xs := by
  obtain ⟨A, c, rfl⟩ := own_any h
  exact ⟨A, c, rfl, hlt, hroom, own_rd h fun k hk => uVals_at xs k hk⟩
theorem own_rdI {w : World} {base : Nat} {e : TypeId} {v : Value} {zs : List Int} (h : w.ownsRow base e 1 v zs.length (iVals zs)) (hlo : ∀ k, -9223372036854775808 ≤ zd zs k) (hhi : ∀ k, zd zs k ≤ 9223372036854775807) (hroom : zs.length ≤ 1152921504606846976) :
    ∃ A c, v = .slice A zs.length c ∧ RdI w w.heap.size A zs := by
  obtain ⟨A, c, rfl⟩ := own_any h
  exact ⟨A, c, rfl, hlo, hhi, hroom, own_rd h fun k hk => iVals_at zs k hk⟩

theorem own_base {w : World} {base n size : Nat} {e : TypeId} {v : Value} {xs : List Value} (h : w.ownsRow base e size v n xs) : ∀ k, v.ownBlock = some k → base ≤ k := by
  intro k hk
  rcases h.2 with ⟨rfl, _⟩ | ⟨g, cap, cur, rfl, hb, _⟩
  · simp [Value.ownBlock] at hk
  · have : g = k := by simpa [Value.ownBlock] using hk
    omega
/-- append of one element: what stays below -/
theorem below_app {W wr w1 : World} {base n : Nat} {e : TypeId} {v : Value} {xs : List Value} (hB : Below base W wr) (hs : base ≤ wr.heap.size) (h : wr.ownsRow base e 1 v n xs) {o : Obj} (hg : (wr.alloc o).grownBy w1 v.ownBlock) : Below base W w1 :=
  (hB.alloc hs o).grown hg (by simp; omega) (own_base h)

end Go.Proofs.YtipihchlhkjdjaaDoor
