/-
  Plain mathematics of directed graphs on the nodes below N: paths, the topological order that takes the smallest node, Floyd and Warshall's closure. No condition but that edges lie below N.
  Words for memory that hold sets: a slice that reads as a list of 64-bit words or of ints. Plain definitions and lemmas; no condition.
  Plain mathematics of sets as lists of words: trimming, merging, bits.
  Contracts of bitset.word, of the three closures, of Within, of slices.Equal over words and of the reference's test of one bit. For every slice of words.
-/
import Derived.Below
import Derived.WalkKit
import Derived.Deep.QuietTactic
import Derived.Test.YtaboafkpmgadmaaDoorChecked
import Derived.BigQuiet
import Derived.Lib.Hide
namespace Go.Proofs.YtaboafkpmgadmaaDoor

/-- a path of at least one edge -/
inductive Path (R : Nat → Nat → Bool) : Nat → Nat → Prop
  | one {a b : Nat} : R a b = true → Path R a b
  | step {a b c : Nat} : R a b = true → Path R b c → Path R a c
theorem Path.trans {R : Nat → Nat → Bool} {a b c : Nat} (h : Path R a b) (k : Path R b c) : Path R a c := by
  induction h with
  | one h => exact .step h k
  | step h _ ih => exact .step h (ih k)
theorem Path.lt1 {R : Nat → Nat → Bool} {N a b : Nat} (hR : ∀ i j, R i j = true → i < N ∧ j < N) (h : Path R a b) : a < N := by
  cases h with
  | one h => exact (hR _ _ h).1
  | step h _ => exact (hR _ _ h).1
theorem Path.lt2 {R : Nat → Nat → Bool} {N a b : Nat} (hR : ∀ i j, R i j = true → i < N ∧ j < N) (h : Path R a b) : b < N := by
  induction h with
  | one h => exact (hR _ _ h).2
  | step _ _ ih => exact ih
theorem Path.congr {R Q : Nat → Nat → Bool} (h : ∀ i j, R i j = true → Q i j = true) {a b : Nat} (p : Path R a b) : Path Q a b := by
  induction p with
  | one e => exact .one (h _ _ e)
  | step e _ ih => exact .step (h _ _ e) ih
theorem Path.into {R Q : Nat → Nat → Bool} (h : ∀ i j, R i j = true → Path Q i j) {a b : Nat} (p : Path R a b) : Path Q a b := by
  induction p with
  | one e => exact h _ _ e
  | step e _ ih => exact (h _ _ e).trans ih
/-- the last edge of a path -/
theorem Path.last {R : Nat → Nat → Bool} {a b : Nat} (p : Path R a b) : ∃ c, R c b = true ∧ (a = c ∨ Path R a c) := by
  induction p with
  | one e => exact ⟨_, e, .inl rfl⟩
  | step e _ ih =>
    obtain ⟨c, hc, h⟩ := ih
    refine ⟨c, hc, .inr ?_⟩
    rcases h with rfl | h
    · exact .one e
    · exact .step e h

/-! ### pigeons -/
theorem nodup_le : ∀ (N : Nat) (l : List Nat), l.Nodup → (∀ x, x ∈ l → x < N) → l.length ≤ N
  | 0, l, _, h => by
    cases l with
    | nil => simp
    | cons a l => exact absurd (h a List.mem_cons_self) (by omega)
  | N + 1, l, hn, h => by
    by_cases hm : N ∈ l
    · have h1 := nodup_le N (l.erase N) (hn.erase N) (fun x hx => by
        have h2 := (hn.mem_erase_iff).1 hx
        have := h x h2.2
        have := h2.1
        omega)
      rw [List.length_erase_of_mem hm] at h1
      omega
    · have := nodup_le N l hn (fun x hx => by
        have h2 := h x hx
        have : x ≠ N := fun e => hm (e ▸ hx)
        omega)
      omega
theorem exists_out (N : Nat) (d : List Nat) (h : d.length < N) : ∃ x, x < N ∧ x ∉ d := by
  false_or_by_contra
  rename_i hc
  have hall : ∀ x, x < N → x ∈ d := fun x hx => by
    false_or_by_contra
    rename_i h2
    exact hc ⟨x, hx, h2⟩
  have : ∀ (M : Nat) (l : List Nat), (∀ x, x < M → x ∈ l) → M ≤ l.length := by
    intro M
    induction M with
    | zero => intro l _; omega
    | succ M ih =>
      intro l hl
      have hm := hl M (by omega)
      have h1 := ih (l.erase M) (fun x hx => (List.mem_erase_of_ne (by omega)).2 (hl x (by omega)))
      rw [List.length_erase_of_mem hm] at h1
      have := List.length_pos_of_mem hm
      omega
  have := this N d hall
  omega
theorem pigeon (N : Nat) (s : Nat → Nat) (h : ∀ i, s i < N) : ∃ i j, i < j ∧ s i = s j := by
  false_or_by_contra
  rename_i hc
  have hn : ((List.range (N + 1)).map s).Nodup := by
    rw [List.nodup_iff_pairwise_ne, List.pairwise_map]
    exact List.pairwise_lt_range.imp fun {a b} hab e => hc ⟨a, b, hab, e⟩
  have := nodup_le N _ hn (fun x hx => by
    obtain ⟨i, _, rfl⟩ := List.mem_map.1 hx
    exact h i)
  simp at this
  omega

/-! ### the order -/
def ready (R : Nat → Nat → Bool) (N : Nat) (d : List Nat) (x : Nat) : Bool := !(d.contains x) && (List.range N).all fun p => !(R p x) || d.contains p
theorem ready_iff {R : Nat → Nat → Bool} {N : Nat} {d : List Nat} {x : Nat} : ready R N d x = true ↔ x ∉ d ∧ ∀ p, p < N → R p x = true → p ∈ d := by
  unfold ready
  simp only [Bool.and_eq_true, Bool.not_eq_true', List.all_eq_true, List.mem_range, Bool.or_eq_true, List.contains_iff_mem]
  constructor
  · rintro ⟨h1, h2⟩
    refine ⟨fun h => (by rw [← List.contains_iff_mem] at h; rw [h] at h1; cases h1), fun p hp hr => ?_⟩
    rcases h2 p hp with h | h
    · rw [hr] at h; cases h
    · exact h
  · rintro ⟨h1, h2⟩
    refine ⟨by simpa using h1, fun p hp => ?_⟩
    cases hr : R p x with
    | false => exact .inl rfl
    | true => exact .inr (h2 p hp hr)
def pick (R : Nat → Nat → Bool) (N : Nat) (d : List Nat) : Option Nat := (List.range N).find? (ready R N d)
theorem find_range {p : Nat → Bool} {N x : Nat} (h : (List.range N).find? p = some x) : x < N ∧ p x = true ∧ ∀ y, y < x → p y = false := by
  obtain ⟨h1, as_, bs, h2, h3⟩ := List.find?_eq_some_iff_append.1 h
  have hx : x = as_.length := by
    have e := congrArg (fun l => l[as_.length]?) h2
    simp only [List.getElem?_append_right (Nat.le_refl _), Nat.sub_self] at e
    by_cases hlt : as_.length < N
    · simp [hlt] at e; omega
    · have := congrArg List.length h2
      simp at this
      omega
  have hlen := congrArg List.length h2
  simp at hlen
  refine ⟨by omega, h1, fun y hy => ?_⟩
  have hm : y ∈ as_ := by
    have e := congrArg (fun l => l[y]?) h2
    simp only [List.getElem?_append_left (show y < as_.length by omega)] at e
    have hyN : y < N := by omega
    simp [hyN] at e
    have e2 := List.getElem?_eq_getElem (show y < as_.length by omega)
    rw [e2] at e
    injection e with e
    rw [e]
    exact List.getElem_mem _
  simpa using h3 y hm
theorem find_range_none {p : Nat → Bool} {N : Nat} (h : (List.range N).find? p = none) : ∀ y, y < N → p y = false := fun y hy => by
  have := List.find?_eq_none.1 h y (List.mem_range.2 hy)
  simpa using this
/-- after k rounds -/
def topoN (R : Nat → Nat → Bool) (N : Nat) : Nat → List Nat
  | 0 => []
  | k + 1 => match pick R N (topoN R N k) with
    | none => topoN R N k
    | some x => topoN R N k ++ [x]
def topo (R : Nat → Nat → Bool) (N : Nat) : List Nat := topoN R N N
theorem topoN_some {R : Nat → Nat → Bool} {N k x : Nat} (h : pick R N (topoN R N k) = some x) : topoN R N (k + 1) = topoN R N k ++ [x] := by simp only [topoN, h]
theorem topoN_none {R : Nat → Nat → Bool} {N k : Nat} (h : pick R N (topoN R N k) = none) : topoN R N (k + 1) = topoN R N k := by simp only [topoN, h]
theorem topoN_stop {R : Nat → Nat → Bool} {N k : Nat} (h : pick R N (topoN R N k) = none) (j : Nat) : topoN R N (k + j) = topoN R N k := by
  induction j with
  | zero => rfl
  | succ j ih => rw [← Nat.add_assoc, topoN_none (by rw [ih]; exact h), ih]
/-- no node twice; all below N; before each node stand all from which an edge leads to it -/
structure Good (R : Nat → Nat → Bool) (N : Nat) (d : List Nat) : Prop where
  nodup : d.Nodup
  lt : ∀ x, x ∈ d → x < N
  pre : ∀ i x, d[i]? = some x → ∀ p, p < N → R p x = true → p ∈ d.take i
theorem Good.snoc {R : Nat → Nat → Bool} {N : Nat} {d : List Nat} (h : Good R N d) {x : Nat} (hx : x < N) (hr : ready R N d x = true) : Good R N (d ++ [x]) := by
  obtain ⟨h1, h2⟩ := ready_iff.1 hr
  refine ⟨?_, fun y hy => ?_, fun i y hy p hp hR => ?_⟩
  · rw [List.nodup_append]
    exact ⟨h.nodup, by simp, fun a ha b hb => by simp at hb; subst hb; exact fun e => h1 (e ▸ ha)⟩
  · rcases List.mem_append.1 hy with h3 | h3
    · exact h.lt y h3
    · simp at h3; omega
  · rcases Nat.lt_or_ge i d.length with hi | hi
    · rw [List.getElem?_append_left hi] at hy
      rw [List.take_append_of_le_length (by omega)]
      exact h.pre i y hy p hp hR
    · rw [List.getElem?_append_right hi] at hy
      have hi2 : i = d.length := by
        rcases Nat.eq_zero_or_pos (i - d.length) with h4 | h4
        · omega
        · rw [List.getElem?_eq_none (by simp; omega)] at hy; cases hy
      subst hi2
      simp at hy
      subst hy
      rw [List.take_append_of_le_length (Nat.le_refl _), List.take_length]
      exact h2 p hp hR
theorem good_topoN (R : Nat → Nat → Bool) (N k : Nat) : Good R N (topoN R N k) := by
  induction k with
  | zero => exact ⟨by simp [topoN], fun x hx => by simp [topoN] at hx, fun i x hx => by simp [topoN] at hx⟩
  | succ k ih =>
    cases h : pick R N (topoN R N k) with
    | none => rw [topoN_none h]; exact ih
    | some x =>
      rw [topoN_some h]
      obtain ⟨h1, h2, _⟩ := find_range h
      exact ih.snoc h1 h2
theorem Good.len {R : Nat → Nat → Bool} {N : Nat} {d : List Nat} (h : Good R N d) : d.length ≤ N := nodup_le N d h.nodup h.lt
theorem Good.mem_pre {R : Nat → Nat → Bool} {N : Nat} {d : List Nat} (h : Good R N d) {x p : Nat} (hx : x ∈ d) (hp : p < N) (hR : R p x = true) : p ∈ d := by
  obtain ⟨i, hi, e⟩ := List.getElem_of_mem hx
  exact List.mem_of_mem_take (h.pre i x (by rw [List.getElem?_eq_getElem hi, e]) p hp hR)
theorem topoN_len {R : Nat → Nat → Bool} {N : Nat} : ∀ k, (topoN R N k).length ≤ k
  | 0 => by simp [topoN]
  | k + 1 => by
    have := topoN_len (R := R) (N := N) k
    cases h : pick R N (topoN R N k) with
    | none => rw [topoN_none h]; omega
    | some x => rw [topoN_some h]; simp; omega
/-- as_ long as_ each round finds one -/
theorem topoN_eq {R : Nat → Nat → Bool} {N : Nat} : ∀ k, (∀ j, j < k → pick R N (topoN R N j) ≠ none) → (topoN R N k).length = k
  | 0, _ => by simp [topoN]
  | k + 1, h => by
    have ih := topoN_eq k (fun j hj => h j (by omega))
    cases hp : pick R N (topoN R N k) with
    | none => exact absurd hp (h k (by omega))
    | some x => rw [topoN_some hp]; simp; omega
/-- the order is reached at the round that finds none, and by round N at the latest -/
theorem topo_at {R : Nat → Nat → Bool} {N k : Nat} (hk : k ≤ N) (h : pick R N (topoN R N k) = none) : topo R N = topoN R N k := by
  unfold topo
  obtain ⟨j, rfl⟩ : ∃ j, N = k + j := ⟨N - k, by omega⟩
  exact topoN_stop h j
theorem pick_full {R : Nat → Nat → Bool} {N : Nat} {d : List Nat} (h : N ≤ d.length) (hg : Good R N d) : pick R N d = none := by
  cases hp : pick R N d with
  | none => rfl
  | some x =>
    obtain ⟨h1, h2, _⟩ := find_range hp
    have := (hg.snoc h1 h2).len
    simp at this
    omega
/-- where nothing goes round, each round finds one -/
theorem pick_some {R : Nat → Nat → Bool} {N : Nat} {d : List Nat} (hc : ∀ x, ¬ Path R x x) (hl : d.length < N) : pick R N d ≠ none := by
  intro hp
  have hno := find_range_none hp
  have hpre : ∀ x, x < N → x ∉ d → ∃ p, p < N ∧ p ∉ d ∧ R p x = true := fun x hx hxd => by
    false_or_by_contra
    rename_i h2
    have := hno x hx
    have hr : ready R N d x = true := ready_iff.2 ⟨hxd, fun p hpN hR => by
      false_or_by_contra
      rename_i h3
      exact h2 ⟨p, hpN, h3, hR⟩⟩
    rw [hr] at this
    cases this
  obtain ⟨x0, hx0, hd0⟩ := exists_out N d hl
  have hstep : ∀ x : { x : Nat // x < N ∧ x ∉ d }, ∃ y : { x : Nat // x < N ∧ x ∉ d }, R y.1 x.1 = true := fun x => by
    obtain ⟨p, h1, h2, h3⟩ := hpre x.1 x.2.1 x.2.2
    exact ⟨⟨p, h1, h2⟩, h3⟩
  let f : { x : Nat // x < N ∧ x ∉ d } → { x : Nat // x < N ∧ x ∉ d } := fun x => (hstep x).choose
  let s : Nat → { x : Nat // x < N ∧ x ∉ d } := fun i => Nat.rec ⟨x0, hx0, hd0⟩ (fun _ y => f y) i
  have hs : ∀ i, R (s (i + 1)).1 (s i).1 = true := fun i => (hstep (s i)).choose_spec
  have hpath : ∀ i j, Path R (s (i + 1 + j)).1 (s i).1 := by
    intro i j
    induction j with
    | zero => exact .one (hs i)
    | succ j ih => exact .step (hs (i + 1 + j)) ih
  obtain ⟨i, j, hij, e⟩ := pigeon N (fun i => (s i).1) (fun i => (s i).2.1)
  obtain ⟨m, rfl⟩ : ∃ m, j = i + 1 + m := ⟨j - (i + 1), by omega⟩
  have hp2 := hpath i m
  rw [← e] at hp2
  exact hc _ hp2
theorem topo_full {R : Nat → Nat → Bool} {N : Nat} (hc : ∀ x, ¬ Path R x x) : (topo R N).length = N := by
  unfold topo
  have : ∀ k, k ≤ N → (topoN R N k).length = k := by
    intro k
    induction k with
    | zero => intro _; simp [topoN]
    | succ k ih =>
      intro hk
      have h1 := ih (by omega)
      cases hp : pick R N (topoN R N k) with
      | none => exact absurd hp (pick_some hc (by omega))
      | some x => rw [topoN_some hp]; simp; omega
  exact this N (Nat.le_refl _)
/-- a path leads onward in the order -/
theorem Good.path {R : Nat → Nat → Bool} {N : Nat} {d : List Nat} (h : Good R N d) (hR : ∀ i j, R i j = true → i < N ∧ j < N) {a b : Nat} (p : Path R a b) : ∀ i, d[i]? = some b → a ∈ d.take i := by
  induction p with
  | one e => exact fun i hi => h.pre i _ hi _ (hR _ _ e).1 e
  | @step a b c e p ih =>
    intro i hi
    have hb := ih i hi
    obtain ⟨j, hj, ej⟩ := List.getElem_of_mem hb
    have hji : j < i := by simp at hj; omega
    have hdj : d[j]? = some b := by
      rw [List.getElem_take] at ej
      rw [List.getElem?_eq_getElem (by simp at hj; omega), ej]
    have ha := h.pre j b hdj a (hR _ _ e).1 e
    have hsub : d.take j = (d.take i).take j := by rw [List.take_take, Nat.min_eq_left (by omega)]
    rw [hsub] at ha
    exact List.mem_of_mem_take ha
theorem Good.acyclic {R : Nat → Nat → Bool} {N : Nat} {d : List Nat} (h : Good R N d) (hR : ∀ i j, R i j = true → i < N ∧ j < N) {x : Nat} (hx : x ∈ d) : ¬ Path R x x := by
  intro p
  have : ∀ i : Nat, d[i]? = some x → False := by
    intro i
    induction i using Nat.strongRecOn with
    | ind i ih =>
      intro hi
      have hm := h.path hR p i hi
      obtain ⟨j, hj, ej⟩ := List.getElem_of_mem hm
      rw [List.getElem_take] at ej
      exact ih j (by simp at hj; omega) (by rw [List.getElem?_eq_getElem (by simp at hj; omega), ej])
  obtain ⟨i, hi, e⟩ := List.getElem_of_mem hx
  exact this i (by rw [List.getElem?_eq_getElem hi, e])
theorem Good.all {R : Nat → Nat → Bool} {N : Nat} {d : List Nat} (h : Good R N d) (hl : N ≤ d.length) {x : Nat} (hx : x < N) : x ∈ d := by
  false_or_by_contra
  rename_i hn
  have h1 : (d ++ [x]).Nodup := by
    rw [List.nodup_append]
    exact ⟨h.nodup, by simp, fun a ha b hb => by simp at hb; subst hb; exact fun e => hn (e ▸ ha)⟩
  have := nodup_le N (d ++ [x]) h1 (fun y hy => by
    rcases List.mem_append.1 hy with h3 | h3
    · exact h.lt y h3
    · simp at h3; omega)
  simp at this
  omega
/-- THE ORDER IS WHOLE IF AND ONLY IF NOTHING GOES ROUND. -/
theorem topo_iff {R : Nat → Nat → Bool} {N : Nat} (hR : ∀ i j, R i j = true → i < N ∧ j < N) : (topo R N).length = N ↔ ∀ x, ¬ Path R x x := by
  constructor
  · intro h x p
    have hg := good_topoN R N N
    exact hg.acyclic hR (hg.all (by unfold topo at h; omega) (p.lt1 hR)) p
  · exact topo_full

/-! ### Floyd and Warshall -/
def fw (R : Nat → Nat → Bool) : Nat → Nat → Nat → Bool
  | 0, i, j => R i j
  | k + 1, i, j => fw R k i j || (fw R k i k && fw R k k j)
theorem fw_mono {R : Nat → Nat → Bool} {k i j : Nat} (h : fw R k i j = true) : fw R (k + 1) i j = true := by simp [fw, h]
theorem fw_col (R : Nat → Nat → Bool) (k i : Nat) : fw R (k + 1) i k = fw R k i k := by
  simp only [fw]; cases fw R k i k <;> simp
theorem fw_row (R : Nat → Nat → Bool) (k j : Nat) : fw R (k + 1) k j = fw R k k j := by
  simp only [fw]; cases fw R k k j <;> simp
theorem fw_sound {R : Nat → Nat → Bool} : ∀ k i j, fw R k i j = true → Path R i j
  | 0, _, _, h => .one h
  | k + 1, i, j, h => by
    simp only [fw, Bool.or_eq_true, Bool.and_eq_true] at h
    rcases h with h | ⟨h1, h2⟩
    · exact fw_sound k i j h
    · exact (fw_sound k i k h1).trans (fw_sound k k j h2)
theorem fw_trans {R : Nat → Nat → Bool} : ∀ k m i j, m < k → fw R k i m = true → fw R k m j = true → fw R k i j = true
  | 0, _, _, _, h, _, _ => by omega
  | k + 1, m, i, j, hm, h1, h2 => by
    have hthru : fw R k i k = true → fw R k k j = true → fw R (k + 1) i j = true := fun a b => by simp [fw, a, b]
    by_cases e : m = k
    · subst e
      rw [fw_col] at h1
      rw [fw_row] at h2
      exact hthru h1 h2
    · have hm' : m < k := by omega
      simp only [fw, Bool.or_eq_true, Bool.and_eq_true] at h1 h2
      rcases h1 with h1 | ⟨h1, h1'⟩ <;> rcases h2 with h2 | ⟨h2, h2'⟩
      · exact fw_mono (fw_trans k m i j hm' h1 h2)
      · exact hthru (fw_trans k m i k hm' h1 h2) h2'
      · exact hthru h1 (fw_trans k m k j hm' h1' h2)
      · exact hthru h1 h2'
theorem fw_base {R : Nat → Nat → Bool} (k : Nat) {i j : Nat} (h : R i j = true) : fw R k i j = true := by
  induction k with
  | zero => exact h
  | succ k ih => exact fw_mono ih
theorem fw_iff {R : Nat → Nat → Bool} {N : Nat} (hR : ∀ i j, R i j = true → i < N ∧ j < N) (i j : Nat) : fw R N i j = true ↔ Path R i j := by
  constructor
  · exact fw_sound N i j
  · intro p
    induction p with
    | one e => exact fw_base N e
    | step e _ ih => exact fw_trans N _ _ _ (hR _ _ e).2 (fw_base N e) ih
end Go.Proofs.YtaboafkpmgadmaaDoor

namespace Go.Proofs.YtaboafkpmgadmaaDoor
open Go.RowKit

/-- element k of a list of words, 0 beyond it -/
def wd (xs : List Nat) (k : Nat) : Nat := xs.getD k 0

/-- element k of a list of ints, 0 beyond it -/
def zd (zs : List Int) (k : Nat) : Int := zs.getD k 0

/-- the first n places from A on hold f; they lie below block B -/
def Rd (w : World) (B : Nat) (A : Option Addr) (n : Nat) (f : Nat → Value) : Prop :=
  0 < n → ∃ b off, A = some ⟨b, off, none⟩ ∧ b < B ∧ ∀ k, k < n → w.cell? ⟨b, off + k, none⟩ = some (f k)

/-- a slice of words -/
structure RdU (w : World) (B : Nat) (A : Option Addr) (xs : List Nat) : Prop where
  lt : ∀ k, wd xs k < 18446744073709551616
  room : xs.length ≤ 1152921504606846976
  rd : Rd w B A xs.length (fun k => .int .u64 (wd xs k : Int))

/-- a slice of ints -/
structure RdI (w : World) (B : Nat) (A : Option Addr) (zs : List Int) : Prop where
  lo : ∀ k, -9223372036854775808 ≤ zd zs k
  hi : ∀ k, zd zs k ≤ 9223372036854775807
  room : zs.length ≤ 1152921504606846976
  rd : Rd w B A zs.length (fun k => .int .i64 (zd zs k))

theorem Rd.keep {w w' : World} {B n : Nat} {A : Option Addr} {f : Nat → Value} (h : Rd w B A n f) (hk : ∀ b o, b < B → w'.cell? ⟨b, o, none⟩ = w.cell? ⟨b, o, none⟩) : Rd w' B A n f := fun hn => by
  obtain ⟨b, off, hA, hb, hc⟩ := h hn
  exact ⟨b, off, hA, hb, fun k hk' => (hk b _ hb).trans (hc k hk')⟩
theorem Rd.more {w : World} {B B' n : Nat} {A : Option Addr} {f : Nat → Value} (h : Rd w B A n f) (hB : B ≤ B') : Rd w B' A n f := fun hn => by
  obtain ⟨b, off, hA, hb, hc⟩ := h hn
  exact ⟨b, off, hA, by omega, hc⟩
theorem Rd.below {w w' : World} {B n : Nat} {A : Option Addr} {f : Nat → Value} (h : Rd w B A n f) (hb : Below B w w') : Rd w' B A n f :=
  h.keep fun b o hlt => hb.cell (p := ⟨b, o, none⟩) hlt
theorem RdU.below {w w' : World} {B : Nat} {A : Option Addr} {xs : List Nat} (h : RdU w B A xs) (hb : Below B w w') : RdU w' B A xs := ⟨h.lt, h.room, h.rd.below hb⟩
theorem RdU.more {w : World} {B B' : Nat} {A : Option Addr} {xs : List Nat} (h : RdU w B A xs) (hB : B ≤ B') : RdU w B' A xs := ⟨h.lt, h.room, h.rd.more hB⟩
theorem RdI.below {w w' : World} {B : Nat} {A : Option Addr} {xs : List Int} (h : RdI w B A xs) (hb : Below B w w') : RdI w' B A xs := ⟨h.lo, h.hi, h.room, h.rd.below hb⟩
theorem RdI.more {w : World} {B B' : Nat} {A : Option Addr} {xs : List Int} (h : RdI w B A xs) (hB : B ≤ B') : RdI w B' A xs := ⟨h.lo, h.hi, h.room, h.rd.more hB⟩
theorem RdU.drewN {w : World} {B : Nat} {A : Option Addr} {xs : List Nat} (h : RdU w B A xs) (n : Nat) : RdU (w.drewN n) B A xs := ⟨h.lt, h.room, h.rd⟩
theorem RdI.drewN {w : World} {B : Nat} {A : Option Addr} {xs : List Int} (h : RdI w B A xs) (n : Nat) : RdI (w.drewN n) B A xs := ⟨h.lo, h.hi, h.room, h.rd⟩
theorem RdU.keep {w w' : World} {B : Nat} {A : Option Addr} {xs : List Nat} (h : RdU w B A xs) (hk : ∀ b o, b < B → w'.cell? ⟨b, o, none⟩ = w.cell? ⟨b, o, none⟩) : RdU w' B A xs := ⟨h.lt, h.room, h.rd.keep hk⟩
theorem RdI.keep {w w' : World} {B : Nat} {A : Option Addr} {xs : List Int} (h : RdI w B A xs) (hk : ∀ b o, b < B → w'.cell? ⟨b, o, none⟩ = w.cell? ⟨b, o, none⟩) : RdI w' B A xs := ⟨h.lo, h.hi, h.room, h.rd.keep hk⟩

theorem zd_out (zs : List Int) (k : Nat) (h : zs.length ≤ k) : zd zs k = 0 := by
  unfold zd; simp [List.getD, h]
theorem wd_out (xs : List Nat) (k : Nat) (h : xs.length ≤ k) : wd xs k = 0 := by
  unfold wd; simp [List.getD, h]

/-- words, ints as values -/
def uVals (xs : List Nat) : List Value := xs.map fun (x : Nat) => Value.int .u64 (x : Int)
def iVals (zs : List Int) : List Value := zs.map fun (z : Int) => Value.int .i64 z
theorem uVals_at (xs : List Nat) (k : Nat) (h : k < xs.length) : (uVals xs)[k]? = some (.int .u64 (wd xs k : Int)) := by
  unfold uVals wd; simp [h, List.getD]
theorem iVals_at (zs : List Int) (k : Nat) (h : k < zs.length) : (iVals zs)[k]? = some (.int .i64 (zd zs k)) := by
  unfold iVals zd; simp [h, List.getD]
theorem uVals_len (xs : List Nat) : (uVals xs).length = xs.length := by simp [uVals]
theorem iVals_len (zs : List Int) : (iVals zs).length = zs.length := by simp [iVals]
theorem uVals_snoc (xs : List Nat) (x : Nat) : uVals xs ++ [.int .u64 (x : Int)] = uVals (xs ++ [x]) := by simp [uVals]
theorem iVals_snoc (zs : List Int) (z : Int) : iVals zs ++ [.int .i64 z] = iVals (zs ++ [z]) := by simp [iVals]

/-- what an owned row looks like -/
theorem own_shape {w : World} {base n : Nat} {e : TypeId} {v : Value} {xs : List Value} (h : w.ownsRow base e 1 v n xs) (hn : 0 < n) :
    ∃ g cap, v = .slice (some ⟨g, 0, none⟩) n cap ∧ base ≤ g ∧ g < w.heap.size := by
  rcases h.2 with ⟨_, h0⟩ | ⟨g, cap, cur, hv, hb, hg, _⟩
  · omega
  · refine ⟨g, cap, hv, hb, ?_⟩
    rcases Nat.lt_or_ge g w.heap.size with hlt | hge
    · exact hlt
    · rw [Array.getElem?_eq_none hge] at hg; cases hg
theorem own_any {w : World} {base n : Nat} {e : TypeId} {v : Value} {xs : List Value} (h : w.ownsRow base e 1 v n xs) : ∃ A cap, v = .slice A n cap := by
  rcases h.2 with ⟨rfl, rfl⟩ | ⟨g, cap, cur, hv, _⟩
  · exact ⟨_, _, rfl⟩
  · exact ⟨_, _, hv⟩
theorem own_rd {w : World} {base n c : Nat} {e : TypeId} {A : Option Addr} {xs : List Value} {f : Nat → Value} (h : w.ownsRow base e 1 (.slice A n c) n xs) (hf : ∀ k, k < n → xs[k]? = some (f k)) : Rd w w.heap.size A n f := fun hn => by
  obtain ⟨g, cap, hv, _, hg⟩ := own_shape h hn
  injection hv with hA _ hc
  subst hA
  subst hc
  refine ⟨g, 0, rfl, hg, fun k hk => ?_⟩
  rw [Nat.zero_add, h.cellAt k (by omega)]
  exact hf k hk
theorem own_rdU {w : World} {base : Nat} {e : TypeId} {v : Value} {xs : List Nat} (h : w.ownsRow base e 1 v xs.length (uVals xs)) (hlt : ∀ k, wd xs k < 18446744073709551616) (hroom : xs.length ≤ 1152921504606846976) :
    ∃ A c, v = .slice A xs.length c ∧ RdU w w.heap.size A xs := by
  obtain ⟨A, c, rfl⟩ := own_any h
  exact ⟨A, c, rfl, hlt, hroom, own_rd h fun k hk => uVals_at xs k hk⟩
theorem own_rdI {w : World} {base : Nat} {e : TypeId} {v : Value} {zs : List Int} (h : w.ownsRow base e 1 v zs.length (iVals zs)) (hlo : ∀ k, -9223372036854775808 ≤ zd zs k) (hhi : ∀ k, zd zs k ≤ 9223372036854775807) (hroom : zs.length ≤ 1152921504606846976) :
    ∃ A c, v = .slice A zs.length c ∧ RdI w w.heap.size A zs := by
  obtain ⟨A, c, rfl⟩ := own_any h
  exact ⟨A, c, rfl, hlo, hhi, hroom, own_rd h fun k hk => iVals_at zs k hk⟩

theorem own_base {w : World} {base n size : Nat} {e : TypeId} {v : Value} {xs : List Value} (h : w.ownsRow base e size v n xs) : ∀ k, v.ownBlock = some k → base ≤ k := by
  intro k hk
  rcases h.2 with ⟨rfl, _⟩ | ⟨g, cap, cur, rfl, hb, _⟩
  · simp [Value.ownBlock] at hk
  · have : g = k := by simpa [Value.ownBlock] using hk
    omega
/-- append of one element: what stays below -/
theorem below_app {W wr w1 : World} {base n : Nat} {e : TypeId} {v : Value} {xs : List Value} (hB : Below base W wr) (hs : base ≤ wr.heap.size) (h : wr.ownsRow base e 1 v n xs) {o : Obj} (hg : (wr.alloc o).grownBy w1 v.ownBlock) : Below base W w1 :=
  (hB.alloc hs o).grown hg (by simp; omega) (own_base h)

end Go.Proofs.YtaboafkpmgadmaaDoor

namespace Go.Proofs.YtaboafkpmgadmaaDoor

def andN (x y : Nat) : Nat := x &&& y
def orN (x y : Nat) : Nat := x ||| y
/-- x without y -/
def lessN (x y : Nat) : Nat := x &&& (18446744073709551615 - y)

theorem andN_lt (x y : Nat) (hx : x < 18446744073709551616) : andN x y < 18446744073709551616 := Nat.lt_of_le_of_lt Nat.and_le_left hx
theorem orN_lt (x y : Nat) (hx : x < 18446744073709551616) (hy : y < 18446744073709551616) : orN x y < 18446744073709551616 := by
  have : x ||| y < 2 ^ 64 := Nat.or_lt_two_pow (by omega) (by omega)
  unfold orN; omega
theorem lessN_lt (x y : Nat) (hx : x < 18446744073709551616) : lessN x y < 18446744073709551616 := Nat.lt_of_le_of_lt Nat.and_le_left hx
theorem testBit_lessN (x y : Nat) (hy : y < 18446744073709551616) (j : Nat) (hj : j < 64) : (lessN x y).testBit j = (x.testBit j && !y.testBit j) := by
  have h : (2 ^ 64 - (y + 1)).testBit j = (decide (j < 64) && !y.testBit j) := Nat.testBit_two_pow_sub_succ (by omega) j
  have e : 18446744073709551615 - y = 2 ^ 64 - (y + 1) := by omega
  unfold lessN
  rw [Nat.testBit_and, e, h]
  simp [hj]

/-- the least n such that h is 0 from n on, below N -/
def trim (h : Nat → Nat) : Nat → Nat
  | 0 => 0
  | n + 1 => if h n = 0 then trim h n else n + 1
theorem trim_le (h : Nat → Nat) (n : Nat) : trim h n ≤ n := by
  induction n with
  | zero => simp [trim]
  | succ n ih => simp only [trim]; split <;> omega
theorem trim_zero (h : Nat → Nat) (n : Nat) (hn : h n = 0) : trim h (n + 1) = trim h n := by simp [trim, hn]
theorem trim_stop (h : Nat → Nat) (n : Nat) (hn : h n ≠ 0) : trim h (n + 1) = n + 1 := by simp [trim, hn]
theorem trim_above (h : Nat → Nat) (n k : Nat) (h1 : trim h n ≤ k) (h2 : k < n) : h k = 0 := by
  induction n with
  | zero => omega
  | succ n ih =>
    by_cases h0 : h n = 0
    · rw [trim_zero h n h0] at h1
      by_cases e : k = n
      · rw [e]; exact h0
      · exact ih h1 (by omega)
    · rw [trim_stop h n h0] at h1
      omega
theorem trim_last (h : Nat → Nat) (n : Nat) (hp : 0 < trim h n) : h (trim h n - 1) ≠ 0 := by
  induction n with
  | zero => simp [trim] at hp
  | succ n ih =>
    by_cases h0 : h n = 0
    · rw [trim_zero h n h0] at hp ⊢
      exact ih hp
    · rw [trim_stop h n h0]
      simpa using h0

/-- no last word is zero -/
def NoTail (xs : List Nat) : Prop := xs = [] ∨ wd xs (xs.length - 1) ≠ 0
theorem wd_map (h : Nat → Nat) (n k : Nat) : wd ((List.range n).map h) k = if k < n then h k else 0 := by
  unfold wd
  by_cases hk : k < n <;> simp [List.getD, hk]
theorem ext_wd (xs ys : List Nat) (hl : xs.length = ys.length) (h : ∀ k, k < xs.length → wd xs k = wd ys k) : xs = ys := by
  apply List.ext_getElem hl
  intro i h1 h2
  have := h i h1
  unfold wd at this
  simpa [List.getD, h1, h2] using this
theorem noTail_le {xs ys : List Nat} (hx : NoTail xs) (h : ∀ k, wd xs k = wd ys k) : xs.length ≤ ys.length := by
  rcases hx with rfl | hx
  · simp
  · rcases Nat.lt_or_ge ys.length xs.length with hlt | hge
    · rw [h, wd_out ys _ (by omega)] at hx
      exact absurd rfl hx
    · exact hge
/-- two lists without a zero at the end that have the same words are the same -/
theorem noTail_ext {xs ys : List Nat} (hx : NoTail xs) (hy : NoTail ys) (h : ∀ k, wd xs k = wd ys k) : xs = ys :=
  ext_wd xs ys (Nat.le_antisymm (noTail_le hx h) (noTail_le hy fun k => (h k).symm)) fun k _ => h k

/-- word by word, and no zero at the end -/
def mrg (f : Nat → Nat → Nat) (xs ys : List Nat) : List Nat :=
  (List.range (trim (fun k => f (wd xs k) (wd ys k)) (max xs.length ys.length))).map (fun k => f (wd xs k) (wd ys k))
theorem mrg_wd {f : Nat → Nat → Nat} (h0 : f 0 0 = 0) (xs ys : List Nat) (k : Nat) : wd (mrg f xs ys) k = f (wd xs k) (wd ys k) := by
  unfold mrg
  rw [wd_map]
  split
  · rfl
  · by_cases hk : k < max xs.length ys.length
    · exact (trim_above (fun k => f (wd xs k) (wd ys k)) _ k (by omega) hk).symm
    · rw [wd_out xs k (by omega), wd_out ys k (by omega), h0]
theorem mrg_len (f : Nat → Nat → Nat) (xs ys : List Nat) : (mrg f xs ys).length = trim (fun k => f (wd xs k) (wd ys k)) (max xs.length ys.length) := by simp [mrg]
theorem mrg_le (f : Nat → Nat → Nat) (xs ys : List Nat) : (mrg f xs ys).length ≤ max xs.length ys.length := by rw [mrg_len]; exact trim_le _ _
theorem mrg_noTail (f : Nat → Nat → Nat) (xs ys : List Nat) : NoTail (mrg f xs ys) := by
  by_cases h : (mrg f xs ys).length = 0
  · exact .inl (List.length_eq_zero_iff.1 h)
  · right
    have hl := mrg_len f xs ys
    have ht := trim_last (fun k => f (wd xs k) (wd ys k)) (max xs.length ys.length) (by omega)
    rw [hl]
    unfold mrg
    rw [wd_map, if_pos (by omega)]
    exact ht
/-- a list whose words are f's, with no zero at the end, is the merge -/
theorem mrg_uniq {f : Nat → Nat → Nat} (h0 : f 0 0 = 0) {xs ys zs : List Nat} (hz : NoTail zs) (h : ∀ k, wd zs k = f (wd xs k) (wd ys k)) : mrg f xs ys = zs :=
  noTail_ext (mrg_noTail f xs ys) hz fun k => by rw [mrg_wd h0, h]
theorem eq_of_bits {a b : Nat} (ha : a < 18446744073709551616) (hb : b < 18446744073709551616) (h : ∀ j, j < 64 → a.testBit j = b.testBit j) : a = b := by
  apply Nat.eq_of_testBit_eq
  intro i
  by_cases hi : i < 64
  · exact h i hi
  · have p : 2 ^ 64 ≤ 2 ^ i := Nat.pow_le_pow_right (by omega) (by omega)
    rw [Nat.testBit_lt_two_pow (by omega), Nat.testBit_lt_two_pow (by omega)]
theorem andN_lt' (xs ys : List Nat) (hx : ∀ k, wd xs k < 18446744073709551616) (k : Nat) : andN (wd xs k) (wd ys k) < 18446744073709551616 := andN_lt _ _ (hx k)

/-- bit n of a set -/
def bitB (xs : List Nat) (n : Nat) : Bool := (wd xs (n / 64)).testBit (n % 64)

/-- the list with zeros up to word m -/
def ext (L : List Nat) (m : Nat) : List Nat := L ++ List.replicate (m + 1 - L.length) 0
theorem ext_len (L : List Nat) (m : Nat) (h : L.length ≤ m + 1) : (ext L m).length = m + 1 := by simp [ext]; omega
theorem wd_ext (L : List Nat) (m k : Nat) : wd (ext L m) k = wd L k := by
  unfold wd ext
  by_cases hk : k < L.length
  · simp [List.getD, List.getElem?_append_left hk]
  · simp only [List.getD]
    rw [List.getElem?_append_right (by omega), List.getElem?_eq_none (by omega : L.length ≤ k)]
    by_cases h2 : k - L.length < m + 1 - L.length <;> simp [h2]
theorem wd_set (L : List Nat) (m k x : Nat) (hm : m < L.length) : wd (L.set m x) k = if k = m then x else wd L k := by
  unfold wd
  by_cases e : k = m
  · subst e; simp [List.getD, hm]
  · simp only [List.getD, if_neg e]; rw [List.getElem?_set_ne (by omega)]
/-- number i put into the list -/
def put (L : List Nat) (i : Nat) : List Nat := (ext L (i / 64)).set (i / 64) (wd L (i / 64) + 2 ^ (i % 64))
theorem put_len (L : List Nat) (i : Nat) (h : L.length ≤ i / 64 + 1) : (put L i).length = i / 64 + 1 := by
  unfold put; rw [List.length_set]; exact ext_len L _ h
theorem wd_put (L : List Nat) (i k : Nat) (h : L.length ≤ i / 64 + 1) : wd (put L i) k = if k = i / 64 then wd L (i / 64) + 2 ^ (i % 64) else wd L k := by
  unfold put
  rw [wd_set _ _ _ _ (by rw [ext_len L _ h]; omega), wd_ext]
/-- the numbers below i at which p holds, put one by one -/
def awl (p : Nat → Bool) : Nat → List Nat
  | 0 => []
  | i + 1 => if p i then put (awl p i) i else awl p i
theorem awl_yes (p : Nat → Bool) (i : Nat) (h : p i = true) : awl p (i + 1) = put (awl p i) i := by simp [awl, h]
theorem awl_no (p : Nat → Bool) (i : Nat) (h : p i = false) : awl p (i + 1) = awl p i := by simp [awl, h]
theorem awl_len (p : Nat → Bool) (i : Nat) : (awl p i).length ≤ (i + 63) / 64 := by
  induction i with
  | zero => simp [awl]
  | succ i ih =>
    by_cases h : p i = true
    · rw [awl_yes p i h, put_len _ _ (by omega)]; omega
    · rw [awl_no p i (by simpa using h)]; omega
theorem add_bit (x r j : Nat) (hx : x < 2 ^ r) : (x + 2 ^ r).testBit j = (decide (j = r) || x.testBit j) := by
  have e : x + 2 ^ r = 2 ^ r * 1 + x := by omega
  rw [e, Nat.testBit_two_pow_mul_add _ hx]
  by_cases h : j < r
  · simp [h]; omega
  · have hx2 : x.testBit j = false := Nat.testBit_lt_two_pow (Nat.lt_of_lt_of_le hx (Nat.pow_le_pow_right (by omega) (by omega)))
    rw [if_neg h, hx2]
    by_cases e : j = r
    · subst e; simp
    · have : 0 < j - r := by omega
      obtain ⟨d, hd⟩ : ∃ d, j - r = d + 1 := ⟨j - r - 1, by omega⟩
      rw [hd]
      simp [Nat.testBit_succ, e]
theorem awl_ok (p : Nat → Bool) (i : Nat) : (∀ k, wd (awl p i) k < 18446744073709551616) ∧ (∀ k j, j < 64 → (wd (awl p i) k).testBit j = (decide (64 * k + j < i) && p (64 * k + j))) ∧ NoTail (awl p i) := by
  induction i with
  | zero => exact ⟨fun k => by simp [awl, wd], fun k j hj => by simp [awl, wd], .inl rfl⟩
  | succ i ih =>
    obtain ⟨h1, h2, h3⟩ := ih
    by_cases h : p i = true
    · rw [awl_yes p i h]
      have hl : (awl p i).length ≤ i / 64 + 1 := by have := awl_len p i; omega
      have hx : wd (awl p i) (i / 64) < 2 ^ (i % 64) := by
        apply Nat.lt_pow_two_of_testBit
        intro j hj
        by_cases hj2 : j < 64
        · rw [h2 _ j hj2]
          have : ¬ 64 * (i / 64) + j < i := by omega
          simp [this]
        · have p2 : 2 ^ 64 ≤ 2 ^ j := Nat.pow_le_pow_right (by omega) (by omega)
          have := h1 (i / 64)
          exact Nat.testBit_lt_two_pow (by omega)
      have hr : 2 ^ (i % 64) ≤ 2 ^ 63 := Nat.pow_le_pow_right (by omega) (by omega)
      have hr2 : 0 < 2 ^ (i % 64) := Nat.pow_pos (by omega)
      refine ⟨fun k => ?_, fun k j hj => ?_, .inr ?_⟩
      · rw [wd_put _ _ _ hl]
        split
        · omega
        · exact h1 k
      · rw [wd_put _ _ _ hl]
        split
        · next e =>
          subst e
          rw [add_bit _ _ _ hx, h2 _ j hj]
          by_cases e : j = i % 64
          · have e2 : 64 * (i / 64) + j = i := by omega
            rw [e2, h]
            simp [e]
          · have hiff : (64 * (i / 64) + j < i + 1) ↔ (64 * (i / 64) + j < i) := by omega
            simp [e, hiff]
        · next e =>
          rw [h2 k j hj]
          have hiff : (64 * k + j < i + 1) ↔ (64 * k + j < i) := by omega
          simp [hiff]
      · rw [put_len _ _ hl, wd_put _ _ _ hl, if_pos (by omega)]
        omega
    · have h' : p i = false := by simpa using h
      rw [awl_no p i h']
      refine ⟨h1, fun k j hj => ?_, h3⟩
      rw [h2 k j hj]
      by_cases e : 64 * k + j = i
      · simp [e, h']
      · have hiff : (64 * k + j < i + 1) ↔ (64 * k + j < i) := by omega
        simp [hiff]
/-- what the reference's choice by bits makes is the merge by words -/
theorem awl_mrg {f : Nat → Nat → Nat} {F : Bool → Bool → Bool} (h0 : f 0 0 = 0) (hF : F false false = false) (hlt : ∀ x y, x < 18446744073709551616 → y < 18446744073709551616 → f x y < 18446744073709551616)
    (hf : ∀ x y j, x < 18446744073709551616 → y < 18446744073709551616 → j < 64 → (f x y).testBit j = F (x.testBit j) (y.testBit j)) (xs ys : List Nat)
    (hx : ∀ k, wd xs k < 18446744073709551616) (hy : ∀ k, wd ys k < 18446744073709551616) :
    mrg f xs ys = awl (fun n => F (bitB xs n) (bitB ys n)) (64 * max xs.length ys.length) := by
  obtain ⟨h1, h2, h3⟩ := awl_ok (fun n => F (bitB xs n) (bitB ys n)) (64 * max xs.length ys.length)
  refine mrg_uniq h0 h3 fun k => eq_of_bits (h1 k) (hlt _ _ (hx k) (hy k)) fun j hj => ?_
  rw [h2 k j hj, hf _ _ j (hx k) (hy k) hj]
  have e1 : (64 * k + j) / 64 = k := by omega
  have e2 : (64 * k + j) % 64 = j := by omega
  unfold bitB
  rw [e1, e2]
  by_cases hk : k < max xs.length ys.length
  · have : 64 * k + j < 64 * max xs.length ys.length := by omega
    simp [this]
  · rw [wd_out xs k (by omega), wd_out ys k (by omega)]
    simp [hF]

end Go.Proofs.YtaboafkpmgadmaaDoor

namespace Go.Proofs.YtaboafkpmgadmaaDoor
open Go.RowKit
set_option maxRecDepth 100000

theorem word_any (A : Option Addr) (c i : Nat) (xs : List Nat) (w : World) (hx : RdU w w.heap.size A xs) (hi : i ≤ 1152921504606846976) :
    Calls Tryd.prog 107 #[.slice A xs.length c, .int .i64 i] w fun e w' => e = .returned (.int .u64 (wd xs i : Int)) ∧ w = w' := by
  have hr := hx.room
  by_cases hlt : i < xs.length
  · obtain ⟨b, off, rfl, _, hc⟩ := hx.rd (by omega)
    have hci := hc i hlt
    clear hc
    go_enter Tryd.func107, Tryd.ntmps107
    go_wp2
    go_ret
    exact ⟨rfl, rfl⟩
  · have h0 := wd_out xs i (by omega)
    rw [h0]
    clear h0
    go_enter Tryd.func107, Tryd.ntmps107
    go_wp2
    go_ret
    exact ⟨rfl, rfl⟩

theorem ret_b {a b : Bool} (h : a = b) : Ending.returned (.bool a) = .returned (.bool b) := by rw [h]
theorem ret_n {k : IntKind} {a b : Int} (h : a = b) : Ending.returned (.int k a) = .returned (.int k b) := by rw [h]

theorem and1_any (a b : Nat) (w : World) (ha : a < 18446744073709551616) (hb : b < 18446744073709551616) :
    Calls Tryd.prog 106 #[.int .u64 (a : Int), .int .u64 (b : Int)] w fun e w' => e = .returned (.int .u64 (andN a b : Int)) ∧ w = w' := by
  have e : bits .and .u64 (a : Int) (b : Int) = (andN a b : Int) := u64_and_nat a b ha hb
  go_enter Tryd.func106, Tryd.ntmps106
  go_wp2
  go_ret
  exact ⟨rfl, rfl⟩
theorem or1_any (a b : Nat) (w : World) (ha : a < 18446744073709551616) (hb : b < 18446744073709551616) :
    Calls Tryd.prog 85 #[.int .u64 (a : Int), .int .u64 (b : Int)] w fun e w' => e = .returned (.int .u64 (orN a b : Int)) ∧ w = w' := by
  have e : bits .or .u64 (a : Int) (b : Int) = (orN a b : Int) := u64_or_nat a b ha hb
  go_enter Tryd.func85, Tryd.ntmps85
  go_wp2
  go_ret
  exact ⟨rfl, rfl⟩
theorem less1_any (a b : Nat) (w : World) (ha : a < 18446744073709551616) (hb : b < 18446744073709551616) :
    Calls Tryd.prog 99 #[.int .u64 (a : Int), .int .u64 (b : Int)] w fun e w' => e = .returned (.int .u64 (lessN a b : Int)) ∧ w = w' := by
  have e : bits .andNot .u64 (a : Int) (b : Int) = (lessN a b : Int) := u64_andNot_nat a b ha hb
  go_enter Tryd.func99, Tryd.ntmps99
  go_wp2
  go_ret
  exact ⟨rfl, rfl⟩

/-- is every word of xs within that of ys? -/
def inB (xs ys : List Nat) : Bool := decide (∀ k, k < xs.length → lessN (wd xs k) (wd ys k) = 0)

theorem within_any (A A' : Option Addr) (c c' : Nat) (xs ys : List Nat) (w : World) (hx : RdU w w.heap.size A xs) (hy : RdU w w.heap.size A' ys) :
    Calls Tryd.prog 74 #[.slice A xs.length c, .slice A' ys.length c'] w fun e w' =>
      e = .returned (.bool (inB xs ys)) ∧ w = w' := by
  have hr := hx.room
  go_enter Tryd.func74, Tryd.ntmps74
  go_wp2
  go_loop [9] (fun i => ∃ k : Nat, k ≤ xs.length ∧ i = .int .i64 k ∧ Hid (∀ j, j < k → lessN (wd xs j) (wd ys j) = 0)) (fun i => xs.length - (intOf i).toNat)
  case atStart => exact ⟨0, Nat.zero_le _, rfl, fun j hj => by omega⟩
  case round =>
    obtain ⟨k, hk, rfl, hall⟩ := hrel
    by_cases hlt : k < xs.length
    · obtain ⟨b, off, rfl, _, hc⟩ := hx.rd (by omega)
      have hci := hc k hlt
      clear hc
      have e : bits .andNot .u64 (wd xs k : Int) (wd ys k : Int) = (lessN (wd xs k) (wd ys k) : Int) := u64_andNot_nat (wd xs k) (wd ys k) (hx.lt k) (hy.lt k)
      go_wp2_with (go_at_call 107; refine (word_any _ _ _ _ _ hy (by omega)).mono ?_; rintro e w' ⟨rfl, rfl⟩)
      · have hne : ((lessN (wd xs k) (wd ys k) : Int) != 0) = true := by assumption
        go_ret
        exact ⟨ret_b (by unfold inB; symm; rw [decide_eq_false_iff_not]; intro hh; have := hh k hlt; simp [this] at hne), rfl⟩
      · have heq : ((lessN (wd xs k) (wd ys k) : Int) != 0) = false := by assumption
        have h0 : lessN (wd xs k) (wd ys k) = 0 := by simpa using heq
        go_round
        case rel => exact ⟨k + 1, by omega, by go_num, fun j hj => by
          rcases Nat.lt_succ_iff_lt_or_eq.1 hj with h | h
          · exact hall.out j h
          · subst h; exact h0⟩
        case measure => simp [intOf]; omega
    · go_wp2
      go_ret
      exact ⟨ret_b (by unfold inB; symm; rw [decide_eq_true_iff]; intro j hj; exact hall.out j (by omega)), rfl⟩

/-- slices.Equal over words -/
theorem equalU_any (A A' : Option Addr) (c c' : Nat) (xs ys : List Nat) (w : World) (hx : RdU w w.heap.size A xs) (hy : RdU w w.heap.size A' ys) :
    Calls Tryd.prog 57 #[.slice A xs.length c, .slice A' ys.length c'] w fun e w' =>
      e = .returned (.bool (decide (xs = ys))) ∧ ∃ n, w' = w.drewN n := by
  have hr := hx.room
  have hr' := hy.room
  by_cases hlen : xs.length = ys.length
  · have hl : ((xs.length : Int) != (ys.length : Int)) = false := by simp; omega
    have HL := Lib.hid hlen
    clear hlen
    go_enter Tryd.func57, Tryd.ntmps57
    go_wp2
    go_loopw [13] (fun i wr => ∃ k n : Nat, k ≤ xs.length ∧ i = .int .i64 k ∧ wr = w.drewN n ∧ Hid (∀ j, j < k → wd xs j = wd ys j)) (fun i _ => xs.length - (intOf i).toNat)
    case atStart => exact ⟨0, 0, Nat.zero_le _, rfl, rfl, fun j hj => by omega⟩
    case round =>
      obtain ⟨k, n, hk, rfl, rfl, hall⟩ := hrel
      by_cases hlt : k < xs.length
      · have hlt' : k < ys.length := by have := HL.out; omega
        obtain ⟨b, off, rfl, _, hc⟩ := hx.rd (by omega)
        obtain ⟨b', off', rfl, _, hc'⟩ := hy.rd (by omega)
        have hci := hc k hlt
        have hci' := hc' k hlt'
        clear hc hc'
        by_cases he : wd xs k = wd ys k
        · have hb : ((wd xs k : Int) != (wd ys k : Int)) = false := by simp [he]
          have HE := Lib.hid he
          clear he
          go_wp2
          go_quiet (fail)
          go_wp2
          go_roundw
          case rel => exact ⟨k + 1, _, by omega, by go_num, rfl, fun j hj => by
            rcases Nat.lt_succ_iff_lt_or_eq.1 hj with h | h
            · exact hall.out j h
            · subst h; exact HE.out⟩
          case measure => simp [intOf]; omega
        · have hb : ((wd xs k : Int) != (wd ys k : Int)) = true := by simp; omega
          go_wp2
          go_quiet (fail)
          go_wp2
          go_ret
          exact ⟨ret_b (by symm; rw [decide_eq_false_iff_not]; rintro rfl; exact he rfl), _, World.drewN_drewN _ _ _⟩
      · go_wp2
        go_ret
        have := HL.out
        exact ⟨ret_b (by symm; rw [decide_eq_true_iff]; exact ext_wd xs ys (by omega) fun j hj => hall.out j (by omega)), _, rfl⟩
  · have hne : decide (xs = ys) = false := by
      rw [decide_eq_false_iff_not]; rintro rfl; exact hlen rfl
    have hl : ((xs.length : Int) != (ys.length : Int)) = true := by simp; omega
    go_enter Tryd.func57, Tryd.ntmps57
    go_wp2
    go_ret
    exact ⟨ret_b hne.symm, 0, rfl⟩

theorem bit_div (x j : Nat) : x.testBit j = decide (x / 2 ^ j % 2 = 1) := Nat.testBit_eq_decide_div_mod_eq
theorem half_step (x j : Nat) : x / 2 ^ j / 2 = x / 2 ^ (j + 1) := by rw [Nat.div_div_eq_div_mul, ← Nat.pow_succ]
theorem half_lt (x j : Nat) (h : x < 18446744073709551616) : x / 2 ^ j < 18446744073709551616 := Nat.lt_of_le_of_lt (Nat.div_le_self _ _) h

theorem odd_b (x : Nat) : ((x : Int) % 2 == 1) = decide (x % 2 = 1) := by rw [Bool.eq_iff_iff]; simp; omega
def hv (x j : Nat) : Nat := x / 2 ^ j
theorem abit_any (A : Option Addr) (c n : Nat) (xs : List Nat) (w : World) (hx : RdU w w.heap.size A xs) (hn : n ≤ 4611686018427387904) :
    Calls Tryd.prog 119 #[.slice A xs.length c, .int .i64 n] w fun e w' => e = .returned (.bool (bitB xs n)) ∧ w = w' := by
  have hr := hx.room
  by_cases hlt : n / 64 < xs.length
  · obtain ⟨b, off, rfl, _, hc⟩ := hx.rd (by omega)
    have hci := hc (n / 64) hlt
    have hwl := hx.lt (n / 64)
    clear hc
    go_enter Tryd.func119, Tryd.ntmps119
    go_wp2
    go_loop [5, 18] (fun x i => ∃ j : Nat, j ≤ n % 64 ∧ i = .int .i64 j ∧ x = .int .u64 (hv (wd xs (n / 64)) j : Int)) (fun _ i => 64 - (intOf i).toNat)
    case atStart => exact ⟨0, Nat.zero_le _, rfl, by simp [hv]⟩
    case round =>
      obtain ⟨j, hj, rfl, rfl⟩ := hrel
      have hh : hv (wd xs (n / 64)) j < 18446744073709551616 := half_lt _ _ hwl
      by_cases hjl : j < n % 64
      · go_wp2
        go_round
        case rel => exact ⟨j + 1, by omega, by go_num, by unfold hv; rw [← half_step]; simp⟩
        case measure => simp [intOf]; omega
      · go_wp2
        go_ret
        exact ⟨ret_b (by obtain rfl : j = n % 64 := by omega
                         unfold bitB; rw [bit_div]; unfold hv; exact odd_b _), rfl⟩
  · have hnl : (bitB xs n) = false := by unfold bitB; rw [wd_out xs _ (by omega)]; simp
    rw [hnl]
    clear hnl
    go_enter Tryd.func119, Tryd.ntmps119
    go_wp2
    go_ret
    exact ⟨rfl, rfl⟩
end Go.Proofs.YtaboafkpmgadmaaDoor
