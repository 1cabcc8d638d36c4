/-
  OrderLevels, plain mathematics: raising the ends of edges until nothing stands too low gives the longest ways, whatever the order it is done in; the chain that goes back from the top.
-/
import Derived.Test.YtaboafkpmgadmaaDoorGrM
namespace Go.Proofs.YtaboafkpmgadmaaDoor

/-- a way of n edges that ends at b -/
inductive Wk (R : Nat → Nat → Bool) : Nat → Nat → Prop
  | zero (b : Nat) : Wk R 0 b
  | step {n a b : Nat} : R a b = true → Wk R n a → Wk R (n + 1) b
/-- in a whole order a way is no longer than what stands ahead -/
theorem Wk.lt {R : Nat → Nat → Bool} {N : Nat} {d : List Nat} (hg : Good R N d) (hR : ∀ i j, R i j = true → i < N ∧ j < N) {n b : Nat} (h : Wk R n b) : ∀ i, d[i]? = some b → n ≤ i := by
  induction h with
  | zero b => intro i _; exact Nat.zero_le _
  | @step n a b e _ ih =>
    intro i hi
    have hm := hg.pre i b hi a (hR _ _ e).1 e
    obtain ⟨j, hj, ej⟩ := List.getElem_of_mem hm
    rw [List.getElem_take] at ej
    have hjl : j < d.length := by simp at hj; omega
    have := ih j (by rw [List.getElem?_eq_getElem hjl, ej])
    simp at hj
    omega
theorem Wk.lt_N {R : Nat → Nat → Bool} {N : Nat} {d : List Nat} (hg : Good R N d) (hl : d.length = N) (hR : ∀ i j, R i j = true → i < N ∧ j < N) {n b : Nat} (h : Wk R n b) (hb : b < N) : n < N := by
  obtain ⟨i, hi, e⟩ := List.getElem_of_mem (hg.all (by omega) hb)
  have := h.lt hg hR i (by rw [List.getElem?_eq_getElem hi, e])
  omega

/-- the end of an edge stands above its start -/
def rlx (f : Nat → Nat) (e : Nat × Nat) : Nat → Nat := fun k => if k = e.2 then max (f e.2) (f e.1 + 1) else f k
def Snd (R : Nat → Nat → Bool) (f : Nat → Nat) : Prop := ∀ b, Wk R (f b) b
theorem Snd.zero (R : Nat → Nat → Bool) : Snd R (fun _ => 0) := fun b => .zero b
theorem Snd.rlx {R : Nat → Nat → Bool} {f : Nat → Nat} (h : Snd R f) {e : Nat × Nat} (he : R e.1 e.2 = true) : Snd R (rlx f e) := by
  intro b
  unfold Proofs.YtaboafkpmgadmaaDoor.rlx
  by_cases hb : b = e.2
  · subst hb
    rw [if_pos rfl]
    rcases Nat.le_total (f e.2) (f e.1 + 1) with h1 | h1
    · rw [Nat.max_eq_right h1]; exact .step he (h _)
    · rw [Nat.max_eq_left h1]; exact h _
  · rw [if_neg hb]; exact h b
theorem rlx_le (f : Nat → Nat) (e : Nat × Nat) (k : Nat) : f k ≤ rlx f e k := by
  unfold rlx; split
  · rename_i h; subst h; omega
  · omega
theorem rlx_at (f : Nat → Nat) (e : Nat × Nat) : f e.1 + 1 ≤ rlx f e e.2 := by
  unfold rlx; rw [if_pos rfl]; omega
def rnd (E : List (Nat × Nat)) (f : Nat → Nat) : Nat → Nat := E.foldl rlx f
theorem rnd_snoc (E : List (Nat × Nat)) (e : Nat × Nat) (f : Nat → Nat) : rnd (E ++ [e]) f = rlx (rnd E f) e := by unfold rnd; rw [List.foldl_append]; rfl
theorem rnd_app (E E2 : List (Nat × Nat)) (f : Nat → Nat) : rnd (E ++ E2) f = rnd E2 (rnd E f) := by unfold rnd; rw [List.foldl_append]
theorem rnd_le (E : List (Nat × Nat)) (f : Nat → Nat) (k : Nat) : f k ≤ rnd E f k := by
  induction E generalizing f with
  | nil => exact Nat.le_refl _
  | cons e E ih => exact Nat.le_trans (rlx_le f e k) (ih (rlx f e))
theorem Snd.rnd {R : Nat → Nat → Bool} {f : Nat → Nat} (h : Snd R f) {E : List (Nat × Nat)} (hE : ∀ e, e ∈ E → R e.1 e.2 = true) : Snd R (rnd E f) := by
  induction E generalizing f with
  | nil => exact h
  | cons e E ih => exact ih (h.rlx (hE e (List.mem_cons_self ..))) fun x hx => hE x (List.mem_cons_of_mem _ hx)
/-- what an edge's start had before, its end stands above afterwards -/
theorem rnd_at {E : List (Nat × Nat)} {e : Nat × Nat} (he : e ∈ E) (f : Nat → Nat) : f e.1 + 1 ≤ rnd E f e.2 := by
  obtain ⟨E1, E2, rfl⟩ := List.append_of_mem he
  rw [rnd_app]
  have h1 := rnd_le E1 f e.1
  have h2 := rlx_at (rnd E1 f) e
  have h3 := rnd_le E2 (rlx (rnd E1 f) e) e.2
  show f e.1 + 1 ≤ rnd E2 (rlx (rnd E1 f) e) e.2
  omega
/-- the longest ways -/
structure Lev (R : Nat → Nat → Bool) (f : Nat → Nat) : Prop where
  way : Snd R f
  top : ∀ n b, Wk R n b → n ≤ f b
theorem Lev.uniq {R : Nat → Nat → Bool} {f g : Nat → Nat} (h : Lev R f) (k : Lev R g) : f = g := by
  funext b
  have h1 := k.top _ _ (h.way b)
  have h2 := h.top _ _ (k.way b)
  omega

/-! ### round by round over all edges -/
def rnds (E : List (Nat × Nat)) : Nat → Nat → Nat
  | 0 => fun _ => 0
  | k + 1 => rnd E (rnds E k)
theorem rnds_snd {R : Nat → Nat → Bool} {E : List (Nat × Nat)} (hE : ∀ e, e ∈ E → R e.1 e.2 = true) : ∀ k, Snd R (rnds E k)
  | 0 => Snd.zero R
  | k + 1 => (rnds_snd hE k).rnd hE
theorem rnds_up {R : Nat → Nat → Bool} {E : List (Nat × Nat)} (hE : ∀ a b, R a b = true → (a, b) ∈ E) : ∀ k n b, n ≤ k → Wk R n b → n ≤ rnds E k b
  | 0, n, b, hn, _ => by omega
  | k + 1, n, b, hn, h => by
    cases h with
    | zero => exact Nat.zero_le _
    | @step n a _ e h =>
      have h1 := rnds_up hE k n a (by omega) h
      have h2 := rnd_at (hE _ _ e) (rnds E k)
      show n + 1 ≤ rnd E (rnds E k) b
      dsimp only at h2
      omega
theorem rnds_lev {R : Nat → Nat → Bool} {N : Nat} {d : List Nat} {E : List (Nat × Nat)} (hg : Good R N d) (hl : d.length = N) (hR : ∀ i j, R i j = true → i < N ∧ j < N) (hE : ∀ a b, R a b = true ↔ (a, b) ∈ E) : Lev R (rnds E N) := by
  refine ⟨rnds_snd (fun e he => (hE _ _).2 he) N, fun n b h => ?_⟩
  rcases Nat.lt_or_ge b N with hb | hb
  · exact rnds_up (fun a b => (hE a b).1) N n b (Nat.le_of_lt (h.lt_N hg hl hR hb)) h
  · cases h with
    | zero => exact Nat.zero_le _
    | step e _ => exact absurd (hR _ _ e).2 (by omega)

/-! ### in the order's turn -/
def outs (nx : Nat → List Nat) (a : Nat) : List (Nat × Nat) := (nx a).map fun b => (a, b)
def trn (nx : Nat → List Nat) (d : List Nat) : Nat → Nat := d.foldl (fun f a => rnd (outs nx a) f) (fun _ => 0)
theorem trn_snoc (nx : Nat → List Nat) (d : List Nat) (a : Nat) : trn nx (d ++ [a]) = rnd (outs nx a) (trn nx d) := by unfold trn; rw [List.foldl_append]; rfl
theorem mem_outs {nx : Nat → List Nat} {a : Nat} {e : Nat × Nat} : e ∈ outs nx a ↔ e.1 = a ∧ e.2 ∈ nx a := by
  unfold outs
  rw [List.mem_map]
  constructor
  · rintro ⟨b, hb, rfl⟩; exact ⟨rfl, hb⟩
  · rintro ⟨h1, h2⟩; exact ⟨e.2, h2, by rw [← h1]⟩
theorem trn_snd {R : Nat → Nat → Bool} {nx : Nat → List Nat} (hnx : ∀ a b, R a b = true ↔ b ∈ nx a) (d : List Nat) (k : Nat) : Snd R (trn nx (d.take k)) := by
  induction k with
  | zero => exact Snd.zero R
  | succ k ih =>
    rcases Nat.lt_or_ge k d.length with hk | hk
    · rw [List.take_succ_eq_append_getElem hk, trn_snoc]
      exact ih.rnd fun e he => by
        obtain ⟨h1, h2⟩ := mem_outs.1 he
        exact (hnx _ _).2 (by rw [h1]; exact h2)
    · rw [List.take_of_length_le (by omega)]
      rw [List.take_of_length_le hk] at ih
      exact ih
theorem trn_up {R : Nat → Nat → Bool} {N : Nat} {d : List Nat} {nx : Nat → List Nat} (hg : Good R N d) (hR : ∀ i j, R i j = true → i < N ∧ j < N) (hnx : ∀ a b, R a b = true ↔ b ∈ nx a) :
    ∀ k, k ≤ d.length → ∀ a, a ∈ d.take k → ∀ b, R a b = true → ∀ n, Wk R n a → n + 1 ≤ trn nx (d.take k) b := by
  intro k
  induction k with
  | zero => intro _ a ha; simp at ha
  | succ k ih =>
    intro hk a ha b e n hw
    have hk' : k < d.length := by omega
    rw [List.take_succ_eq_append_getElem hk'] at ha ⊢
    rw [trn_snoc]
    rcases List.mem_append.1 ha with h1 | h1
    · exact Nat.le_trans (ih (by omega) a h1 b e n hw) (rnd_le _ _ _)
    · obtain rfl : a = d[k] := by simpa using h1
      have h2 : n ≤ trn nx (d.take k) d[k] := by
        cases hw with
        | zero => exact Nat.zero_le _
        | @step n a' _ e' hw' => exact ih (by omega) a' (hg.pre k _ (List.getElem?_eq_getElem hk') _ (hR _ _ e').1 e') _ e' n hw'
      have h3 := rnd_at (E := outs nx d[k]) (e := (d[k], b)) (mem_outs.2 ⟨rfl, (hnx _ _).1 e⟩) (trn nx (d.take k))
      dsimp only at h3
      omega
theorem trn_lev {R : Nat → Nat → Bool} {N : Nat} {d : List Nat} {nx : Nat → List Nat} (hg : Good R N d) (hl : d.length = N) (hR : ∀ i j, R i j = true → i < N ∧ j < N) (hnx : ∀ a b, R a b = true ↔ b ∈ nx a) : Lev R (trn nx d) := by
  have h0 := trn_snd hnx d d.length
  rw [List.take_length] at h0
  refine ⟨h0, fun n b h => ?_⟩
  cases h with
  | zero => exact Nat.zero_le _
  | @step n a _ e h =>
    have := trn_up hg hR hnx d.length (Nat.le_refl _) a (by rw [List.take_length]; exact hg.all (by omega) (hR _ _ e).1) b e n h
    rwa [List.take_length] at this
theorem Snd.lt {R : Nat → Nat → Bool} {N : Nat} {d : List Nat} {f : Nat → Nat} (h : Snd R f) (hg : Good R N d) (hl : d.length = N) (hR : ∀ i j, R i j = true → i < N ∧ j < N) {b : Nat} (hb : b < N) : f b < N := (h b).lt_N hg hl hR hb

/-! ### the height -/
def hgt (f : Nat → Nat) : Nat → Nat
  | 0 => 0
  | k + 1 => max (hgt f k) (f k + 1)
theorem hgt_ge (f : Nat → Nat) {N b : Nat} (hb : b < N) : f b < hgt f N := by
  induction N with
  | zero => omega
  | succ N ih =>
    show f b < max (hgt f N) (f N + 1)
    rcases Nat.lt_or_ge b N with h | h
    · have := ih h; omega
    · obtain rfl : b = N := by omega
      omega
theorem hgt_mem (f : Nat → Nat) : ∀ N, 0 < hgt f N → ∃ b, b < N ∧ f b + 1 = hgt f N
  | 0, h => absurd h (by simp [hgt])
  | N + 1, _ => by
    show ∃ b, b < N + 1 ∧ f b + 1 = max (hgt f N) (f N + 1)
    rcases Nat.lt_or_ge (f N + 1) (hgt f N) with h | h
    · obtain ⟨b, h1, h2⟩ := hgt_mem f N (by omega)
      exact ⟨b, by omega, by omega⟩
    · exact ⟨N, by omega, by omega⟩
theorem hgt_le (f : Nat → Nat) {N M : Nat} (h : ∀ b, b < N → f b < M) : hgt f N ≤ M := by
  induction N with
  | zero => exact Nat.zero_le _
  | succ N ih =>
    show max (hgt f N) (f N + 1) ≤ M
    have h1 := ih fun b hb => h b (by omega)
    have h2 := h N (by omega)
    omega
theorem hgt_pos (f : Nat → Nat) {N : Nat} (h : 0 < N) : 0 < hgt f N := Nat.lt_of_le_of_lt (Nat.zero_le _) (hgt_ge f (b := 0) h)

/-! ### the chain, from its end on -/
/-- who may stand ahead of b: one level lower, with an edge to it -/
def fit (R : Nat → Nat → Bool) (f : Nat → Nat) (b a : Nat) : Bool := decide (f a + 1 = f b) && R a b
def prv (R : Nat → Nat → Bool) (f : Nat → Nat) (N b : Nat) : Option Nat := (List.range N).find? (fit R f b)
theorem prv_some {R : Nat → Nat → Bool} {f : Nat → Nat} {N b : Nat} (h : Lev R f) (hR : ∀ i j, R i j = true → i < N ∧ j < N) (hb : 0 < f b) : ∃ a, prv R f N b = some a ∧ a < N ∧ f a + 1 = f b ∧ R a b = true ∧ ∀ y, y < a → fit R f b y = false := by
  cases hp : prv R f N b with
  | some a =>
    obtain ⟨h1, h2, h3⟩ := find_range hp
    unfold fit at h2
    simp only [Bool.and_eq_true, decide_eq_true_eq] at h2
    exact ⟨a, rfl, h1, h2.1, h2.2, h3⟩
  | none =>
    exfalso
    have hno := find_range_none hp
    obtain ⟨n, hn⟩ : ∃ n, f b = n + 1 := ⟨f b - 1, by omega⟩
    have hw := h.way b
    rw [hn] at hw
    cases hw with
    | @step _ a _ e hw =>
      have h1 := h.top _ _ hw
      have h2 := h.top _ _ (.step e (h.way a))
      have := hno a (hR _ _ e).1
      unfold fit at this
      rw [e] at this
      simp at this
      omega
/-- the first of the top -/
def fst0 (f : Nat → Nat) (N : Nat) : Option Nat := (List.range N).find? fun a => decide (f a + 1 = hgt f N)
theorem fst0_some {f : Nat → Nat} {N : Nat} (hN : 0 < N) : ∃ a, fst0 f N = some a ∧ a < N ∧ f a + 1 = hgt f N ∧ ∀ y, y < a → f y + 1 ≠ hgt f N := by
  cases hp : fst0 f N with
  | some a =>
    obtain ⟨h1, h2, h3⟩ := find_range hp
    exact ⟨a, rfl, h1, by simpa using h2, fun y hy => by simpa using h3 y hy⟩
  | none =>
    exfalso
    have hno := find_range_none hp
    obtain ⟨b, h1, h2⟩ := hgt_mem f N (hgt_pos f hN)
    have := hno b h1
    simp at this
    omega
/-- the j-th from the end -/
def chn (R : Nat → Nat → Bool) (f : Nat → Nat) (N : Nat) : Nat → Nat
  | 0 => (fst0 f N).getD 0
  | j + 1 => (prv R f N (chn R f N j)).getD 0
theorem chn_at {R : Nat → Nat → Bool} {f : Nat → Nat} {N : Nat} (h : Lev R f) (hR : ∀ i j, R i j = true → i < N ∧ j < N) : ∀ j, j < hgt f N → chn R f N j < N ∧ f (chn R f N j) + j + 1 = hgt f N
  | 0, hj => by
    have hN : 0 < N := by
      rcases Nat.eq_zero_or_pos N with h0 | h0
      · subst h0; simp [hgt] at hj
      · exact h0
    obtain ⟨a, h1, h2, h3, _⟩ := fst0_some (f := f) hN
    unfold chn
    rw [h1]
    exact ⟨h2, by simpa using h3⟩
  | j + 1, hj => by
    obtain ⟨h1, h2⟩ := chn_at h hR j (by omega)
    obtain ⟨a, h3, h4, h5, _⟩ := prv_some h hR (b := chn R f N j) (by omega)
    unfold chn
    rw [h3]
    simp only [Option.getD_some]
    exact ⟨h4, by omega⟩
/-- the chain in its order -/
def chain (R : Nat → Nat → Bool) (f : Nat → Nat) (N : Nat) : List Nat := (List.range (hgt f N)).map fun i => chn R f N (hgt f N - 1 - i)
/-- its last j -/
def tailC (R : Nat → Nat → Bool) (f : Nat → Nat) (N j : Nat) : List Nat := (List.range j).map fun i => chn R f N (j - 1 - i)
theorem tailC_cons (R : Nat → Nat → Bool) (f : Nat → Nat) (N j : Nat) : tailC R f N (j + 1) = chn R f N j :: tailC R f N j := by
  unfold tailC
  rw [List.range_succ_eq_map, List.map_cons, List.map_map]
  congr 1
  apply List.map_congr_left
  intro i _
  show chn R f N (j + 1 - 1 - (i + 1)) = _
  congr 1
  omega
theorem tailC_all (R : Nat → Nat → Bool) (f : Nat → Nat) (N : Nat) : tailC R f N (hgt f N) = chain R f N := rfl
end Go.Proofs.YtaboafkpmgadmaaDoor
