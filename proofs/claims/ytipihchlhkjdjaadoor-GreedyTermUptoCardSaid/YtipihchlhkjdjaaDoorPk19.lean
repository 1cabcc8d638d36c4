/-
  The chains that a matching makes; in each of them one is the last that was not tried: so there are as many of these as chains, and they are side by side. Plain mathematics.
  Contract of order.fewestChains.
  Contracts of the chain that begins with a node, of order.Cover, of order.Wide.
  GreedyAlone: one worker does all as it is sorted; as many as may be at once take as many rounds as the longest chain has.
-/
import Derived.Test.YtipihchlhkjdjaaDoorPk18
import Derived.Test.YtipihchlhkjdjaaDoorPk13
import Derived.Laws.EntriesVeiled
import Derived.Laws.IdiomCopy
import Derived.Lib.LazyBuf
import Derived.Maps.AppendAt
import Derived.Test.YtipihchlhkjdjaaDoorPk17
import Derived.Test.YtipihchlhkjdjaaDoorPk15
import Derived.Test.YtipihchlhkjdjaaDoorPk14
namespace Go.Proofs.YtipihchlhkjdjaaDoor

/-! ### sums -/
theorem sumN_add (N : Nat) (f g : Nat → Nat) : sumN N (fun a => f a + g a) = sumN N f + sumN N g := by
  induction N with
  | zero => rfl
  | succ N ih =>
    show sumN N (fun a => f a + g a) + (f N + g N) = (sumN N f + f N) + (sumN N g + g N)
    rw [ih]; omega
theorem sumN_swap (N M : Nat) (f : Nat → Nat → Nat) : sumN N (fun a => sumN M fun b => f a b) = sumN M fun b => sumN N fun a => f a b := by
  induction N with
  | zero => exact (sumN_zero fun _ _ => rfl).symm
  | succ N ih =>
    show sumN N (fun a => sumN M fun b => f a b) + sumN M (fun b => f N b) = sumN M fun b => (sumN N fun a => f a b) + f N b
    rw [ih, sumN_add]
theorem sumN_lt {N k : Nat} {g h : Nat → Nat} (hk : k < N) (hgh : ∀ n, n < N → g n ≤ h n) (h1 : g k < h k) : sumN N g < sumN N h := by
  have h2 := sumN_single (N := N) (k := k) (x := h k - g k) (f := fun n => if n = k then h k else g n) (g := g) hk (fun n _ hne => by simp [hne]) (by simp; omega)
  have h3 : sumN N (fun n => if n = k then h k else g n) ≤ sumN N h := sumN_le fun n hn => by
    by_cases e : n = k
    · simp [e]
    · simp [e]; exact hgh n hn
  omega
theorem sumN_const (N c : Nat) : sumN N (fun _ => c) = N * c := by
  induction N with
  | zero => simp [sumN]
  | succ N ih =>
    show sumN N (fun _ => c) + c = _
    rw [ih, Nat.succ_mul]
theorem sumN_front (N : Nat) (f : Nat → Nat) : sumN (N + 1) f = f 0 + sumN N fun k => f (k + 1) := by
  induction N with
  | zero => show 0 + f 0 = f 0 + 0; omega
  | succ N ih =>
    show sumN (N + 1) f + f (N + 1) = f 0 + (sumN N (fun k => f (k + 1)) + f (N + 1))
    rw [ih]; omega
theorem sumN_pick (N : Nat) (q : Nat → Nat) : ∀ o : Option Nat, (∀ k, o = some k → k < N) → sumN N (fun k => if o = some k then q k else 0) = match o with | some k => q k | none => 0 := by
  intro o h
  cases o with
  | none => exact sumN_zero fun n _ => by simp
  | some k =>
    have := sumN_single (N := N) (k := k) (x := q k) (f := fun n => if some k = some n then q n else 0) (g := fun _ => 0) (h k rfl) (fun n _ hne => by simp [Ne.symm hne]) (by simp)
    rw [this, sumN_zero (fun _ _ => rfl)]
    simp
/-- at most one is there -/
theorem sumN_one {N : Nat} {f : Nat → Nat} (h1 : ∀ k, k < N → f k ≤ 1) (h2 : ∀ i j, i < j → j < N → f i = 1 → f j = 1 → False) : sumN N f ≤ 1 := by
  induction N with
  | zero => exact Nat.zero_le _
  | succ N ih =>
    show sumN N f + f N ≤ 1
    have h3 := ih (fun k hk => h1 k (by omega)) fun i j hij hj => h2 i j hij (by omega)
    have h4 := h1 N (by omega)
    by_cases e : f N = 1
    · have : sumN N f = 0 := sumN_zero fun i hi => by
        have := h1 i (by omega)
        by_cases e2 : f i = 1
        · exact (h2 i N hi (by omega) e2 e).elim
        · omega
      omega
    · omega
def cntB (N : Nat) (p : Nat → Bool) : Nat := sumN N fun k => (p k).toNat
theorem cntB_filter (N : Nat) (p : Nat → Bool) : ((List.range N).filter p).length = cntB N p := by
  induction N with
  | zero => rfl
  | succ N ih =>
    rw [List.range_succ, List.filter_append, List.length_append, ih]
    show cntB N p + _ = cntB N p + (p N).toNat
    cases h : p N <;> simp [h]

/-- a strict order of the first m -/
structure So (f : Nat → Nat → Bool) (m : Nat) : Prop where
  irr : ∀ a, f a a = false
  tr : ∀ {a b c}, f a b = true → f b c = true → f a c = true
  lt : ∀ {a b}, f a b = true → a < m ∧ b < m

variable {f : Nat → Nat → Bool} {m : Nat} {B H : Nat → Option Nat} {T : Nat → Bool}

/-- a sum over all that have a next one is one over all that have one before them -/
theorem Mt.sum (hM : Mt f m B H) (q : Nat → Nat) : sumN m (fun a => match H a with | some k => q k | none => 0) = sumN m (fun k => match B k with | some _ => q k | none => 0) := by
  have h1 : sumN m (fun a => match H a with | some k => q k | none => 0) = sumN m fun a => sumN m fun k => if H a = some k then q k else 0 :=
    sumN_congr fun a _ => (sumN_pick m q (H a) fun k hk => (hM.b k a (hM.h a k hk)).2.1).symm
  have h2 : sumN m (fun k => match B k with | some _ => q k | none => 0) = sumN m fun k => sumN m fun a => if H a = some k then q k else 0 := sumN_congr fun k _ => by
    have h3 := sumN_pick m (fun _ => q k) (B k) fun a ha => (hM.b k a ha).1
    have h4 : sumN m (fun a => if H a = some k then q k else 0) = sumN m (fun a => if B k = some a then q k else 0) := sumN_congr fun a _ => by
      by_cases e : H a = some k
      · rw [if_pos e, if_pos (hM.h a k e)]
      · rw [if_neg e, if_neg fun e2 => e (hM.b k a e2).2.2.2]
    rw [h4, h3]
  rw [h1, h2, sumN_swap]

/-- no more can be joined, and what is tried is closed -/
structure Kon (f : Nat → Nat → Bool) (m : Nat) (B H : Nat → Option Nat) (T : Nat → Bool) : Prop where
  mt : Mt f m B H
  free : ∀ n, n < m → H n = none → ∀ j, f n j = true → T j = true
  tried : ∀ k, T k = true → ∃ a, B k = some a ∧ ∀ j, f a j = true → T j = true

/-- the last in its chain that was not tried -/
def lastU (H : Nat → Option Nat) (T : Nat → Bool) (n : Nat) : Bool := !T n && (match H n with | none => true | some k => T k)
/-- who has nobody ahead -/
def start (B : Nat → Option Nat) (n : Nat) : Bool := (B n).isNone

theorem Kon.step (hK : Kon f m B H T) (hS : So f m) {n k : Nat} (hT : T n = true) (hk : H n = some k) : T k = true := by
  obtain ⟨a, ha, hj⟩ := hK.tried n hT
  exact hj k (hS.tr (hK.mt.b n a ha).2.2.1 (hK.mt.b k n (hK.mt.h n k hk)).2.2.1)
theorem Kon.apart (hK : Kon f m B H T) {n j : Nat} (hn : n < m) (h : lastU H T n = true) (hj : lastU H T j = true) : f n j = false := by
  have h1 : ∀ j, f n j = true → T j = true := by
    cases hH : H n with
    | none => exact hK.free n hn hH
    | some k =>
      have hk : T k = true := by simp [lastU, hH] at h; exact h.2
      obtain ⟨a, ha, hj⟩ := hK.tried k hk
      have := hK.mt.h n k hH
      rw [this] at ha
      injection ha with ha
      subst ha
      exact hj
  have h2 : T j = false := by simp [lastU] at hj; exact hj.1
  cases hf : f n j with
  | false => rfl
  | true => rw [h1 j hf] at h2; cases h2
theorem Kon.count (hK : Kon f m B H T) (hS : So f m) : cntB m (lastU H T) = cntB m (start B) := by
  have h1 : cntB m (lastU H T) + sumN m (fun a => match H a with | some k => (!T k).toNat | none => 0) = cntB m fun n => !T n := by
    unfold cntB
    rw [← sumN_add]
    refine sumN_congr fun n _ => ?_
    cases hH : H n with
    | none => simp [lastU, hH]
    | some k =>
      cases hT : T n with
      | true => simp [lastU, hT, hK.step hS hT hH]
      | false => cases hTk : T k <;> simp [lastU, hT, hH, hTk]
  have h2 : cntB m (start B) + sumN m (fun k => match B k with | some _ => (!T k).toNat | none => 0) = cntB m fun n => !T n := by
    unfold cntB
    rw [← sumN_add]
    refine sumN_congr fun n _ => ?_
    cases hB : B n with
    | none =>
      have hT : T n = false := by
        cases hT : T n with
        | false => rfl
        | true => obtain ⟨a, ha, _⟩ := hK.tried n hT; rw [hB] at ha; cases ha
      simp [start, hB, hT]
    | some k => simp [start, hB]
  rw [hK.mt.sum] at h1
  omega

/-! ### the chains -/
/-- who comes k after n -/
def itO (H : Nat → Option Nat) (n : Nat) : Nat → Option Nat
  | 0 => some n
  | k + 1 => (itO H n k).bind H
theorem itO_shift (H : Nat → Option Nat) (n : Nat) : ∀ k, itO H n (k + 1) = (H n).bind fun j => itO H j k
  | 0 => by show (some n).bind H = (H n).bind fun j => some j; cases h : H n <;> simp [h]
  | k + 1 => by
    show (itO H n (k + 1)).bind H = (H n).bind fun j => (itO H j k).bind H
    rw [itO_shift H n k]
    cases H n <;> rfl
theorem itO_down {n : Nat} : ∀ {k v}, itO H n (k + 1) = some v → ∃ u, itO H n k = some u ∧ H u = some v := fun {k v} h => by
  have h : (itO H n k).bind H = some v := h
  cases e : itO H n k with
  | none => rw [e] at h; cases h
  | some u => rw [e] at h; exact ⟨u, rfl, h⟩
theorem itO_some {n k v : Nat} (h : itO H n k = some v) : ∀ j, j ≤ k → ∃ u, itO H n j = some u := fun j hj => by
  induction k generalizing v with
  | zero => obtain rfl : j = 0 := by omega
            exact ⟨v, h⟩
  | succ k ih =>
    by_cases e : j = k + 1
    · subst e; exact ⟨v, h⟩
    · obtain ⟨u, hu, _⟩ := itO_down h
      exact ih hu (by omega)
/-- how many come after -/
def fl (f : Nat → Nat → Bool) (m v : Nat) : Nat := cntB m (f v)
theorem fl_lt (hS : So f m) {a b : Nat} (h : f a b = true) : fl f m b < fl f m a :=
  sumN_lt (hS.lt h).2 (fun j _ => by
    cases hb : f b j with
    | false => exact Nat.zero_le _
    | true => rw [hS.tr h hb]; exact Nat.le_refl _) (by rw [h, hS.irr b]; decide)
theorem fl_top (hS : So f m) {a : Nat} (ha : a < m) : fl f m a < m := by
  have h1 := sumN_lt (N := m) (k := a) (g := fun j => (f a j).toNat) (h := fun _ => 1) ha (fun j _ => by cases f a j <;> decide) (by rw [hS.irr a]; decide)
  rw [sumN_const, Nat.mul_one] at h1
  exact h1
theorem Mt.next (hM : Mt f m B H) {a k : Nat} (h : H a = some k) : a < m ∧ k < m ∧ f a k = true := by
  have := hM.b k a (hM.h a k h)
  exact ⟨this.1, this.2.1, this.2.2.1⟩
theorem itO_fl (hM : Mt f m B H) (hS : So f m) {n : Nat} (hn : n < m) : ∀ {k v}, itO H n k = some v → v < m ∧ fl f m v + k ≤ fl f m n
  | 0, v, h => by
    have h : some n = some v := h
    injection h with h
    subst h
    exact ⟨hn, Nat.le_refl _⟩
  | k + 1, v, h => by
    obtain ⟨u, hu, hv⟩ := itO_down h
    obtain ⟨_, h2⟩ := itO_fl hM hS hn hu
    obtain ⟨_, h3, h4⟩ := hM.next hv
    have := fl_lt hS h4
    exact ⟨h3, by omega⟩
theorem itO_lt (hM : Mt f m B H) (hS : So f m) {n k v : Nat} (hn : n < m) (h : itO H n k = some v) : k < m ∧ v < m := by
  obtain ⟨h1, h2⟩ := itO_fl hM hS hn h
  have := fl_top hS hn
  exact ⟨by omega, h1⟩
theorem itO_f (hM : Mt f m B H) (hS : So f m) {n : Nat} : ∀ {j i u v}, i < j → itO H n i = some u → itO H n j = some v → f u v = true
  | j + 1, i, u, v, hij, hu, hv => by
    obtain ⟨x, hx, hxv⟩ := itO_down hv
    have h4 := (hM.next hxv).2.2
    by_cases e : i = j
    · subst e
      rw [hu] at hx
      injection hx with hx
      subst hx
      exact h4
    · exact hS.tr (itO_f hM hS (by omega) hu hx) h4
/-- the first k of the chain that begins with n -/
def chO (H : Nat → Option Nat) (n k : Nat) : List Nat := (List.range k).filterMap (itO H n)
theorem chO_snoc {n k v : Nat} (h : itO H n k = some v) : chO H n (k + 1) = chO H n k ++ [v] := by
  unfold chO
  rw [List.range_succ, List.filterMap_append]
  simp [h]
theorem chO_none {n k : Nat} (h : itO H n k = none) : ∀ d, chO H n (k + d) = chO H n k
  | 0 => rfl
  | d + 1 => by
    have h2 : itO H n (k + d) = none := by
      cases e : itO H n (k + d) with
      | none => rfl
      | some v => obtain ⟨u, hu⟩ := itO_some e k (by omega); rw [h] at hu; cases hu
    show (List.range (k + d + 1)).filterMap (itO H n) = _
    rw [List.range_succ, List.filterMap_append, show ([k + d].filterMap (itO H n)) = [] by simp [h2], List.append_nil]
    exact chO_none h d
theorem chO_le (n k : Nat) : (chO H n k).length ≤ k := by
  have := List.length_filterMap_le (itO H n) (List.range k)
  rwa [List.length_range] at this
theorem chO_len {n : Nat} : ∀ {k v}, itO H n k = some v → (chO H n k).length = k
  | 0, _, _ => rfl
  | k + 1, v, h => by
    obtain ⟨u, hu, _⟩ := itO_down h
    rw [chO_snoc hu, List.length_append, chO_len hu]
    rfl
theorem chO_get {n : Nat} : ∀ k i, (chO H n k)[i]? = if i < k then itO H n i else none
  | 0, i => by simp [chO]
  | k + 1, i => by
    cases e : itO H n k with
    | none =>
      rw [show chO H n (k + 1) = chO H n k from chO_none e 1, chO_get k i]
      by_cases h1 : i < k
      · rw [if_pos h1, if_pos (by omega)]
      · rw [if_neg h1]
        by_cases h2 : i = k
        · subst h2; rw [if_pos (by omega), e]
        · rw [if_neg (by omega)]
    | some v =>
      rw [chO_snoc e, List.getElem?_append, chO_len e, chO_get k i]
      by_cases h1 : i < k
      · rw [if_pos h1, if_pos h1, if_pos (by omega)]
      · rw [if_neg h1]
        by_cases h2 : i = k
        · subst h2; rw [if_pos (by omega), e, Nat.sub_self]; rfl
        · rw [if_neg (by omega), List.getElem?_eq_none (by simp; omega)]
theorem chO_mem {n k v : Nat} : v ∈ chO H n k ↔ ∃ i, i < k ∧ itO H n i = some v := by
  unfold chO
  rw [List.mem_filterMap]
  simp
/-- the chain that begins with n -/
def chn' (H : Nat → Option Nat) (m n : Nat) : List Nat := chO H n m
/-- the chains -/
def cov (B H : Nat → Option Nat) (m : Nat) : List (List Nat) := ((List.range m).filter (start B)).map (chn' H m)
theorem cov_len (B H : Nat → Option Nat) (m : Nat) : (cov B H m).length = cntB m (start B) := by
  unfold cov; rw [List.length_map, cntB_filter]
theorem itO_inj (hM : Mt f m B H) {n n' : Nat} (hn : B n = none) (hn' : B n' = none) : ∀ {k k' v}, itO H n k = some v → itO H n' k' = some v → n = n' ∧ k = k'
  | 0, 0, v, h, h' => by
    have h : some n = some v := h
    have h' : some n' = some v := h'
    injection h with h
    injection h' with h'
    exact ⟨by omega, rfl⟩
  | 0, k' + 1, v, h, h' => by
    have h : some n = some v := h
    injection h with h
    subst h
    obtain ⟨u, _, hv⟩ := itO_down h'
    rw [hM.h u _ hv] at hn
    cases hn
  | k + 1, 0, v, h, h' => by
    have h' : some n' = some v := h'
    injection h' with h'
    subst h'
    obtain ⟨u, _, hv⟩ := itO_down h
    rw [hM.h u _ hv] at hn'
    cases hn'
  | k + 1, k' + 1, v, h, h' => by
    obtain ⟨u, hu, hv⟩ := itO_down h
    obtain ⟨u', hu', hv'⟩ := itO_down h'
    have e : u = u' := by
      have h1 := hM.h u v hv
      rw [hM.h u' v hv'] at h1
      injection h1 with h1
      exact h1.symm
    subst e
    obtain ⟨e1, e2⟩ := itO_inj hM hn hn' hu hu'
    exact ⟨e1, by omega⟩
theorem cover_all (hM : Mt f m B H) (hS : So f m) : ∀ d v, v < m → m ≤ fl f m v + d → ∃ n, n < m ∧ B n = none ∧ ∃ k, itO H n k = some v
  | 0, v, hv, hd => by have := fl_top hS hv; omega
  | d + 1, v, hv, hd => by
    cases hB : B v with
    | none => exact ⟨v, hv, hB, 0, rfl⟩
    | some a =>
      obtain ⟨h1, _, h3, h4⟩ := hM.b v a hB
      have h5 := fl_lt hS h3
      obtain ⟨n, hn, hBn, k, hk⟩ := cover_all hM hS d a h1 (by omega)
      exact ⟨n, hn, hBn, k + 1, by show (itO H n k).bind H = _; rw [hk]; exact h4⟩
theorem cov_mem (hM : Mt f m B H) (hS : So f m) {v : Nat} (hv : v < m) : v ∈ (cov B H m).flatten := by
  obtain ⟨n, hn, hB, k, hk⟩ := cover_all hM hS m v hv (by omega)
  rw [List.mem_flatten]
  refine ⟨chn' H m n, ?_, chO_mem.2 ⟨k, (itO_lt hM hS hn hk).1, hk⟩⟩
  unfold cov
  exact List.mem_map.2 ⟨n, List.mem_filter.2 ⟨List.mem_range.2 hn, by simp [start, hB]⟩, rfl⟩
theorem cov_lt (hM : Mt f m B H) (hS : So f m) {v : Nat} (h : v ∈ (cov B H m).flatten) : v < m := by
  rw [List.mem_flatten] at h
  obtain ⟨l, hl, hv⟩ := h
  unfold cov at hl
  obtain ⟨n, hn, rfl⟩ := List.mem_map.1 hl
  obtain ⟨k, _, hk⟩ := chO_mem.1 hv
  exact (itO_lt hM hS (List.mem_range.1 (List.mem_filter.1 hn).1) hk).2
theorem chO_nodup (hM : Mt f m B H) (hS : So f m) (n k : Nat) : (chO H n k).Nodup := by
  unfold List.Nodup
  rw [List.pairwise_iff_getElem]
  intro i j hi hj hij e
  have h1 : (chO H n k)[i]? = some (chO H n k)[i] := List.getElem?_eq_getElem hi
  have h2 : (chO H n k)[j]? = some (chO H n k)[j] := List.getElem?_eq_getElem hj
  rw [chO_get] at h1 h2
  have hk : j < k := by
    have := chO_le (H := H) n k
    omega
  rw [if_pos (by omega)] at h1
  rw [if_pos hk] at h2
  have := itO_f hM hS hij h1 h2
  rw [e, hS.irr] at this
  cases this
theorem cov_nodup (hM : Mt f m B H) (hS : So f m) : (cov B H m).flatten.Nodup := by
  unfold List.Nodup
  rw [List.pairwise_flatten]
  constructor
  · intro l hl
    unfold cov at hl
    obtain ⟨n, _, rfl⟩ := List.mem_map.1 hl
    exact chO_nodup hM hS n m
  · unfold cov
    rw [List.pairwise_map]
    have h1 : ((List.range m).filter (start B)).Pairwise (· ≠ ·) := List.Pairwise.filter _ List.nodup_range
    have h2 : ((List.range m).filter (start B)).Pairwise (fun a b => a ∈ (List.range m).filter (start B) ∧ b ∈ (List.range m).filter (start B) ∧ a ≠ b) :=
      (List.Pairwise.and_mem.1 h1).imp fun h => ⟨h.1, h.2.1, h.2.2⟩
    refine h2.imp ?_
    rintro n n' ⟨hn, hn', hne⟩ v hv v' hv' e
    subst e
    obtain ⟨k, _, hk⟩ := chO_mem.1 hv
    obtain ⟨k', _, hk'⟩ := chO_mem.1 hv'
    have hb : B n = none := by simpa [start] using (List.mem_filter.1 hn).2
    have hb' : B n' = none := by simpa [start] using (List.mem_filter.1 hn').2
    exact hne (itO_inj hM hb hb' hk hk').1
theorem lenN_sub {L zs : List Nat} (hn : L.Nodup) (h : ∀ x, x ∈ L → x ∈ zs) : L.length ≤ zs.length := by
  induction L generalizing zs with
  | nil => exact Nat.zero_le _
  | cons a L ih =>
    rw [List.nodup_cons] at hn
    have ha := h a (List.mem_cons_self ..)
    have h1 := ih (zs := zs.erase a) hn.2 fun x hx => (List.mem_erase_of_ne (fun e => hn.1 (by rw [← e]; exact hx))).2 (h x (List.mem_cons_of_mem _ hx))
    have h2 := List.length_erase_of_mem ha
    have h3 := List.length_pos_of_mem ha
    rw [List.length_cons]
    omega
theorem cov_length (hM : Mt f m B H) (hS : So f m) : (cov B H m).flatten.length = m := by
  have h1 := nodup_le m _ (cov_nodup hM hS) fun x hx => cov_lt hM hS hx
  have h2 : m ≤ (cov B H m).flatten.length := by
    have h3 := lenN_sub (L := List.range m) (zs := (cov B H m).flatten) List.nodup_range fun x hx => cov_mem hM hS (List.mem_range.1 hx)
    rwa [List.length_range] at h3
  omega

/-! ### no more are side by side than there are chains -/
theorem apart_le (hM : Mt f m B H) (hS : So f m) (s : Nat → Bool) (hs : ∀ a b, s a = true → s b = true → f a b = false) : cntB m s ≤ cntB m (start B) := by
  obtain ⟨u, hu⟩ : ∃ u : Nat → Nat, ∀ v, u v = sumN m fun k => match itO H v k with | some x => (s x).toNat | none => 0 := ⟨_, fun _ => rfl⟩
  have h1 : ∀ v, v < m → u v = (s v).toNat + match H v with | some k => u k | none => 0 := fun v hv => by
    obtain ⟨m', rfl⟩ : ∃ m', m = m' + 1 := ⟨m - 1, by omega⟩
    rw [hu, sumN_front]
    congr 1
    cases hH : H v with
    | none => exact sumN_zero fun k _ => by rw [itO_shift, hH]; rfl
    | some j =>
      show _ = u j
      rw [hu]
      show _ = sumN m' _ + (match itO H j m' with | some x => (s x).toNat | none => 0)
      have h3 : itO H j m' = none := by
        cases e : itO H j m' with
        | none => rfl
        | some x =>
          have h4 : itO H v (m' + 1) = some x := by rw [itO_shift, hH]; exact e
          have := (itO_lt hM hS hv h4).1
          omega
      rw [h3]
      refine sumN_congr fun k _ => ?_
      rw [itO_shift, hH]
      rfl
  have h2 : ∀ v, u v ≤ 1 := fun v => by
    rw [hu]
    refine sumN_one (fun k _ => ?_) fun i j hij hj hi1 hj1 => ?_
    · cases itO H v k with
      | none => exact Nat.zero_le _
      | some x => show (s x).toNat ≤ 1; cases s x <;> decide
    · cases ei : itO H v i with
      | none => rw [ei] at hi1; cases hi1
      | some a =>
        cases ej : itO H v j with
        | none => rw [ej] at hj1; cases hj1
        | some b =>
          rw [ei] at hi1
          rw [ej] at hj1
          have hi1 : (s a).toNat = 1 := hi1
          have hj1 : (s b).toNat = 1 := hj1
          have ha : s a = true := by cases h : s a with | true => rfl | false => rw [h] at hi1; cases hi1
          have hb : s b = true := by cases h : s b with | true => rfl | false => rw [h] at hj1; cases hj1
          have := itO_f hM hS hij ei ej
          rw [hs a b ha hb] at this
          cases this
  have h3 : sumN m u = cntB m s + sumN m (fun k => match B k with | some _ => u k | none => 0) := by
    rw [← hM.sum u]
    unfold cntB
    rw [← sumN_add]
    exact sumN_congr fun v hv => h1 v hv
  have h4 : sumN m u ≤ cntB m (start B) + sumN m (fun k => match B k with | some _ => u k | none => 0) := by
    unfold cntB
    rw [← sumN_add]
    refine sumN_le fun v _ => ?_
    cases hB : B v with
    | none => have := h2 v; simp [start, hB]; exact this
    | some a => simp [start, hB]
  omega
end Go.Proofs.YtipihchlhkjdjaaDoor

namespace Go.Proofs.YtipihchlhkjdjaaDoor
open Go.RowKit
set_option maxRecDepth 100000

theorem Tryd.infoCh : (Tryd.prog.info? 75).map (·.size) = some 3 := by kernel_rfl
theorem set_at {w : World} {B : Nat} {t : TypeId} {cs : Array Value} (h : w.heap[B]? = some (.cells cs t (0, 0))) (o : Nat) (v : Value) : (w.setCell ⟨B, o, none⟩ v).heap[B]? = some (.cells (cs.setIfInBounds o v) t (0, 0)) := by
  obtain ⟨hlt, hk⟩ := Array.getElem?_eq_some_iff.1 h
  show (w.heap.modify B _)[B]? = _
  rw [Array.getElem?_eq_getElem (by rw [Array.size_modify]; exact hlt), Array.getElem_modify_self, hk]
  rfl
theorem three_set {w : World} {B : Nat} {t : TypeId} {x y z : Value} (h : w.heap[B]? = some (.cells #[x, y, z] t (0, 0))) (a b c : Value) :
    (((w.setCell ⟨B, 0, none⟩ a).setCell ⟨B, 1, none⟩ b).setCell ⟨B, 2, none⟩ c).heap[B]? = some (.cells #[a, b, c] t (0, 0)) := set_at (set_at (set_at h 0 a) 1 b) 2 c
theorem cells3 {W : World} {D : Nat} {x y z : Value} {t : TypeId} (h : W.heap[D]? = some (.cells #[x, y, z] t (0, 0))) : W.cell? ⟨D, 0, none⟩ = some x ∧ W.cell? ⟨D, 1, none⟩ = some y ∧ W.cell? ⟨D, 2, none⟩ = some z := by
  refine ⟨?_, ?_, ?_⟩ <;> (unfold World.cell?; dsimp only; rw [h]; rfl)
theorem Rows3.other {w : World} {m gb gh gt : Nat} {B H : Nat → Option Nat} {T : Nat → Bool} (h : Rows3 w m gb gh gt B H T) {p : Addr} (hp : NB gb gh gt p.block) (v : Value) : Rows3 (w.setCell p v) m gb gh gt B H T :=
  ⟨rowIs_other h.b (fun e => hp.1 e.symm) v, rowIs_other h.h (fun e => hp.2.1 e.symm) v, rowIs_other h.t (fun e => hp.2.2 e.symm) v⟩
/-- how many have nobody behind them -/
def unm (m : Nat) (H : Nat → Option Nat) : Nat := sumN m fun k => if (H k).isSome = true then 0 else 1
theorem unm_suc {f : Nat → Nat → Bool} {m n : Nat} {B H B' H' : Nat → Option Nat} {T : Nat → Bool} (hn : n < m) (h0 : H n = none) (h : Suc f m B H T n B' H') : unm m H = unm m H' + 1 := by
  unfold unm
  refine sumN_single hn (fun k _ hne => ?_) ?_
  · rw [h.dom k]
    have : decide (k = n) = false := by simpa using hne
    rw [this, Bool.or_false]
  · rw [h.dom n, h0]; simp
def cntN (gh m : Nat) (w : World) : Nat := sumN m fun k => match w.cell? ⟨gh, k, none⟩ with | some (.int _ z) => if z = -1 then 1 else 0 | _ => 0
theorem cntN_rows {w : World} {m gb gh gt : Nat} {B H : Nat → Option Nat} {T : Nat → Bool} (h : Rows3 w m gb gh gt B H T) : cntN gh m w = unm m H := by
  unfold cntN unm
  refine sumN_congr fun k hk => ?_
  rw [h.h.cell hk]
  cases hH : H k with
  | none => rfl
  | some a =>
    show (if ((a : Nat) : Int) = -1 then 1 else 0) = _
    rw [if_neg (by omega)]
    rfl
def mz (gh m : Nat) (v : Value) (w : World) : Nat := match v with | .bool true => cntN gh m w + 1 | _ => 0
theorem run_clear_bool {P : Program} (w : World) (t e ty : TypeId) (ht : P.underlying t = some (.slice e)) (hv : ∀ w, (zeroValue e).run P w = .ok (.bool false) w) (g m c : Nat)
    (hc : ∀ j, j < m → (w.cell? ⟨g, j, none⟩).isSome = true) (hf : ∀ j, j < m → w.frozen? ⟨g, j, none⟩ = false) :
    (Builtin.clear_ #[t] ty #[.slice (some ⟨g, 0, none⟩) m c]).run P w = .ok (.tuple #[]) (w.setCells g 0 (List.replicate m (.bool false))) := by
  have hzc : (Builtin.zeroCells (Value.bool false).cells m).toList = List.replicate m (.bool false) := by
    apply List.ext_getElem
    · simp [Builtin.zeroCells, Value.cells]
    · intro i h1 h2
      simp [Builtin.zeroCells, Value.cells, Nat.mod_one]
  have hst := run_storeCells_cells (P := P) g 0 (List.replicate m (.bool false)) 0 w (by simpa using hc) (by simpa using hf) (by intro v hv'; rw [(List.mem_replicate.1 hv').2]; rfl)
  simp only [Nat.add_zero] at hst
  cases m with
  | zero =>
    simp [Builtin.clear_, run_underlying ht]
    rfl
  | succ m => simp [Builtin.clear_, run_underlying ht, hv, hzc, hst]
theorem Rows3.clear {w : World} {m gb gh gt : Nat} {B H : Nat → Option Nat} {T : Nat → Bool} (h : Rows3 w m gb gh gt B H T) (ne : gb ≠ gh ∧ gb ≠ gt ∧ gh ≠ gt) : Rows3 (w.setCells gt 0 (List.replicate m (.bool false))) m gb gh gt B H (fun _ => false) := by
  refine ⟨rowIs_setCells_other ne.2.1 _ _ _ h.b, rowIs_setCells_other ne.2.2 _ _ _ h.h, (rowIs_setCells _ 0 w _ h.t).congr fun j hj => ?_⟩
  rw [if_pos ⟨Nat.zero_le _, by simpa using hj⟩, Nat.sub_zero, List.getElem?_replicate, if_pos hj]
  rfl
theorem keeps_setCells {p : Nat → Prop} {a : World} (b : Nat) (hb : ¬ p b) : ∀ (vs : List Value) (o : Nat) {w : World}, Keeps p a w → Keeps p a (w.setCells b o vs)
  | [], _, _, h => h
  | v :: r, o, _, h => keeps_setCells b hb r (o + 1) (h.setCell (q := ⟨b, o, none⟩) (fun _ => hb) v)

/-- the box of what follows, and all that lay -/
abbrev HeldW (w1 : World) (B : Nat) (v : Value) (W : World) : Prop := W.cell? ⟨B, 0, none⟩ = some v ∧ Below w1.heap.size w1 W
theorem HeldW.drew {w1 W : World} {B : Nat} {v : Value} (h : HeldW w1 B v W) : HeldW w1 B v W.drew := ⟨h.1, h.2.drew⟩
theorem HeldW.step {w1 W W2 : World} {B : Nat} {v : Value} (h : HeldW w1 B v W) (hb : Below W.heap.size W W2) : HeldW w1 B v W2 := ⟨(hb.cell (p := ⟨B, 0, none⟩) (World.block_lt_of_cell? _ _ h.1)).trans h.1, h.2.trans (hb.mono h.2.size)⟩
theorem HeldW.alloc {w1 W : World} {B : Nat} {v : Value} (h : HeldW w1 B v W) (o : Obj) : HeldW w1 B v (W.alloc o) := h.step (below_alloc _ _)
theorem HeldW.set3 {w1 W : World} {B D : Nat} {v : Value} (hB : B < w1.heap.size) (hD : w1.heap.size ≤ D) (x y z : Value) (h : HeldW w1 B v W) : HeldW w1 B v (((W.setCell ⟨D, 0, none⟩ x).setCell ⟨D, 1, none⟩ y).setCell ⟨D, 2, none⟩ z) := by
  have hb : Below w1.heap.size W (((W.setCell ⟨D, 0, none⟩ x).setCell ⟨D, 1, none⟩ y).setCell ⟨D, 2, none⟩ z) := (((Below.refl _ W).setCell (p := ⟨D, 0, none⟩) hD x).setCell (p := ⟨D, 1, none⟩) hD y).setCell (p := ⟨D, 2, none⟩) hD z
  exact ⟨(hb.cell (p := ⟨B, 0, none⟩) hB).trans h.1, h.2.trans hb⟩
/-- the new chains, empty -/
def HD (D : Nat) (W : World) : Prop := W.heap[D]? = some (.cells #[.slice none 0 0, .slice none 0 0, .slice none 0 0] 75 (0, 0))
theorem HD.lt {D : Nat} {W : World} (h : HD D W) : D < W.heap.size := (Array.getElem?_eq_some_iff.1 h).1
theorem HD.c0 {D : Nat} {W : World} (h : HD D W) : W.cell? ⟨D, 0, none⟩ = some (.slice none 0 0) := by unfold HD at h; unfold World.cell?; dsimp only; rw [h]; rfl
theorem HD.c1 {D : Nat} {W : World} (h : HD D W) : W.cell? ⟨D, 1, none⟩ = some (.slice none 0 0) := by unfold HD at h; unfold World.cell?; dsimp only; rw [h]; rfl
theorem HD.c2 {D : Nat} {W : World} (h : HD D W) : W.cell? ⟨D, 2, none⟩ = some (.slice none 0 0) := by unfold HD at h; unfold World.cell?; dsimp only; rw [h]; rfl
theorem HD.fz {D : Nat} {W : World} (h : HD D W) (o : Nat) : W.frozen? ⟨D, o, none⟩ = false := by unfold HD at h; unfold World.frozen?; dsimp only; rw [h]; simp
theorem HD.new (W : World) : HD W.heap.size (W.alloc (.cells #[.slice none 0 0, .slice none 0 0, .slice none 0 0] 75)) := World.alloc_heap_new W _
theorem HD.new' {W : World} {D : Nat} (h : D = W.heap.size) : HD D (W.alloc (.cells #[.slice none 0 0, .slice none 0 0, .slice none 0 0] 75)) := by subst h; exact HD.new W
theorem HD.step {D : Nat} {W W2 : World} (h : HD D W) (hb : Below W.heap.size W W2) : HD D W2 := (hb.block D h.lt).trans h
theorem cell_new' {W : World} {b : Nat} {v : Value} {t : TypeId} (h : b = W.heap.size) : (W.alloc (.cells #[v] t)).cell? ⟨b, 0, none⟩ = some v := by
  have h2 := World.alloc_heap_new W (.cells #[v] t)
  unfold World.cell?; dsimp only; rw [h, h2]; rfl
theorem HD.alloc {D : Nat} {W : World} (h : HD D W) (o : Obj) : HD D (W.alloc o) := h.step (below_alloc _ _)
theorem HD.drew {D : Nat} {W : World} (h : HD D W) : HD D W.drew := h
theorem cell_drew {W : World} {p : Addr} {v : Option Value} (h : W.cell? p = v) : W.drew.cell? p = v := h
theorem rowIs_made' {W : World} {g m : Nat} {v : Value} {t : TypeId} (h : g = W.heap.size) : (W.alloc (.cells (madeCells #[v] m) t)).rowIs g t m (fun _ => v) := by subst h; exact World.rowIs_made W v m t
theorem rowIs_al {W : World} {g t m : Nat} {F : Nat → Value} (h : W.rowIs g t m F) (o : Obj) : (W.alloc o).rowIs g t m F := h.alloc o
theorem rowIs_dr {W : World} {g t m : Nat} {F : Nat → Value} (h : W.rowIs g t m F) : W.drew.rowIs g t m F := h
/-- three new rows, and the chains that hold them -/
def Fin1 (w1 : World) (m : Nat) (t : Value) (wx : World) : Prop := ∃ B3 gb gh gt, t = .pointer (some ⟨B3, 0, none⟩) ∧ wx.cell? ⟨B3, 0, none⟩ = some (.slice (some ⟨gb, 0, none⟩) m m) ∧ wx.cell? ⟨B3, 1, none⟩ = some (.slice (some ⟨gh, 0, none⟩) m m) ∧ wx.cell? ⟨B3, 2, none⟩ = some (.slice (some ⟨gt, 0, none⟩) m m) ∧
    Rows3 wx m gb gh gt (fun _ => none) (fun _ => none) (fun _ => false) ∧ (gb ≠ gh ∧ gb ≠ gt ∧ gh ≠ gt) ∧ NB gb gh gt B3 ∧ w1.heap.size ≤ gb ∧ w1.heap.size ≤ gh ∧ w1.heap.size ≤ gt ∧ w1.heap.size ≤ B3 ∧ Below w1.heap.size w1 wx
theorem fin_set {w1 W : World} {m D gb gh gt B : Nat} {v : Value} (hD : HD D W) (hb : W.rowIs gb 3 m (fun _ => .int .i64 (-1))) (hh : W.rowIs gh 3 m (fun _ => .int .i64 (-1))) (ht : W.rowIs gt 4 m (fun _ => .bool false)) (hH : HeldW w1 B v W)
    (hs : w1.heap.size ≤ gb ∧ w1.heap.size ≤ gh ∧ w1.heap.size ≤ gt ∧ w1.heap.size ≤ D) (hn : (gb ≠ gh ∧ gb ≠ gt ∧ gh ≠ gt) ∧ D ≠ gb ∧ D ≠ gh ∧ D ≠ gt) :
    Fin1 w1 m (.pointer (some ⟨D, 0, none⟩)) (((W.setCell ⟨D, 0, none⟩ (.slice (some ⟨gb, 0, none⟩) m m)).setCell ⟨D, 1, none⟩ (.slice (some ⟨gh, 0, none⟩) m m)).setCell ⟨D, 2, none⟩ (.slice (some ⟨gt, 0, none⟩) m m)) := by
  obtain ⟨c0, c1, c2⟩ := cells3 (three_set hD (.slice (some ⟨gb, 0, none⟩) m m) (.slice (some ⟨gh, 0, none⟩) m m) (.slice (some ⟨gt, 0, none⟩) m m))
  have hR : Rows3 W m gb gh gt (fun _ => none) (fun _ => none) (fun _ => false) := ⟨hb, hh, ht⟩
  exact ⟨D, gb, gh, gt, rfl, c0, c1, c2, ((hR.other (p := ⟨D, 0, none⟩) hn.2 _).other (p := ⟨D, 1, none⟩) hn.2 _).other (p := ⟨D, 2, none⟩) hn.2 _, hn.1, hn.2, hs.1, hs.2.1, hs.2.2.1, hs.2.2.2,
    ((hH.2.setCell (p := ⟨D, 0, none⟩) hs.2.2.2 _).setCell (p := ⟨D, 1, none⟩) hs.2.2.2 _).setCell (p := ⟨D, 2, none⟩) hs.2.2.2 _⟩
theorem fin_new {w1 W : World} {m D gb gh gt B : Nat} {v : Value} (hD : D = W.heap.size) (hb : W.rowIs gb 3 m (fun _ => .int .i64 (-1))) (hh : W.rowIs gh 3 m (fun _ => .int .i64 (-1))) (ht : W.rowIs gt 4 m (fun _ => .bool false)) (hH : HeldW w1 B v W)
    (hs : w1.heap.size ≤ gb ∧ w1.heap.size ≤ gh ∧ w1.heap.size ≤ gt) (hn : gb ≠ gh ∧ gb ≠ gt ∧ gh ≠ gt) :
    Fin1 w1 m (.pointer (some ⟨D, 0, none⟩)) (W.alloc (.cells #[.slice (some ⟨gb, 0, none⟩) m m, .slice (some ⟨gh, 0, none⟩) m m, .slice (some ⟨gt, 0, none⟩) m m] 75)) := by
  subst hD
  obtain ⟨c0, c1, c2⟩ := cells3 (World.alloc_heap_new W (.cells #[.slice (some ⟨gb, 0, none⟩) m m, .slice (some ⟨gh, 0, none⟩) m m, .slice (some ⟨gt, 0, none⟩) m m] 75))
  have hR : Rows3 W m gb gh gt (fun _ => none) (fun _ => none) (fun _ => false) := ⟨hb, hh, ht⟩
  have l1 := hb.lt
  have l2 := hh.lt
  have l3 := ht.lt
  exact ⟨_, gb, gh, gt, rfl, c0, c1, c2, hR.step (below_alloc W _), hn, ⟨by omega, by omega, by omega⟩, hs.1, hs.2.1, hs.2.2, hH.2.size, hH.2.trans ((below_alloc W _).mono hH.2.size)⟩

/-- what has come up of the first statement, and what it left -/
structure FF (w1 : World) (m : Nat) (b0 b3 b4 b7 b10 b11 b12 : Bool) (v3 v7 v10 v11 v14 v17 v18 : Value) (W : World) : Prop where
  f0 : b0 = true → ∃ p, v7 = .slice (some ⟨p, 0, none⟩) 1 1 ∧ W.cell? ⟨p, 0, none⟩ = some (.int .i64 (-1))
  f4 : b4 = true → ∃ p, v11 = .slice (some ⟨p, 0, none⟩) 1 1 ∧ W.cell? ⟨p, 0, none⟩ = some (.int .i64 (-1))
  f3 : b3 = true → ∃ g, v10 = .slice (some ⟨g, 0, none⟩) m m ∧ W.rowIs g 3 m (fun _ => .int .i64 (-1)) ∧ w1.heap.size ≤ g
  f7 : b7 = true → b3 = true ∧ ∃ g h, v10 = .slice (some ⟨g, 0, none⟩) m m ∧ v14 = .slice (some ⟨h, 0, none⟩) m m ∧ W.rowIs g 3 m (fun _ => .int .i64 (-1)) ∧ W.rowIs h 3 m (fun _ => .int .i64 (-1)) ∧ w1.heap.size ≤ g ∧ w1.heap.size ≤ h ∧ g ≠ h
  f10 : b10 = true → ∃ t, v17 = .slice (some ⟨t, 0, none⟩) m m ∧ W.rowIs t 4 m (fun _ => .bool false) ∧ w1.heap.size ≤ t
  f11 : b11 = true → b3 = true ∧ b7 = true ∧ b10 = true ∧ v18 = .agg #[v10, v14, v17]
  f12 : b12 = true → ∃ D, v3 = .pointer (some ⟨D, 0, none⟩) ∧ HD D W ∧ w1.heap.size ≤ D
theorem FF.step {w1 : World} {m : Nat} {b0 b3 b4 b7 b10 b11 b12 : Bool} {v3 v7 v10 v11 v14 v17 v18 : Value} {W W' : World} (h : FF w1 m b0 b3 b4 b7 b10 b11 b12 v3 v7 v10 v11 v14 v17 v18 W) (hb : Below W.heap.size W W') : FF w1 m b0 b3 b4 b7 b10 b11 b12 v3 v7 v10 v11 v14 v17 v18 W' := by
  have key : ∀ {p v}, W.cell? ⟨p, 0, none⟩ = some v → W'.cell? ⟨p, 0, none⟩ = some v := fun hc => (hb.cell (p := ⟨_, 0, none⟩) (World.block_lt_of_cell? _ _ hc)).trans hc
  refine ⟨fun e => ?_, fun e => ?_, fun e => ?_, fun e => ?_, fun e => ?_, h.f11, fun e => ?_⟩
  · obtain ⟨p, h1, h2⟩ := h.f0 e; exact ⟨p, h1, key h2⟩
  · obtain ⟨p, h1, h2⟩ := h.f4 e; exact ⟨p, h1, key h2⟩
  · obtain ⟨g, h1, h2, h3⟩ := h.f3 e; exact ⟨g, h1, rowIs_step h2 hb, h3⟩
  · obtain ⟨h0, g, q, h1, h2, h3, h4, h5, h6, h7⟩ := h.f7 e; exact ⟨h0, g, q, h1, h2, rowIs_step h3 hb, rowIs_step h4 hb, h5, h6, h7⟩
  · obtain ⟨t, h1, h2, h3⟩ := h.f10 e; exact ⟨t, h1, rowIs_step h2 hb, h3⟩
  · obtain ⟨D, h1, h2, h3⟩ := h.f12 e; exact ⟨D, h1, h2.step hb, h3⟩
theorem rowIs_ne_hd {W : World} {g t m D : Nat} {f : Nat → Value} (h : W.rowIs g t m f) (hD : HD D W) (ht : t ≠ 75) : D ≠ g := by
  intro e
  subst e
  obtain ⟨c, hc, _⟩ := h
  unfold HD at hD
  rw [hD] at hc
  injection hc with hc
  injection hc with _ hc
  exact ht hc.symm
theorem rowIs_ne_row {W : World} {g h t t' m : Nat} {f f' : Nat → Value} (h1 : W.rowIs g t m f) (h2 : W.rowIs h t' m f') (ht : t ≠ t') : g ≠ h := by
  intro e
  subst e
  obtain ⟨c, hc, _⟩ := h1
  obtain ⟨c', hc', _⟩ := h2
  rw [hc] at hc'
  injection hc' with hc'
  injection hc' with _ hc'
  exact ht hc'

set_option maxHeartbeats 16000000 in
theorem fewest_any (es : List (Int × Int)) (m : Nat) (hm : m ≤ 200) (hin : inR m es = true) (f : Nat → Nat → Bool) (hf : f = fw (gR es) m) (A1 : Option Addr) (c1 : Nat) (w : World) (hu : RdUU w w.heap.size A1 (behs m es)) (hT : Tab w) :
    Calls Tryd.prog 38 #[.slice A1 m c1] w fun e w' => ∃ (gb gh gt : Nat) (B H : Nat → Option Nat) (T : Nat → Bool), e = .returned (.agg #[.slice (some ⟨gb, 0, none⟩) m m, .slice (some ⟨gh, 0, none⟩) m m, .slice (some ⟨gt, 0, none⟩) m m]) ∧
      Rows3 w' m gb gh gt B H T ∧ Kon f m B H T ∧ w.heap.size ≤ gb ∧ w.heap.size ≤ gh ∧ w.heap.size ≤ gt ∧ Below w.heap.size w w' := by
  have HF := Lib.hid hf
  clear hf
  go_enter Tryd.func38, Tryd.ntmps38
  go_upto_region 1 with fail
  have bx1 := (Boxed.new w 69 (.slice A1 m c1)).alloc (.cells #[.slice none 0 0, .slice none 0 0, .slice none 0 0] 75)
  have hb : Below w.heap.size w ((w.alloc (.cells #[.slice A1 m c1] 69)).alloc (.cells #[.slice none 0 0, .slice none 0 0, .slice none 0 0] 75)) := ((Below.refl _ _).alloc (Nat.le_refl _) _).alloc (by simp) _
  have h2 := World.alloc_heap_new (w.alloc (.cells #[.slice A1 m c1] 69)) (.cells #[.slice none 0 0, .slice none 0 0, .slice none 0 0] 75)
  simp only [World.size_alloc] at h2
  obtain ⟨w1, hw1⟩ : ∃ w1, w1 = (w.alloc (.cells #[.slice A1 m c1] 69)).alloc (.cells #[.slice none 0 0, .slice none 0 0, .slice none 0 0] 75) := ⟨_, rfl⟩
  have hs1 : w1.heap.size = w.heap.size + 2 := by rw [hw1]; simp
  rw [← hw1] at bx1 hb h2 ⊢
  have cf := bx1.cell
  go_cut [3] from 7 to 18 (fun t wx => Fin1 w1 m t wx)
  case first =>
    have hmkb := run_make_row' (P := Tryd.prog) 73 4 (.bool false) 1 Tryd.underlying73 Tryd.infoB rfl .i64 .i64 m (by omega) (by omega)
    have hb0 := Below.refl w1.heap.size w1
    have hB1 : w.heap.size < w1.heap.size := by omega
    clear hu hT h2 hw1 bx1 hb hs1
    refine wp_region_held_drew (S := HeldW w1 w.heap.size (.slice A1 m c1)) (by kernel_rfl) ?_ (fun hHeld => ?_)
    · exact HeldW.drew ⟨cf, hb0⟩
    refine wpAnyH_take (i := 1) (oi := { dst := some 8, op := _, type := _, pos := _, after := _, guard := _ }) (v := ?_) rfl (by kernel_rfl) (by kernel_rfl) (by kernel_rfl) (fun _ _ _ h => h) (Or.inl ⟨by rfl, ?_⟩) (by assumption) ?_
    rotate_left
    · intro w hSw; (try dsimp only at hSw); go_simp; (try with_reducible rfl)
    (try simp only [Act.put, List.setIfInBounds_toArray, List.set_cons_zero, List.set_cons_succ])
    refine wpAnyH_take (i := 2) (oi := { dst := some 9, op := _, type := _, pos := _, after := _, guard := _ }) (v := ?_) rfl (by kernel_rfl) (by kernel_rfl) (by kernel_rfl) (fun _ _ _ h => h) (Or.inl ⟨by rfl, ?_⟩) (by assumption) ?_
    rotate_left
    · intro w hSw; (try dsimp only at hSw); go_simp; (try with_reducible rfl)
    (try simp only [Act.put, List.setIfInBounds_toArray, List.set_cons_zero, List.set_cons_succ])
    refine wpAnyH_take (i := 5) (oi := { dst := some 12, op := _, type := _, pos := _, after := _, guard := _ }) (v := ?_) rfl (by kernel_rfl) (by kernel_rfl) (by kernel_rfl) (fun _ _ _ h => h) (Or.inl ⟨by rfl, ?_⟩) (by assumption) ?_
    rotate_left
    · intro w hSw; (try dsimp only at hSw); go_simp; (try with_reducible rfl)
    (try simp only [Act.put, List.setIfInBounds_toArray, List.set_cons_zero, List.set_cons_succ])
    refine wpAnyH_take (i := 6) (oi := { dst := some 13, op := _, type := _, pos := _, after := _, guard := _ }) (v := ?_) rfl (by kernel_rfl) (by kernel_rfl) (by kernel_rfl) (fun _ _ _ h => h) (Or.inl ⟨by rfl, ?_⟩) (by assumption) ?_
    rotate_left
    · intro w hSw; (try dsimp only at hSw); go_simp; (try with_reducible rfl)
    (try simp only [Act.put, List.setIfInBounds_toArray, List.set_cons_zero, List.set_cons_succ])
    refine wpAnyH_take (i := 8) (oi := { dst := some 15, op := _, type := _, pos := _, after := _, guard := _ }) (v := ?_) rfl (by kernel_rfl) (by kernel_rfl) (by kernel_rfl) (fun _ _ _ h => h) (Or.inl ⟨by rfl, ?_⟩) (by assumption) ?_
    rotate_left
    · intro w hSw; (try dsimp only at hSw); go_simp; (try with_reducible rfl)
    (try simp only [Act.put, List.setIfInBounds_toArray, List.set_cons_zero, List.set_cons_succ])
    refine wpAnyH_take (i := 9) (oi := { dst := some 16, op := _, type := _, pos := _, after := _, guard := _ }) (v := ?_) rfl (by kernel_rfl) (by kernel_rfl) (by kernel_rfl) (fun _ _ _ h => h) (Or.inl ⟨by rfl, ?_⟩) (by assumption) ?_
    rotate_left
    · intro w hSw; (try dsimp only at hSw); go_simp; (try with_reducible rfl)
    (try simp only [Act.put, List.setIfInBounds_toArray, List.set_cons_zero, List.set_cons_succ])
    refine wpAnyH_inv (I := fun listed a W => (∃ (b0 b3 b4 b7 b10 b11 b12 : Bool) (v3 v7 v10 v11 v14 v17 v18 : Value), listed = #[b0, true, true, b3, b4, true, true, b7, true, true, b10, b11, b12, false] ∧ a = ({ tmps := #[.slice A1 m c1, .pointer (some ⟨w.heap.size, 0, none⟩), .pointer (some ⟨w.heap.size + 1, 0, none⟩), v3, undef, undef, undef, v7, .slice A1 m c1, .int .i64 (m : Int), v10, v11, .slice A1 m c1, .int .i64 (m : Int), v14, .slice A1 m c1, .int .i64 (m : Int), v17, v18, undef, undef, undef, undef, undef, undef, undef, undef, undef, undef, undef, undef, undef, undef, undef, undef, undef, undef, undef, undef, undef, undef], defers := [] } : Act) ∧ FF w1 m b0 b3 b4 b7 b10 b11 b12 v3 v7 v10 v11 v14 v17 v18 W ∧ HeldW w1 w.heap.size (.slice A1 m c1) W) ∨ (∃ (v3 v7 v10 v11 v14 v17 v18 : Value), listed = #[true, true, true, true, true, true, true, true, true, true, true, true, true, true] ∧ a = ({ tmps := #[.slice A1 m c1, .pointer (some ⟨w.heap.size, 0, none⟩), .pointer (some ⟨w.heap.size + 1, 0, none⟩), v3, undef, undef, undef, v7, .slice A1 m c1, .int .i64 (m : Int), v10, v11, .slice A1 m c1, .int .i64 (m : Int), v14, .slice A1 m c1, .int .i64 (m : Int), v17, v18, undef, undef, undef, undef, undef, undef, undef, undef, undef, undef, undef, undef, undef, undef, undef, undef, undef, undef, undef, undef, undef, undef], defers := [] } : Act) ∧ Fin1 w1 m v3 W)) ?_ ?_ _ _ _ _ (by decide +kernel) (.inl ⟨false, false, false, false, false, false, false, undef, undef, undef, undef, undef, undef, undef, rfl, rfl, ⟨fun h => (by cases h), fun h => (by cases h), fun h => (by cases h), fun h => (by cases h), fun h => (by cases h), fun h => (by cases h), fun h => (by cases h)⟩, hHeld⟩)
    · intro listed a W hI i o ho hf ha K hK
      have hi : i = 0 ∨ i = 1 ∨ i = 2 ∨ i = 3 ∨ i = 4 ∨ i = 5 ∨ i = 6 ∨ i = 7 ∨ i = 8 ∨ i = 9 ∨ i = 10 ∨ i = 11 ∨ i = 12 ∨ i = 13 := by
        have h1 := (Array.getElem?_eq_some_iff.1 ho).1
        have h2 : i < 14 := h1
        omega
      rcases hI with ⟨b0, b3, b4, b7, b10, b11, b12, v3, v7, v10, v11, v14, v17, v18, rfl, rfl, hF, hH⟩ | ⟨v3, v7, v10, v11, v14, v17, v18, rfl, rfl, _⟩
      rotate_left
      · rcases hi with rfl | rfl | rfl | rfl | rfl | rfl | rfl | rfl | rfl | rfl | rfl | rfl | rfl | rfl <;> cases hf
      clear hHeld hb0 cf
      rcases hi with rfl | rfl | rfl | rfl | rfl | rfl | rfl | rfl | rfl | rfl | rfl | rfl | rfl | rfl
      · cases ho
        have HF := Lib.hid hF
        have HHH := Lib.hid hH
        clear hF hH ha hf
        go_simp
        (try simp only [Act.put, List.setIfInBounds_toArray, List.set_cons_zero, List.set_cons_succ])
        refine hK.out _ _ (HeldW.alloc HHH.out _) (.inl ⟨true, b3, b4, b7, b10, b11, b12, v3, _, v10, v11, v14, v17, v18, rfl, rfl, ?_, HeldW.alloc HHH.out _⟩)
        have h := HF.out.step (below_alloc W (.cells #[.int .i64 (-1)] 3))
        exact ⟨fun _ => ⟨_, rfl, cell_new' rfl⟩, h.f4, h.f3, h.f7, h.f10, h.f11, h.f12⟩
      · cases hf
      · cases hf
      · cases ho
        have d0 : b0 = true := ha { on := 0, ground := .data } (by simp) rfl
        have n3 : b3 = false := hf
        obtain ⟨p, rfl, hp⟩ := hF.f0 d0
        have hC := repeat_any p 0 1 m (by omega) (-1) W (World.block_lt_of_cell? _ _ hp) hp
        have HC := Lib.hid hC
        have HF := Lib.hid hF
        have HHH := Lib.hid hH
        have N3 := Lib.hid n3
        clear hF hH ha hf hC d0 n3
        go_simp
        refine HC.out.mono ?_
        rintro e w6 ⟨rfl, hr6, hb6⟩
        dsimp only
        (try simp only [Act.put, List.setIfInBounds_toArray, List.set_cons_zero, List.set_cons_succ])
        refine hK.out _ _ (HeldW.step HHH.out hb6) (.inl ⟨b0, true, b4, b7, b10, b11, b12, v3, _, _, v11, v14, v17, v18, rfl, rfl, ?_, HeldW.step HHH.out hb6⟩)
        have h := HF.out.step hb6
        exact ⟨h.f0, h.f4, fun _ => ⟨_, rfl, hr6, HHH.out.2.size⟩, fun e => (by have := (h.f7 e).1; rw [N3.out] at this; cases this), h.f10, fun e => (by have := (h.f11 e).1; rw [N3.out] at this; cases this), h.f12⟩
      · cases ho
        have HF := Lib.hid hF
        have HHH := Lib.hid hH
        clear hF hH ha hf
        go_simp
        (try simp only [Act.put, List.setIfInBounds_toArray, List.set_cons_zero, List.set_cons_succ])
        refine hK.out _ _ (HeldW.alloc HHH.out _) (.inl ⟨b0, b3, true, b7, b10, b11, b12, v3, v7, v10, _, v14, v17, v18, rfl, rfl, ?_, HeldW.alloc HHH.out _⟩)
        have h := HF.out.step (below_alloc W (.cells #[.int .i64 (-1)] 3))
        exact ⟨h.f0, fun _ => ⟨_, rfl, cell_new' rfl⟩, h.f3, h.f7, h.f10, h.f11, h.f12⟩
      · cases hf
      · cases hf
      · cases ho
        have d4 : b4 = true := ha { on := 4, ground := .data } (by simp) rfl
        have d3 : b3 = true := ha { on := 3, ground := .chain } (by simp) rfl
        have n7 : b7 = false := hf
        obtain ⟨p, rfl, hp⟩ := hF.f4 d4
        obtain ⟨g, rfl, hg, hgl⟩ := hF.f3 d3
        have hC := repeat_any p 0 1 m (by omega) (-1) W (World.block_lt_of_cell? _ _ hp) hp
        have HC := Lib.hid hC
        have HF := Lib.hid hF
        have HHH := Lib.hid hH
        have N7 := Lib.hid n7
        have D3 := Lib.hid d3
        have HHG := Lib.hid hg
        clear hF hH ha hf hC d4 d3 n7 hg
        go_simp
        refine HC.out.mono ?_
        rintro e w6 ⟨rfl, hr6, hb6⟩
        dsimp only
        (try simp only [Act.put, List.setIfInBounds_toArray, List.set_cons_zero, List.set_cons_succ])
        refine hK.out _ _ (HeldW.step HHH.out hb6) (.inl ⟨b0, b3, b4, true, b10, b11, b12, v3, v7, _, _, _, v17, v18, rfl, rfl, ?_, HeldW.step HHH.out hb6⟩)
        have h := HF.out.step hb6
        exact ⟨h.f0, h.f4, h.f3, fun _ => ⟨D3.out, g, _, rfl, rfl, rowIs_step HHG.out hb6, hr6, hgl, HHH.out.2.size, Nat.ne_of_lt HHG.out.lt⟩, h.f10, fun e => (by have := (h.f11 e).2.1; rw [N7.out] at this; cases this), h.f12⟩
      · cases hf
      · cases hf
      · cases ho
        have na : b10 = false := hf
        have HF := Lib.hid hF
        have HHH := Lib.hid hH
        have NA := Lib.hid na
        clear hF hH ha hf na
        go_simp
        (try simp only [Act.put, List.setIfInBounds_toArray, List.set_cons_zero, List.set_cons_succ])
        refine hK.out _ _ (HeldW.alloc HHH.out _) (.inl ⟨b0, b3, b4, b7, true, b11, b12, v3, v7, v10, v11, v14, _, v18, rfl, rfl, ?_, HeldW.alloc HHH.out _⟩)
        have h := HF.out.step (below_alloc W (.cells (madeCells #[.bool false] m) 4))
        exact ⟨h.f0, h.f4, h.f3, h.f7, fun _ => ⟨_, rfl, World.rowIs_made W (.bool false) m 4, HHH.out.2.size⟩, fun e => (by have := (h.f11 e).2.2.1; rw [NA.out] at this; cases this), h.f12⟩
      · cases ho
        have d3 : b3 = true := ha { on := 3, ground := .data } (by simp) rfl
        have d7 : b7 = true := ha { on := 7, ground := .data } (by simp) rfl
        have da : b10 = true := ha { on := 10, ground := .data } (by simp) rfl
        have HF := Lib.hid hF
        have HHH := Lib.hid hH
        have DD := Lib.hid (show b3 = true ∧ b7 = true ∧ b10 = true from ⟨d3, d7, da⟩)
        obtain ⟨_, g, q, rfl, rfl, _⟩ := hF.f7 d7
        obtain ⟨t, rfl, _⟩ := hF.f10 da
        clear hF hH ha hf d3 d7 da
        go_simp
        (try simp only [Act.put, List.setIfInBounds_toArray, List.set_cons_zero, List.set_cons_succ])
        refine hK.out _ _ HHH.out (.inl ⟨b0, b3, b4, b7, b10, true, b12, v3, v7, _, v11, _, _, _, rfl, rfl, ?_, HHH.out⟩)
        have h := HF.out
        exact ⟨h.f0, h.f4, h.f3, h.f7, h.f10, fun _ => ⟨DD.out.1, DD.out.2.1, DD.out.2.2, rfl⟩, h.f12⟩
      · cases ho
        have HF := Lib.hid hF
        have HHH := Lib.hid hH
        clear hF hH ha hf
        go_simp
        (try simp only [Act.put, List.setIfInBounds_toArray, List.set_cons_zero, List.set_cons_succ])
        refine hK.out _ _ (HeldW.alloc HHH.out _) (.inl ⟨b0, b3, b4, b7, b10, b11, true, _, v7, v10, v11, v14, v17, v18, rfl, rfl, ?_, HeldW.alloc HHH.out _⟩)
        have h := HF.out.step (below_alloc W (.cells #[.slice none 0 0, .slice none 0 0, .slice none 0 0] 75))
        exact ⟨h.f0, h.f4, h.f3, h.f7, h.f10, h.f11, fun _ => ⟨_, rfl, HD.new W, HHH.out.2.size⟩⟩
      · cases ho
        have d0 : b0 = true := ha { on := 0, ground := .phase } (by simp) rfl
        have d4 : b4 = true := ha { on := 4, ground := .phase } (by simp) rfl
        have db : b11 = true := ha { on := 11, ground := .data } (by simp) rfl
        have dc : b12 = true := ha { on := 12, ground := .data } (by simp) rfl
        obtain ⟨d3, d7, da, rfl⟩ := hF.f11 db
        obtain ⟨_, g, h, rfl, rfl, hg, hh, lg, lh, ngh⟩ := hF.f7 d7
        obtain ⟨t, rfl, ht, lt⟩ := hF.f10 da
        obtain ⟨D, rfl, hD, lD⟩ := hF.f12 dc
        subst d0 d3 d4 d7 da db dc
        have c0 := hD.c0
        have c1' := hD.c1
        have c2' := hD.c2
        have cz := hD.fz
        have FIN := Lib.hid (fin_set hD hg hh ht hH ⟨lg, lh, lt, lD⟩ ⟨⟨ngh, rowIs_ne_row hg ht (by decide), rowIs_ne_row hh ht (by decide)⟩, rowIs_ne_hd hg hD (by decide), rowIs_ne_hd hh hD (by decide), rowIs_ne_hd ht hD (by decide)⟩)
        have HHH := Lib.hid (HeldW.set3 hB1 lD (.slice (some ⟨g, 0, none⟩) m m) (.slice (some ⟨h, 0, none⟩) m m) (.slice (some ⟨t, 0, none⟩) m m) hH)
        clear hF hH ha hf hg hh ht hD
        go_simp
        (try simp only [Act.put, List.setIfInBounds_toArray, List.set_cons_zero, List.set_cons_succ])
        exact hK.out _ _ HHH.out (.inr ⟨_, _, _, _, _, _, _, rfl, rfl, FIN.out⟩)
    · intro listed a W hI hr
      rcases hI with ⟨b0, b3, b4, b7, b10, b11, b12, v3, v7, v10, v11, v14, v17, v18, rfl, rfl, hF, hH⟩ | ⟨v3, v7, v10, v11, v14, v17, v18, rfl, rfl, hfin⟩
      · exfalso
        obtain rfl : b0 = true := came_up' hr (i := 0) rfl (by rfl)
        obtain rfl : b4 = true := came_up' hr (i := 4) rfl (by rfl)
        obtain rfl : b12 = true := came_up' hr (i := 12) rfl (by rfl)
        obtain rfl : b10 = true := came_up' hr (i := 10) rfl (by rfl)
        obtain rfl : b3 = true := came_up' hr (i := 3) rfl (by rfl)
        obtain rfl : b7 = true := came_up' hr (i := 7) rfl (by rfl)
        obtain rfl : b11 = true := came_up' hr (i := 11) rfl (by rfl)
        have : false = true := came_up' hr (i := 13) rfl (by rfl)
        cases this
      · have FIN := Lib.hid hfin
        clear hfin hr hHeld hb0 cf
        go_wp2_with fail
        go_meet
        case rel => exact FIN.out
  case rest =>
    obtain ⟨B3, gb, gh, gt, rfl, s0, s1, s2, hR, hne, hn3, lb, lh, lt, l3, hbx⟩ := hcut
    have hgl := hR.b.lt
    have hhl := hR.h.lt
    have htl := hR.t.lt
    have h3l : B3 < wc.heap.size := World.block_lt_of_cell? _ _ s0
    go_wp2_with fail
    have hE : Env (wc.alloc (.cells #[.func (.func 58) #[] #[.pointer (some ⟨w.heap.size, 0, none⟩), .pointer (some ⟨B3, 0, none⟩), .pointer (some ⟨wc.heap.size, 0, none⟩)]] 99)) es m w.heap.size B3 wc.heap.size gb gh gt w.heap.size A1 c1 := by
      have ha := below_alloc wc (.cells #[.func (.func 58) #[] #[.pointer (some ⟨w.heap.size, 0, none⟩), .pointer (some ⟨B3, 0, none⟩), .pointer (some ⟨wc.heap.size, 0, none⟩)]] 99)
      have hx := Boxed.new wc 99 (.func (.func 58) #[] #[.pointer (some ⟨w.heap.size, 0, none⟩), .pointer (some ⟨B3, 0, none⟩), .pointer (some ⟨wc.heap.size, 0, none⟩)])
      have hbw : Below w.heap.size w wc := hb.trans (hbx.mono (by omega))
      have hbw2 := hbw.trans (ha.mono hbw.size)
      exact ⟨(ha.cell (p := ⟨w.heap.size, 0, none⟩) (by show w.heap.size < _; omega)).trans ((hbx.cell (p := ⟨w.heap.size, 0, none⟩) (by show w.heap.size < _; omega)).trans cf), (ha.cell (p := ⟨B3, 0, none⟩) h3l).trans s0, (ha.cell (p := ⟨B3, 1, none⟩) h3l).trans s1, (ha.cell (p := ⟨B3, 2, none⟩) h3l).trans s2, hx.cell,
        hu.below hbw2, hT.below hT.pos hbw2, ⟨by omega, by omega, by omega⟩, hn3, ⟨by omega, by omega, by omega⟩, ⟨by omega, by omega, by omega⟩, hbw2.size, hT.pos, hne⟩
    have hR4 := hR.step (below_alloc wc (.cells #[.func (.func 58) #[] #[.pointer (some ⟨w.heap.size, 0, none⟩), .pointer (some ⟨B3, 0, none⟩), .pointer (some ⟨wc.heap.size, 0, none⟩)]] 99))
    obtain ⟨w4, hw4⟩ : ∃ w4, w4 = wc.alloc (.cells #[.func (.func 58) #[] #[.pointer (some ⟨w.heap.size, 0, none⟩), .pointer (some ⟨B3, 0, none⟩), .pointer (some ⟨wc.heap.size, 0, none⟩)]] 99) := ⟨_, rfl⟩
    rw [← hw4] at hE hR4 ⊢
    have hbw4 : Below w.heap.size w w4 := by
      rw [hw4]
      exact (hb.trans (hbx.mono (by omega))).alloc (by have := hbx.size; omega) _
    obtain ⟨B4, hB4⟩ : ∃ B4, B4 = wc.heap.size := ⟨_, rfl⟩
    have h24 : w4.heap[w.heap.size + 1]? = some (.cells #[.slice none 0 0, .slice none 0 0, .slice none 0 0] 75 (0, 0)) := by
      rw [hw4]
      exact ((below_alloc wc _).block _ (by have := hbx.size; omega)).trans ((hbx.block _ (by omega)).trans h2)
    have h2n : NB gb gh gt (w.heap.size + 1) := ⟨by omega, by omega, by omega⟩
    have h23 : ¬ (w.heap.size + 1 = B3) := by omega
    rw [← hB4] at hE ⊢
    have HE := Lib.hid hE
    have hlb : w.heap.size ≤ gb ∧ w.heap.size ≤ gh ∧ w.heap.size ≤ gt := ⟨by omega, by omega, by omega⟩
    have H24 := Lib.hid h24
    have hsl4 : w.heap.size + 1 < w4.heap.size := (Array.getElem?_eq_some_iff.1 h24).1
    clear hw4 hB4 hE s0 s1 s2 hR hbx bx1 hb h2 hw1 cf hgl hhl htl h3l lb lh lt l3 hs1 h24 hu hT
    go_loopw [5] (fun v wr => ∃ (r : Bool) (B H : Nat → Option Nat) (T : Nat → Bool), v = .bool r ∧ Rows3 wr m gb gh gt B H T ∧ Mt f m B H ∧ (r = false → Kon f m B H T) ∧ Keeps (NB gb gh gt) w4 wr) (fun v wr => mz gh m v wr)
    case atStart => exact ⟨true, _, _, _, rfl, hR4, ⟨fun k a h => (by cases h), fun a k h => (by cases h)⟩, fun h => (by cases h), Keeps.refl _ _⟩
    case round =>
      obtain ⟨r, B, H, T, rfl, hR, hM, hK, hkp⟩ := hrel
      clear hR4
      have hE := HE.out.keeps hkp
      cases r with
      | false =>
        have hK := hK rfl
        have k0 := hE.s0
        have k1 := hE.s1
        have k2 := hE.s2
        have h24 := (hkp.block _ hsl4 h2n).trans H24.out
        have z0 : wr.cell? ⟨w.heap.size + 1, 0, none⟩ = some (.slice none 0 0) := by unfold World.cell?; dsimp only; rw [h24]; rfl
        have z1 : wr.cell? ⟨w.heap.size + 1, 1, none⟩ = some (.slice none 0 0) := by unfold World.cell?; dsimp only; rw [h24]; rfl
        have z2 : wr.cell? ⟨w.heap.size + 1, 2, none⟩ = some (.slice none 0 0) := by unfold World.cell?; dsimp only; rw [h24]; rfl
        have zf : ∀ o, wr.frozen? ⟨w.heap.size + 1, o, none⟩ = false := fun o => by simp [World.frozen?, h24]
        have hrow := ((hR.other (p := ⟨w.heap.size + 1, 0, none⟩) h2n (.slice (some ⟨gb, 0, none⟩) m m)).other (p := ⟨w.heap.size + 1, 1, none⟩) h2n (.slice (some ⟨gh, 0, none⟩) m m)).other (p := ⟨w.heap.size + 1, 2, none⟩) h2n (.slice (some ⟨gt, 0, none⟩) m m)
        have hfin := three_set h24 (.slice (some ⟨gb, 0, none⟩) m m) (.slice (some ⟨gh, 0, none⟩) m m) (.slice (some ⟨gt, 0, none⟩) m m)
        have hbf := (((hbw4.trans (hkp.below (by omega) fun k hk => ⟨by omega, by omega, by omega⟩)).setCell (p := ⟨w.heap.size + 1, 0, none⟩) (Nat.le_succ _) (.slice (some ⟨gb, 0, none⟩) m m)).setCell (p := ⟨w.heap.size + 1, 1, none⟩) (Nat.le_succ _) (.slice (some ⟨gh, 0, none⟩) m m)).setCell (p := ⟨w.heap.size + 1, 2, none⟩) (Nat.le_succ _) (.slice (some ⟨gt, 0, none⟩) m m)
        have HROW := Lib.hid hrow
        have HFIN := Lib.hid hfin
        have HBF := Lib.hid hbf
        have HK := Lib.hid hK
        clear hrow hfin hbf hK h24
        go_wp2_with fail
        refine bodyPost_ret (results_cell_row rfl _ _ (w.heap.size + 1) 75 _ (0, 0) _ rfl HFIN.out rfl rfl Tryd.infoCh) rfl ?_
        exact ⟨gb, gh, gt, rfl, B, H, T, HROW.out, HK.out, hlb.1, hlb.2.1, hlb.2.2, HBF.out⟩
      | true =>
        clear hK
        have hcl := fun ty => run_clear_bool wr 73 4 ty Tryd.underlying73 (fun w => by kernel_rfl) gt m m (fun j hj => by rw [hR.t.cell hj]; rfl) (fun j _ => hR.t.frozen j)
        have hR5 := hR.clear hne
        have hk5 : Keeps (NB gb gh gt) wr (wr.setCells gt 0 (List.replicate m (.bool false))) := keeps_setCells gt (fun h => h.2.2 rfl) _ 0 (Keeps.refl _ wr)
        have hE5 := hE.keeps hk5
        have k2 := hE.s2
        have hf5 := hE5.f
        have HE5 := Lib.hid hE5
        have hmz : cntN gh m wr = unm m H := cntN_rows hR
        have HMZ := Lib.hid hmz
        have HM := Lib.hid hM
        have HR5 := Lib.hid hR5
        have HK5 := Lib.hid (hkp.trans hk5)
        obtain ⟨w5, hw5⟩ : ∃ w5, w5 = wr.setCells gt 0 (List.replicate m (.bool false)) := ⟨_, rfl⟩
        rw [← hw5] at hcl hf5 HE5 HR5 HK5
        obtain ⟨wo, hwo⟩ : ∃ wo : World, wo = wr := ⟨_, rfl⟩
        rw [← hwo] at HMZ hcl k2 ⊢
        clear hR hE hR5 hE5 hk5 hkp hmz hM hw5 hwo
        go_wp2_with fail
        go_loopw [25, 5] (fun i v wq => ∃ n : Nat, n ≤ m ∧ i = .int .i64 n ∧ ∃ (r : Bool) (B' H' : Nat → Option Nat) (T' : Nat → Bool), v = .bool r ∧ Rows3 wq m gb gh gt B' H' T' ∧ Mt f m B' H' ∧ Keeps (NB gb gh gt) w5 wq ∧
          ((r = true ∧ unm m H' < unm m H) ∨ (r = false ∧ B' = B ∧ H' = H ∧ (∀ a, a < n → H a = none → ∀ j, f a j = true → T' j = true) ∧ ∀ k, T' k = true → ∃ a, B k = some a ∧ ∀ j, f a j = true → T' j = true))) (fun i _ _ => m - (RowKit.intOf i).toNat)
        case atStart => exact ⟨0, Nat.zero_le _, rfl, false, B, H, _, rfl, HR5.out, HM.out, Keeps.refl _ _, .inr ⟨rfl, rfl, rfl, fun a h => by omega, fun k h => by cases h⟩⟩
        case round =>
          obtain ⟨n, hn, rfl, r, B', H', T', rfl, hRq, hMq, hkq, hcase⟩ := hrel
          have hEq := HE5.out.keeps hkq
          clear hcl hf5 k2
          by_cases hnm : n < m
          · have k1 := hEq.s1
            have kv := hEq.v
            have ch := hRq.h.cell hnm
            try dsimp only at ch
            have n0 : (0 : Int) ≤ (n : Int) := Int.natCast_nonneg _
            have n1 : (n : Int) < (m : Int) := by omega
            cases hHn : H' n with
            | some k =>
              rw [hHn] at ch
              have ch' : wr.cell? ⟨gh, n, none⟩ = some (.int .i64 (k : Int)) := ch
              have hk0 : ((k : Int) == -1) = false := beq_eq_false_iff_ne.2 (by omega)
              have HC : Hid ((r = true ∧ unm m H' < unm m H) ∨ (r = false ∧ B' = B ∧ H' = H ∧ (∀ a, a < n + 1 → H a = none → ∀ j, f a j = true → T' j = true) ∧ ∀ k, T' k = true → ∃ a, B k = some a ∧ ∀ j, f a j = true → T' j = true)) := by
                rcases hcase with h | ⟨h1, h2, h3, h4, h5⟩
                · exact .inl h
                · refine .inr ⟨h1, h2, h3, fun a ha hHa => ?_, h5⟩
                  by_cases e : a = n
                  · subst e
                    rw [h3, hHa] at hHn
                    cases hHn
                  · exact h4 a (by omega) hHa
              clear ch hcase hHn
              go_wp2_with fail
              go_roundw
              case rel => exact ⟨n + 1, by omega, by go_num, r, B', H', T', rfl, hRq, hMq, hkq, HC.out⟩
              case measure => simp [RowKit.intOf]; omega
            | none =>
              rw [hHn] at ch
              have ch' : wr.cell? ⟨gh, n, none⟩ = some (.int .i64 (-1)) := ch
              have HC := Lib.hid (extend_any es m hm hin f HF.out w.heap.size B3 B4 gb gh gt w.heap.size A1 c1 (untr m T') B' H' T' n (Nat.le_refl _) hMq hnm (fun k hk => by rw [hHn] at hk; cases hk) wr hEq hRq)
              have HHN := Lib.hid hHn
              have HCASE := Lib.hid hcase
              clear ch hcase hHn hRq hEq
              go_upto_region 11 with fail
              go_wp2_with (first | (go_at_call 58; refine HC.out.mono ?_; rintro e w6 ⟨r2, B2, H2, T2, rfl, hR2, hk2, hup2, hc2⟩; cases r2) | fail)
              · have hi : B2 = B' ∧ H2 = H' ∧ Fal f B' T' n T2 := by
                  rcases hc2 with ⟨h, _⟩ | ⟨_, h⟩
                  · cases h
                  · exact h
                obtain ⟨rfl, rfl, hfa⟩ := hi
                have HC2 : Hid ((r = true ∧ unm m H2 < unm m H) ∨ (r = false ∧ B2 = B ∧ H2 = H ∧ (∀ a, a < n + 1 → H a = none → ∀ j, f a j = true → T2 j = true) ∧ ∀ k, T2 k = true → ∃ a, B k = some a ∧ ∀ j, f a j = true → T2 j = true)) := by
                  rcases HCASE.out with h | ⟨h1, h2, h3, h4, h5⟩
                  · exact .inl h
                  · refine .inr ⟨h1, h2, h3, fun a ha hHa j hj => ?_, fun k hk => ?_⟩
                    · by_cases e : a = n
                      · subst e; exact hfa.all j hj
                      · exact hfa.up j (h4 a (by omega) hHa j hj)
                    · rcases hfa.new k hk with h6 | ⟨a, h6, h7⟩
                      · obtain ⟨a, h8, h9⟩ := h5 k h6
                        exact ⟨a, h8, fun j hj => hfa.up j (h9 j hj)⟩
                      · exact ⟨a, by rw [← h2]; exact h6, h7⟩
                clear hc2 hfa hup2
                go_wp2_with fail
                go_roundw
                case rel => exact ⟨n + 1, by omega, by go_num, r, _, _, T2, rfl, hR2, hMq, hkq.trans hk2, HC2.out⟩
                case measure => simp [RowKit.intOf]; omega
              · have hi : Suc f m B' H' T' n B2 H2 := by
                  rcases hc2 with ⟨_, h⟩ | ⟨h, _⟩
                  · exact h
                  · cases h
                have hM2 := hi.mt HHN.out
                have hun := unm_suc hnm HHN.out hi
                have HC2 : Hid (unm m H2 < unm m H) := by
                  rcases HCASE.out with ⟨_, h⟩ | ⟨_, _, h, _⟩
                  · show unm m H2 < unm m H; omega
                  · show unm m H2 < unm m H; rw [← h]; omega
                clear hc2 hi hun hup2
                go_wp2_with fail
                go_roundw
                case rel => exact ⟨n + 1, by omega, by go_num, true, B2, H2, T2, rfl, hR2, hM2, hkq.trans hk2, .inl ⟨rfl, HC2.out⟩⟩
                case measure => simp [RowKit.intOf]; omega
          · obtain rfl : n = m := by omega
            have hcn := cntN_rows hRq
            have HCN := Lib.hid hcn
            have HCASE := Lib.hid hcase
            have HKF := Lib.hid (HK5.out.trans hkq)
            clear hcn hcase hEq
            go_wp2_with fail
            go_roundw
            case rel =>
              refine ⟨r, B', H', T', rfl, hRq, hMq, fun hr => ?_, HKF.out⟩
              rcases HCASE.out with ⟨h, _⟩ | ⟨_, h2, h3, h4, h5⟩
              · rw [hr] at h; cases h
              · exact ⟨hMq, fun a ha hHa j hj => h4 a ha (by rw [← h3]; exact hHa) j hj, fun k hk => by rw [h2]; exact h5 k hk⟩
            case measure =>
              show mz gh n (.bool r) wr < mz gh n (.bool true) wo
              cases r with
              | false => show 0 < cntN gh n wo + 1; omega
              | true =>
                show cntN gh n wr + 1 < cntN gh n wo + 1
                rw [HCN.out, HMZ.out]
                rcases HCASE.out with ⟨_, h⟩ | ⟨h, _⟩
                · omega
                · cases h
end Go.Proofs.YtipihchlhkjdjaaDoor

namespace Go.Proofs.YtipihchlhkjdjaaDoor
open Go.RowKit
set_option maxRecDepth 100000

/-- a slice of ints whose block p names -/
structure RdIp (w : World) (p : Nat → Prop) (A : Option Addr) (zs : List Int) : Prop where
  lo : ∀ k, -9223372036854775808 ≤ zd zs k
  hi : ∀ k, zd zs k ≤ 9223372036854775807
  room : zs.length ≤ 1152921504606846976
  rd : 0 < zs.length → ∃ b off, A = some ⟨b, off, none⟩ ∧ p b ∧ b < w.heap.size ∧ ∀ k, k < zs.length → w.cell? ⟨b, off + k, none⟩ = some (.int .i64 (zd zs k))
theorem RdIp.toI {w : World} {p : Nat → Prop} {A : Option Addr} {zs : List Int} (h : RdIp w p A zs) : RdI w w.heap.size A zs := ⟨h.lo, h.hi, h.room, fun hn => by
  obtain ⟨b, off, hA, _, hb, hc⟩ := h.rd hn
  exact ⟨b, off, hA, hb, hc⟩⟩
theorem RdIp.imp {w w' : World} {p q : Nat → Prop} {A : Option Addr} {zs : List Int} (h : RdIp w p A zs) (hk : ∀ b, p b → b < w.heap.size → q b ∧ b < w'.heap.size ∧ ∀ o, w'.cell? ⟨b, o, none⟩ = w.cell? ⟨b, o, none⟩) : RdIp w' q A zs := ⟨h.lo, h.hi, h.room, fun hn => by
  obtain ⟨b, off, hA, hp, hb, hc⟩ := h.rd hn
  obtain ⟨h1, h2, h3⟩ := hk b hp hb
  exact ⟨b, off, hA, h1, h2, fun k hk' => (h3 _).trans (hc k hk')⟩⟩
theorem RdIp.step {w w' : World} {p : Nat → Prop} {A : Option Addr} {zs : List Int} (h : RdIp w p A zs) (hb : Below w.heap.size w w') : RdIp w' p A zs :=
  h.imp fun b hp hlt => ⟨hp, Nat.lt_of_lt_of_le hlt hb.size, fun o => hb.cell (p := ⟨b, o, none⟩) hlt⟩
theorem own_stp {w w' : World} {base e size n : Nat} {v : Value} {xs : List Value} (h : w.ownsRow base e size v n xs) (hb : Below w.heap.size w w') : w'.ownsRow base e size v n xs := by
  rcases h.2 with h0 | ⟨g, cap, cur, hv, hg, hh, hr⟩
  · exact ⟨h.1, .inl h0⟩
  · exact ⟨h.1, .inr ⟨g, cap, cur, hv, hg, (hb.block g (Array.getElem?_eq_some_iff.1 hh).1).trans hh, hr⟩⟩
theorem toI_zd {l : List Nat} {N : Nat} (h : ∀ x, x ∈ l → x < N) (k : Nat) : 0 ≤ zd (toI l) k ∧ (zd (toI l) k < (N : Int) ∨ zd (toI l) k = 0) := by
  unfold zd toI
  rw [List.getD, List.getElem?_map]
  cases e : l[k]? with
  | none => simp
  | some x => have := h x (List.mem_of_getElem? e); simp; omega
theorem own_rdIp {w : World} {base : Nat} {e : TypeId} {v : Value} {zs : List Int} (h : w.ownsRow base e 1 v zs.length (iVals zs)) (hlo : ∀ k, -9223372036854775808 ≤ zd zs k) (hhi : ∀ k, zd zs k ≤ 9223372036854775807) (hroom : zs.length ≤ 1152921504606846976) :
    ∃ A c, v = .slice A zs.length c ∧ RdIp w (fun b => base ≤ b) A zs := by
  obtain ⟨A, c, hv⟩ := own_any h
  refine ⟨A, c, hv, hlo, hhi, hroom, fun hn => ?_⟩
  obtain ⟨g, cap, hv2, hb, hg⟩ := own_shape h hn
  rw [hv2] at hv h
  injection hv with hA _ hc
  subst hA
  exact ⟨g, 0, rfl, hb, hg, fun k hk => by rw [Nat.zero_add, h.cellAt k (by omega)]; exact iVals_at zs k hk⟩

/-- a list of lists that the call owns: its row may grow, each list lies elsewhere -/
def LL (w : World) (v : Value) (ls : List (List Int)) (hd : List Value) : Prop := ∀ k, k < ls.length → ∃ A c, hd[k]? = some (.slice A (ls.getD k []).length c) ∧ RdIp w (fun b => v.ownBlock ≠ some b) A (ls.getD k [])
def OwnII (w : World) (base : Nat) (v : Value) (ls : List (List Int)) : Prop := ∃ hd : List Value, w.ownsRow base 34 1 v ls.length hd ∧ hd.length = ls.length ∧ LL w v ls hd
theorem OwnII.nil (w : World) (base : Nat) : OwnII w base (.slice none 0 0) [] := ⟨[], World.ownsRow_nil _ _ _ _, rfl, fun k hk => by simp at hk⟩
theorem OwnII.step {w w' : World} {base : Nat} {v : Value} {ls : List (List Int)} (h : OwnII w base v ls) (hb : Below w.heap.size w w') : OwnII w' base v ls := by
  obtain ⟨hd, h1, h2, h3⟩ := h
  exact ⟨hd, own_stp h1 hb, h2, fun k hk => by
    obtain ⟨A, c, h4, h5⟩ := h3 k hk
    exact ⟨A, c, h4, h5.step hb⟩⟩
theorem getD_app {α : Type} (l r : List α) {k : Nat} (h : k < l.length) {d : α} : (l ++ r).getD k d = l.getD k d := by
  unfold List.getD; rw [List.getElem?_append_left h]
theorem OwnII.app {w w1 : World} {base c : Nat} {v v' : Value} {ls : List (List Int)} {hd : List Value} {A : Option Addr} {zs : List Int} (hl : hd.length = ls.length) (h : LL w v ls hd) (hz : RdIp w (fun b => v.ownBlock ≠ some b) A zs) (o : Obj)
    (hown : w1.ownsRow base 34 1 v' (ls.length + 1) (hd ++ [.slice A zs.length c])) (hg : (w.alloc o).grownBy w1 v.ownBlock) (hat : v'.ownBlock = v.ownBlock ∨ v'.ownBlock = some (w.alloc o).heap.size) : OwnII w1 base v' (ls ++ [zs]) := by
  have key : ∀ {A : Option Addr} {zs : List Int}, RdIp w (fun b => v.ownBlock ≠ some b) A zs → RdIp w1 (fun b => v'.ownBlock ≠ some b) A zs := fun hr => hr.imp fun b hp hb => by
    have hb1 : b < (w.alloc o).heap.size := by simp; omega
    have hk := hg.block b hb1 (fun e => hp e.symm)
    refine ⟨fun e => ?_, ?_, fun off => ?_⟩
    · rcases hat with h1 | h1
      · exact hp (h1.symm.trans e)
      · rw [h1] at e; injection e with e; omega
    · have := hg.size; omega
    · exact (World.cell?_of_block (a := ⟨b, off, none⟩) hk).trans ((below_alloc w o).cell (p := ⟨b, off, none⟩) hb)
  refine ⟨hd ++ [.slice A zs.length c], by simpa using hown, by simp [hl], fun k hk => ?_⟩
  rw [List.length_append, List.length_singleton] at hk
  by_cases e : k < ls.length
  · obtain ⟨A', c', h4, h5⟩ := h k e
    refine ⟨A', c', ?_, ?_⟩
    · rw [List.getElem?_append_left (by omega), getD_app _ _ e]; exact h4
    · rw [getD_app _ _ e]; exact key h5
  · obtain rfl : k = ls.length := by omega
    have e1 : (ls ++ [zs]).getD ls.length [] = zs := by simp [List.getD]
    refine ⟨A, c, ?_, ?_⟩
    · rw [e1, ← hl]; simp
    · rw [e1]; exact key hz
theorem OwnII.rd {w : World} {base : Nat} {v : Value} {ls : List (List Int)} (h : OwnII w base v ls) (hl : ls.length ≤ 1048576) : ∃ A c, v = .slice A ls.length c ∧ RdII w w.heap.size A ls := by
  obtain ⟨hd, h1, h2, h3⟩ := h
  obtain ⟨A, c, rfl⟩ := own_any h1
  have h4 : ∀ k, ∃ Ac : Option Addr × Nat, k < ls.length → hd[k]? = some (.slice Ac.1 (ls.getD k []).length Ac.2) ∧ RdI w w.heap.size Ac.1 (ls.getD k []) := fun k => by
    by_cases hk : k < ls.length
    · obtain ⟨A, c, h5, h6⟩ := h3 k hk
      exact ⟨(A, c), fun _ => ⟨h5, h6.toI⟩⟩
    · exact ⟨(none, 0), fun h => absurd h hk⟩
  refine ⟨A, c, rfl, hl, fun i => (h4 i).choose.1, fun i => (h4 i).choose.2, own_rd h1 fun k hk => ((h4 k).choose_spec hk).1, fun k hk => ((h4 k).choose_spec hk).2⟩

def lnV : Value → Nat
  | .slice _ n _ => n
  | _ => 0
theorem own_ln {w : World} {base e size n : Nat} {v : Value} {xs : List Value} (h : w.ownsRow base e size v n xs) : lnV v = n := by
  rcases h.2 with ⟨rfl, rfl⟩ | ⟨g, cap, cur, rfl, _⟩ <;> rfl
theorem chO_lt {f : Nat → Nat → Bool} {m n k x : Nat} {B H : Nat → Option Nat} (hM : Mt f m B H) (hS : So f m) (hn : n < m) (hx : x ∈ chO H n k) : x < m := by
  obtain ⟨i, _, hi⟩ := chO_mem.1 hx
  exact (itO_lt hM hS hn hi).2

theorem OwnII.blk {w : World} {base : Nat} {v : Value} {ls : List (List Int)} (h : OwnII w base v ls) : ∀ b, v.ownBlock = some b → b < w.heap.size := by
  obtain ⟨hd, h1, _⟩ := h
  exact fun b hb => (h1.lt b hb).2
theorem so_of {m : Nat} {es : List (Int × Int)} (hin : inR m es = true) (hfull : (ordr m es).length = m) : So (fw (gR es) m) m :=
  ⟨fw_irr hin hfull, fun h1 h2 => fw_tr hin h1 h2, fun h => fw_lt hin h⟩
/-- a list of chains, one for each that has nobody ahead -/
def CovL (N : Int) (es : List (Int × Int)) (L : List (List Int)) : Prop := (errn N es ≠ 0 → L = []) ∧ (errn N es = 0 → ∃ B H T, Kon (fw (gR es) N.toNat) N.toNat B H T ∧ L = (cov B H N.toNat).map toI)
/-- those that are the last in their chains that were not tried -/
def WidL (N : Int) (es : List (Int × Int)) (L : List Int) : Prop := (errn N es ≠ 0 → L = []) ∧ (errn N es = 0 → ∃ B H T, Kon (fw (gR es) N.toNat) N.toNat B H T ∧ L = toI ((List.range N.toNat).filter (lastU H T)))
def cvs (B H : Nat → Option Nat) (m k : Nat) : List (List Int) := (((List.range k).filter (start B)).map (chn' H m)).map toI
theorem cvs_snoc {B H : Nat → Option Nat} {m k : Nat} (h : B k = none) : cvs B H m (k + 1) = cvs B H m k ++ [toI (chn' H m k)] := by
  unfold cvs
  rw [List.range_succ, List.filter_append]
  simp [start, h]
theorem cvs_same {B H : Nat → Option Nat} {m k a : Nat} (h : B k = some a) : cvs B H m (k + 1) = cvs B H m k := by
  unfold cvs
  rw [List.range_succ, List.filter_append]
  simp [start, h]
theorem cvs_len (B H : Nat → Option Nat) (m k : Nat) : (cvs B H m k).length ≤ k := by
  unfold cvs
  rw [List.length_map, List.length_map]
  have := List.length_filter_le (start B) (List.range k)
  rwa [List.length_range] at this

def wds (H : Nat → Option Nat) (T : Nat → Bool) (k : Nat) : List Int := toI ((List.range k).filter (lastU H T))
theorem wds_snoc {H : Nat → Option Nat} {T : Nat → Bool} {k : Nat} (h : lastU H T k = true) : wds H T (k + 1) = wds H T k ++ [((k : Nat) : Int)] := by
  unfold wds
  rw [List.range_succ, List.filter_append]
  simp [h, toI]
theorem wds_same {H : Nat → Option Nat} {T : Nat → Bool} {k : Nat} (h : lastU H T k = false) : wds H T (k + 1) = wds H T k := by
  unfold wds
  rw [List.range_succ, List.filter_append]
  simp [h]
theorem wds_len (H : Nat → Option Nat) (T : Nat → Bool) (k : Nat) : (wds H T k).length ≤ k := by
  unfold wds
  rw [toI_len]
  have := List.length_filter_le (lastU H T) (List.range k)
  rwa [List.length_range] at this

set_option maxHeartbeats 8000000 in
theorem wide_any (A : Option Addr) (c : Nat) (N : Int) (es : List (Int × Int)) (w : World) (he : RdE w w.heap.size A es) (hT : Tab w) :
    Calls Tryd.prog 19 #[.agg #[.int .i64 N, .slice A es.length c]] w fun e w' => ∃ A1 c1 L, e = .returned (.tuple #[.slice A1 L.length c1, .int .i64 (errn N es)]) ∧ RdI w' w'.heap.size A1 L ∧ WidL N es L ∧ L.length ≤ 200 ∧ Below w.heap.size w w' := by
  obtain ⟨i0, hi, hz0, hz1, hz2⟩ := info_parts Tryd.infoInt
  go_enter Tryd.func19, Tryd.ntmps19
  go_wp2_with fail
  have g1 := GB.new w 24 N (.slice A es.length c)
  have hB := below_alloc w (.cells #[.int .i64 N, .slice A es.length c] 24)
  obtain ⟨w1, hw1⟩ : ∃ w1, w1 = w.alloc (.cells #[.int .i64 N, .slice A es.length c] 24) := ⟨_, rfl⟩
  rw [← hw1] at g1 hB ⊢
  have hs := hB.size
  replace he := he.step hB
  replace hT := hT.step hB
  clear hw1
  refine (behind_any A c N es _ he hT).mono ?_
  rintro e w2 ⟨A1, c1, rfl, hu, hb⟩
  replace g1 := g1.step hb
  replace hB := below_step hB hs hb
  replace hT := hT.step hb
  replace hs := hB.size
  clear hb he
  have n1 := g1.n
  by_cases hE : errn N es = 0
  · obtain ⟨m, rfl, hin, hfull⟩ := errn_split hE
    have hm : m ≤ 200 := by have := hin; unfold inR okN200 at this; simp at this; omega
    have e3 : behG m es = behs m es := by unfold behG; rw [if_pos hE, Int.toNat_natCast]
    rw [e3] at hu
    rw [e3, hE, behs_len]
    have HE := Lib.hid hE
    have HC := Lib.hid (fewest_any es m hm hin (fw (gR es) m) rfl A1 c1 w2 hu hT)
    clear e3 hE hin hfull hT hu g1 n1
    go_upto_region 4 with fail
    go_wp2_with (go_at_call 38; refine HC.out.mono ?_; rintro e w3 ⟨gb, gh, gt, B, H, T, rfl, hR, hK, l1, l2, l3, hb3⟩)
    have hs3 := hb3.size
    have h24 := World.alloc_heap_new w3 (.cells #[.slice (some ⟨gb, 0, none⟩) m m, .slice (some ⟨gh, 0, none⟩) m m, .slice (some ⟨gt, 0, none⟩) m m] 75)
    obtain ⟨_, k1, _⟩ := cells3 h24
    have hb4 := below_alloc w3 (.cells #[.slice (some ⟨gb, 0, none⟩) m m, .slice (some ⟨gh, 0, none⟩) m m, .slice (some ⟨gt, 0, none⟩) m m] 75)
    obtain ⟨w4, hw4⟩ : ∃ w4, w4 = w3.alloc (.cells #[.slice (some ⟨gb, 0, none⟩) m m, .slice (some ⟨gh, 0, none⟩) m m, .slice (some ⟨gt, 0, none⟩) m m] 75) := ⟨_, rfl⟩
    rw [← hw4] at k1 hb4 ⊢
    have hs4 : w4.heap.size = w3.heap.size + 1 := by rw [hw4]; simp
    have h34 : w4.heap[w3.heap.size]? = some (.cells #[.slice (some ⟨gb, 0, none⟩) m m, .slice (some ⟨gh, 0, none⟩) m m, .slice (some ⟨gt, 0, none⟩) m m] 75 (0, 0)) := by rw [hw4]; exact h24
    have hR4 := hR.step hb4
    have lb := hR.b.lt
    have lh := hR.h.lt
    have lt := hR.t.lt
    have hbw : Below w.heap.size w w4 := hB.trans ((hb3.trans (hb4.mono hs3)).mono hs)
    have HK := Lib.hid hK
    have HBW := Lib.hid hbw
    have H34 := Lib.hid h34
    clear hw4 h24 hb3 hb4 hR hK hbw hB HC h34
    go_wp2_with fail
    go_loopw [23, 7] (fun i v wr => ∃ k : Nat, k ≤ m ∧ i = .int .i64 k ∧ wr.ownsRow w4.heap.size 3 1 v (wds H T k).length (iVals (wds H T k)) ∧ Below w4.heap.size w4 wr) (fun i _ _ => m - (RowKit.intOf i).toNat)
    case atStart => exact ⟨0, Nat.zero_le _, rfl, World.ownsRow_nil _ _ _ _, Below.refl _ _⟩
    case round =>
      obtain ⟨k, hk, rfl, hown, hbr⟩ := hrel
      have hsz := hbr.size
      clear k1
      by_cases hkm : k < m
      · have hrh := rowIs_below hR4.h hbr (by omega)
        have hrt := rowIs_below hR4.t hbr (by omega)
        have ch := hrh.cell hkm
        have ct := hrt.cell hkm
        have z0 : (0 : Int) ≤ (k : Int) := Int.natCast_nonneg _
        have z1 : (k : Int) < (m : Int) := by omega
        have h34r := (hbr.block w3.heap.size (by omega)).trans H34.out
        obtain ⟨_, _, k2⟩ := cells3 h34r
        have hlen := wds_len H T k
        have h3 : (wds H T k).length + 1 ≤ maxLen := by unfold maxLen; omega
        have h4 : ((wds H T k).length + 1) * 8 ≤ 140737488355328 := by omega
        have h5 : w4.heap.size ≤ (wr.alloc (.cells #[.int .i64 (k : Int)] 3)).heap.size := by simp; omega
        try dsimp only at ch ct
        clear h34r
        cases hTk : T k with
        | true =>
          rw [hTk] at ct
          have HL := Lib.hid (show lastU H T k = false by simp [lastU, hTk])
          clear hTk
          go_wp2_with fail
          go_roundw
          case rel => exact ⟨k + 1, by omega, by go_num, by rw [wds_same HL.out]; exact hown, hbr⟩
          case measure => simp [RowKit.intOf]; omega
        | false =>
          rw [hTk] at ct
          cases hHk : H k with
          | none =>
            rw [hHk] at ch
            have ch' : wr.cell? ⟨gh, k, none⟩ = some (.int .i64 (-1)) := ch
            have HL := Lib.hid (show lastU H T k = true by simp [lastU, hTk, hHk])
            clear hTk hHk ch
            go_wp2_with (at_builtin; refine wpList_append_own _ rfl _ _ 34 rfl w4.heap.size 3 i0 (.int .i64 0) 1 8 Tryd.underlying34 hi hz0 hz1 hz2 rfl (by decide) _ _ _ rfl (hown.alloc _) ⟨wr.heap.size, 0, none⟩ 1 1 [.int .i64 (k : Int)] rfl rfl (cell_one_new _ _ _) (by simp [Value.oneCell']) h3 h4 h5 ?_; intro v' wa hown' hgrow _; have hB1 := below_app hbr hsz hown hgrow)
            rw [iVals_snoc, ← wds_snoc HL.out] at hown'
            have he : (wds H T k).length + 1 = (wds H T (k + 1)).length := by rw [wds_snoc HL.out, List.length_append]; rfl
            rw [he] at hown'
            clear he hgrow
            go_roundw
            case rel => exact ⟨k + 1, by omega, by go_num, hown', hB1⟩
            case measure => simp [RowKit.intOf]; omega
          | some a =>
            rw [hHk] at ch
            have ch' : wr.cell? ⟨gh, k, none⟩ = some (.int .i64 (a : Int)) := ch
            obtain ⟨_, ham, _⟩ := HK.out.mt.next hHk
            have y0 : (0 : Int) ≤ (a : Int) := Int.natCast_nonneg _
            have y1 : (a : Int) < (m : Int) := by omega
            have y2 : ((a : Int) == -1) = false := beq_eq_false_iff_ne.2 (by omega)
            have cta := hrt.cell ham
            try dsimp only at cta
            cases hTa : T a with
            | true =>
              rw [hTa] at cta
              have HL := Lib.hid (show lastU H T k = true by simp [lastU, hTk, hHk, hTa])
              clear hTk hHk hTa ch
              go_wp2_with (at_builtin; refine wpList_append_own _ rfl _ _ 34 rfl w4.heap.size 3 i0 (.int .i64 0) 1 8 Tryd.underlying34 hi hz0 hz1 hz2 rfl (by decide) _ _ _ rfl (hown.alloc _) ⟨wr.heap.size, 0, none⟩ 1 1 [.int .i64 (k : Int)] rfl rfl (cell_one_new _ _ _) (by simp [Value.oneCell']) h3 h4 h5 ?_; intro v' wa hown' hgrow _; have hB1 := below_app hbr hsz hown hgrow)
              rw [iVals_snoc, ← wds_snoc HL.out] at hown'
              have he : (wds H T k).length + 1 = (wds H T (k + 1)).length := by rw [wds_snoc HL.out, List.length_append]; rfl
              rw [he] at hown'
              clear he hgrow
              go_roundw
              case rel => exact ⟨k + 1, by omega, by go_num, hown', hB1⟩
              case measure => simp [RowKit.intOf]; omega
            | false =>
              rw [hTa] at cta
              have HL := Lib.hid (show lastU H T k = false by simp [lastU, hTk, hHk, hTa])
              clear hTk hHk hTa ch
              go_wp2_with fail
              go_roundw
              case rel => exact ⟨k + 1, by omega, by go_num, by rw [wds_same HL.out]; exact hown, hbr⟩
              case measure => simp [RowKit.intOf]; omega
      · obtain rfl : k = m := by omega
        have hl : (wds H T k).length ≤ k := wds_len H T k
        have hz := fun j => toI_zd (l := (List.range k).filter (lastU H T)) (N := k) (fun x hx => List.mem_range.1 (List.mem_filter.1 hx).1) j
        obtain ⟨A9, c9, rfl, hr9⟩ := own_rdI hown (fun j => by have := hz j; unfold wds; omega) (fun j => by have := hz j; unfold wds; omega) (by omega)
        have HR := Lib.hid hr9
        clear hr9 hown hz
        go_wp2_with fail
        go_ret2
        rw [HE.out]
        exact ⟨A9, c9, wds H T k, rfl, HR.out, ⟨fun h => absurd HE.out h, fun _ => ⟨B, H, T, by rw [Int.toNat_natCast]; exact HK.out, by rw [Int.toNat_natCast]; rfl⟩⟩, by omega, HBW.out.trans (hbr.mono (HBW.out.size))⟩
  · have e3 : behG N es = [] := by unfold behG; rw [if_neg hE]
    rw [e3] at hu ⊢
    have ne1 : (errn N es == 0) = false := beq_eq_false_iff_ne.2 hE
    have HE := Lib.hid hE
    clear hE e3
    go_wp2_with fail
    go_ret2
    exact ⟨none, 0, [], rfl, ⟨fun k => by simp [zd], fun k => by simp [zd], by simp, fun h => by simp at h⟩, ⟨fun _ => rfl, fun h => absurd h HE.out⟩, by simp, hB⟩
end Go.Proofs.YtipihchlhkjdjaaDoor

namespace Go.Proofs.YtipihchlhkjdjaaDoor
open Go.RowKit
set_option maxRecDepth 100000

theorem rds_flat (R : Nat → Nat → Bool) (N w : Nat) : ∀ k, (rds R N w k).flatten = toI (gdn R N w k)
  | 0 => rfl
  | k + 1 => by
    rw [rds_snoc, List.flatten_append, rds_flat R N w k]
    show _ = toI (gdn R N w k ++ rnow R N w (gdn R N w k))
    unfold toI
    rw [List.map_append]
    simp
theorem rds_pos {R : Nat → Nat → Bool} {N w : Nat} (hw : 1 ≤ w) (hc : ∀ x, ¬ Path R x x) {k : Nat} (hk : k < grn R N w) : 0 < ((rds R N w (grn R N w)).getD k []).length := by
  rw [rds_at hk, toI_len]
  exact rnow_pos hw hc ((grn_spec hw hc (R := R) (N := N)).2.1 k hk)
theorem alone_all {m : Nat} {es : List (Int × Int)} (hin : inR m es = true) (hfull : (ordr m es).length = m) : (rds (gR es) m 1 (grn (gR es) m 1)).flatten = toI (ordr m es) := by
  have h := grn_spec (Nat.le_refl 1) (acyc hin hfull) (R := gR es) (N := m)
  have h1 := h.1
  rw [rds_flat, gdn_one]
  rw [gdn_one, topoN_k hfull _ h.2.2] at h1
  rw [h1]
  rfl
/-- who is ready is side by side: never more than there are chains -/
theorem ready_wide {m : Nat} {es : List (Int × Int)} (hin : inR m es = true) (hfull : (ordr m es).length = m) (hE : errn m es = 0) {L : List Int} (h : WidL m es L) (w k : Nat) : (rdyL (gR es) m (gdn (gR es) m w k)).length ≤ L.length := by
  obtain ⟨B, H, T, hK, rfl⟩ := h.2 hE
  rw [Int.toNat_natCast] at hK ⊢
  have hS := so_of hin hfull
  rw [toI_len, cntB_filter, hK.count hS]
  unfold rdyL
  rw [cntB_filter]
  have e : cntB m (ready (gR es) m (gdn (gR es) m w k)) = cntB m fun a => decide (a < m) && ready (gR es) m (gdn (gR es) m w k) a := sumN_congr fun n hn => by simp [hn]
  rw [e]
  refine apart_le hK.mt hS _ fun a b ha hb => ?_
  simp only [Bool.and_eq_true, decide_eq_true_eq] at ha hb
  rw [← Bool.not_eq_true]
  intro hf
  exact rdyL_apart (gR_lt hin) (gdn_good _ _ _ _) (mem_rdyL.2 ha) (mem_rdyL.2 hb) ((fw_iff (gR_lt hin) a b).1 hf)

set_option maxHeartbeats 4000000 in
theorem aloneLaw_any (A : Option Addr) (c : Nat) (N : Int) (es : List (Int × Int)) (w : World) (he : RdE w w.heap.size A es) (_hl : es.length ≤ 1048576) (hT : Tab w) :
    Calls Tryd.prog 7 #[.agg #[.int .i64 N, .slice A es.length c]] w fun e w' => e = .returned (.bool true) ∧ Below w.heap.size w w' := by
  go_enter Tryd.func7, Tryd.ntmps7
  go_wp2_with fail
  have g1 : GB 24 (w.alloc (.cells #[.int .i64 N, .slice A es.length c] 24)) w.heap.size N (.slice A es.length c) := GB.new w 24 N (.slice A es.length c)
  have hB := below_alloc w (.cells #[.int .i64 N, .slice A es.length c] 24)
  obtain ⟨w1, hw1⟩ : ∃ w1, w1 = w.alloc (.cells #[.int .i64 N, .slice A es.length c] 24) := ⟨_, rfl⟩
  rw [← hw1] at g1 hB ⊢
  have hs := hB.size
  replace he := he.step hB
  replace hT := hT.step hB
  clear hw1
  refine (alive6_any _ hT).mono ?_
  rintro e w2 ⟨rfl, hb⟩
  replace g1 := gb_step g1 hb
  replace he := he.step hb
  replace hT := hT.step hb
  replace hB := below_step hB hs hb
  replace hs := hB.size
  clear hb
  have n1 := g1.n
  have e1 := g1.e
  go_wp2_with fail
  clear n1 e1
  by_cases hE : errn N es = 0
  · obtain ⟨m, rfl, hin, hfull⟩ := errn_split hE
    have hm : m ≤ 200 := by have := okN_of hin; omega
    have hR1 : rndE m es 1 = 0 := by unfold rndE; rw [if_neg (by omega), if_pos (by decide)]
    have hR16 : rndE m es 16 = 0 := by unfold rndE; rw [if_neg (by omega), if_pos (by decide)]
    have hL1 : rndL m es 1 = rds (gR es) m 1 (grn (gR es) m 1) := by unfold rndL; rw [if_pos hR1, Int.toNat_natCast]; rfl
    have hL16 : rndL m es 16 = rds (gR es) m 16 (grn (gR es) m 16) := by unfold rndL; rw [if_pos hR16, Int.toNat_natCast]; rfl
    have hflat := alone_all hin hfull
    have hO : ordG m es = toI (ordr m es) := by unfold ordG; rw [if_pos hE, Int.toNat_natCast]
    obtain ⟨S, hS⟩ : ∃ S, S = toI (ordr m es) := ⟨_, rfl⟩
    obtain ⟨zss, hz⟩ : ∃ zss, zss = rds (gR es) m 1 (grn (gR es) m 1) := ⟨_, rfl⟩
    have hzl : zss.length = grn (gR es) m 1 := by rw [hz, rds_len]
    have hpos : ∀ k, k < zss.length → 0 < (zss.getD k []).length := fun k hk => by
      rw [hzl] at hk
      rw [hz]
      exact rds_pos (Nat.le_refl 1) (acyc hin hfull) hk
    have hft : ftk zss zss.length = S := by rw [ftk_all, hz, hflat, hS]
    have hSl : S.length ≤ 1048576 := by rw [hS, toI_len, hfull]; omega
    have hbd := zd_toI_bd (ordr m es) m (good_topoN _ _ _).lt
    rw [← hS] at hbd hO
    have f1 := rounds_any A c m es 1 w2 he hT
    rw [hL1, hR1, ← hz] at f1
    have HFT := Lib.hid hft
    have HSL := Lib.hid hSl
    have HPOS := Lib.hid hpos
    have HLO := Lib.hid (show ∀ k, -9223372036854775808 ≤ zd S k from fun k => by have := hbd k; omega)
    have HHI := Lib.hid (show ∀ k, zd S k ≤ 9223372036854775807 from fun k => by have := hbd k; omega)
    have HO := Lib.hid hO
    have HE := Lib.hid hE
    have H16 := Lib.hid hR16
    have HL16 := Lib.hid hL16
    have HIN := Lib.hid hin
    have HFU := Lib.hid hfull
    clear hin hfull hE hO hS hz hzl hpos hft hSl hbd hflat hL1 hL16 hR1 hR16
    refine f1.mono ?_
    rintro e w3 ⟨A1, c1, rfl, l1, hb⟩
    clear f1
    replace g1 := gb_step g1 hb
    replace he := he.step hb
    replace hT := hT.step hb
    replace hB := below_step hB hs hb
    replace hs := hB.size
    clear hb
    have n1 := g1.n
    have e1 := g1.e
    go_wp2_with fail
    clear n1 e1
    have f2 := sort_any A c m es _ he hT
    rw [HO.out, HE.out] at f2
    refine f2.mono ?_
    rintro e w4 ⟨A2, c2, rfl, l2, hb⟩
    clear f2
    replace g1 := gb_step g1 hb
    replace he := he.step hb
    replace hT := hT.step hb
    replace hB := below_step hB hs hb
    replace hs := hB.size
    replace l1 := l1.step hb
    clear hb
    have n1 := g1.n
    have e1 := g1.e
    go_wp2_with fail
    clear n1 e1
    have f3 := wide_any A c m es _ he hT
    rw [HE.out] at f3
    refine f3.mono ?_
    rintro e w5 ⟨A3, c3, L, rfl, _, hWL, _, hb⟩
    clear f3
    replace g1 := gb_step g1 hb
    replace he := he.step hb
    replace hT := hT.step hb
    replace hB := below_step hB hs hb
    replace hs := hB.size
    replace l1 := l1.step hb
    replace l2 := l2.step hb
    clear hb
    obtain ⟨wl, hwl⟩ : ∃ wl, wl = L.length := ⟨_, rfl⟩
    rw [← hwl]
    by_cases hc1 : wl ≤ 16
    · by_cases hc2 : 0 < wl
      · have hgr : grn (gR es) m 16 = hgt (lvs m es) m := grn_enough (by decide) (lvs_lev HIN.out HFU.out) (ordr_good m es) HFU.out (gR_lt HIN.out) (acyc HIN.out HFU.out) fun k => Nat.le_trans (ready_wide HIN.out HFU.out HE.out hWL 16 k) (by omega)
        obtain ⟨r, hr⟩ : ∃ r, r = grn (gR es) m 16 := ⟨_, rfl⟩
        have hrm := (grn_spec (show 1 ≤ 16 by decide) (acyc HIN.out HFU.out) (R := gR es) (N := m)).2.2
        have f4 := rounds_any A c m es 16 _ he hT
        rw [HL16.out, H16.out, rds_len, ← hr] at f4
        have hH : hgtG m es = (r : Int) := by rw [hgtG_ok HE.out, hr, hgr]
        have HH := Lib.hid hH
        have HF4 := Lib.hid f4
        have t1 : ((wl : Int) ≤ 16) := by omega
        have t2 : ((0 : Int) < (wl : Int)) := by omega
        rw [← hr] at hrm
        clear hWL hwl hgr hr hH f4
        have n1 := g1.n
        have e1 := g1.e
        go_wp2_with fail
        clear n1 e1
        refine HF4.out.mono ?_
        rintro e w6 ⟨A4, c4, rfl, _, hb⟩
        replace g1 := gb_step g1 hb
        replace he := he.step hb
        replace hT := hT.step hb
        replace hB := below_step hB hs hb
        replace hs := hB.size
        replace l1 := l1.step hb
        replace l2 := l2.step hb
        clear hb
        have n1 := g1.n
        have e1 := g1.e
        go_wp2_with fail
        clear n1 e1
        have f5 := heightG_any A c m es _ he hT
        rw [HH.out, HE.out] at f5
        refine f5.mono ?_
        rintro e w7 ⟨rfl, hb⟩
        clear f5
        replace g1 := gb_step g1 hb
        replace he := he.step hb
        replace hT := hT.step hb
        replace hB := below_step hB hs hb
        replace hs := hB.size
        replace l1 := l1.step hb
        replace l2 := l2.step hb
        clear hb
        have hrr : ((r : Int) != (r : Int)) = false := by simp
        have HB6 := Lib.hid hB
        have HS6 := Lib.hid hs
        have HL2 := Lib.hid l2
        have hcc := concat_any A1 c1 zss _ l1 (by rw [HFT.out]; exact HSL.out) HPOS.out
        rw [HFT.out] at hcc
        have HCC := Lib.hid hcc
        clear hB hs l1 l2 g1 he hT hcc
        go_wp2_with fail
        refine HCC.out.mono ?_
        rintro e w8 ⟨v8, rfl, ho8, hb8⟩
        obtain ⟨A8, c8, rfl, l8⟩ := own_rdI ho8 HLO.out HHI.out (Nat.le_trans HSL.out (by decide))
        have hq := equalI_same A8 A2 c8 c2 S _ l8 (HL2.out.step hb8)
        have HQ := Lib.hid hq
        have HB8 := Lib.hid (below_step HB6.out HS6.out hb8)
        clear hq ho8 hb8 l8 HCC HL2 HB6
        go_wp2_with fail
        refine HQ.out.mono ?_
        rintro e w9 ⟨rfl, hb9⟩
        have hB9 := below_step HB8.out HB8.out.size hb9
        clear hb9 HQ HB8
        go_wp2_with fail
        go_ret
        exact ⟨rfl, hB9⟩
      · have t1 : ((wl : Int) ≤ 16) := by omega
        have t2 : ¬ ((0 : Int) < (wl : Int)) := by omega
        clear hWL hwl
        have HB6 := Lib.hid hB
        have HS6 := Lib.hid hs
        have HL2 := Lib.hid l2
        have hcc := concat_any A1 c1 zss _ l1 (by rw [HFT.out]; exact HSL.out) HPOS.out
        rw [HFT.out] at hcc
        have HCC := Lib.hid hcc
        clear hB hs l1 l2 g1 he hT hcc
        go_wp2_with fail
        refine HCC.out.mono ?_
        rintro e w8 ⟨v8, rfl, ho8, hb8⟩
        obtain ⟨A8, c8, rfl, l8⟩ := own_rdI ho8 HLO.out HHI.out (Nat.le_trans HSL.out (by decide))
        have hq := equalI_same A8 A2 c8 c2 S _ l8 (HL2.out.step hb8)
        have HQ := Lib.hid hq
        have HB8 := Lib.hid (below_step HB6.out HS6.out hb8)
        clear hq ho8 hb8 l8 HCC HL2 HB6
        go_wp2_with fail
        refine HQ.out.mono ?_
        rintro e w9 ⟨rfl, hb9⟩
        have hB9 := below_step HB8.out HB8.out.size hb9
        clear hb9 HQ HB8
        go_wp2_with fail
        go_ret
        exact ⟨rfl, hB9⟩
    · have t1 : ¬ ((wl : Int) ≤ 16) := by omega
      clear hWL hwl
      have HB6 := Lib.hid hB
      have HS6 := Lib.hid hs
      have HL2 := Lib.hid l2
      have hcc := concat_any A1 c1 zss _ l1 (by rw [HFT.out]; exact HSL.out) HPOS.out
      rw [HFT.out] at hcc
      have HCC := Lib.hid hcc
      clear hB hs l1 l2 g1 he hT hcc
      go_wp2_with fail
      refine HCC.out.mono ?_
      rintro e w8 ⟨v8, rfl, ho8, hb8⟩
      obtain ⟨A8, c8, rfl, l8⟩ := own_rdI ho8 HLO.out HHI.out (Nat.le_trans HSL.out (by decide))
      have hq := equalI_same A8 A2 c8 c2 S _ l8 (HL2.out.step hb8)
      have HQ := Lib.hid hq
      have HB8 := Lib.hid (below_step HB6.out HS6.out hb8)
      clear hq ho8 hb8 l8 HCC HL2 HB6
      go_wp2_with fail
      refine HQ.out.mono ?_
      rintro e w9 ⟨rfl, hb9⟩
      have hB9 := below_step HB8.out HB8.out.size hb9
      clear hb9 HQ HB8
      go_wp2_with fail
      go_ret
      exact ⟨rfl, hB9⟩
  · have hR1 : rndE N es 1 = errn N es := by unfold rndE; rw [if_pos hE]
    obtain ⟨E, hEE⟩ : ∃ E, E = errn N es := ⟨_, rfl⟩
    have hb0 : (E != 0) = true := by rw [hEE]; simpa using hE
    have f1 := rounds_any A c N es 1 w2 he hT
    rw [hR1, ← hEE] at f1
    have HEE := Lib.hid hEE
    refine f1.mono ?_
    rintro e w3 ⟨A1, c1, rfl, _, hb⟩
    clear f1 hE hR1 hEE
    replace g1 := gb_step g1 hb
    replace he := he.step hb
    replace hT := hT.step hb
    replace hB := below_step hB hs hb
    replace hs := hB.size
    clear hb
    have n1 := g1.n
    have e1 := g1.e
    go_wp2_with fail
    clear n1 e1
    have f2 := sort_any A c N es _ he hT
    rw [← HEE.out] at f2
    refine f2.mono ?_
    rintro e w4 ⟨A2, c2, rfl, _, hb⟩
    clear f2
    replace g1 := gb_step g1 hb
    replace he := he.step hb
    replace hT := hT.step hb
    replace hB := below_step hB hs hb
    replace hs := hB.size
    clear hb
    have hEq : (E == E) = true := by simp
    have HBB := Lib.hid hB
    clear hB g1 he hT hs
    go_wp2_with fail
    go_ret
    exact ⟨rfl, HBB.out⟩
end Go.Proofs.YtipihchlhkjdjaaDoor
