/-
  The chains that a matching makes; in each of them one is the last that was not tried: so there are as many of these as chains, and they are side by side. Plain mathematics.
  OrderLevels, plain mathematics: raising the ends of edges until nothing stands too low gives the longest ways, whatever the order it is done in; the chain that goes back from the top.
  Contract of order.edgeEnds.
  Contract of order.Levels.
  Contracts of the reference's CLevels, of height, CHeight and Height.
-/
import Derived.Test.YtidgibkiacbgfaaDoorPk20
import Derived.Test.YtidgibkiacbgfaaDoorPk13
import Derived.Test.YtidgibkiacbgfaaDoorPk17
import Derived.Deep.RegionHeld3
import Derived.Deep.RegionLaw
import Derived.Deep.AppendLies
import Derived.Deep.DrawnRows
import Derived.Test.YtidgibkiacbgfaaDoorPk18
import Derived.Laws.Small
namespace Go.Proofs.YtidgibkiacbgfaaDoor

/-! ### sums -/
theorem sumN_add (N : Nat) (f g : Nat → Nat) : sumN N (fun a => f a + g a) = sumN N f + sumN N g := by
  induction N with
  | zero => rfl
  | succ N ih =>
    show sumN N (fun a => f a + g a) + (f N + g N) = (sumN N f + f N) + (sumN N g + g N)
    rw [ih]; omega
theorem sumN_swap (N M : Nat) (f : Nat → Nat → Nat) : sumN N (fun a => sumN M fun b => f a b) = sumN M fun b => sumN N fun a => f a b := by
  induction N with
  | zero => exact (sumN_zero fun _ _ => rfl).symm
  | succ N ih =>
    show sumN N (fun a => sumN M fun b => f a b) + sumN M (fun b => f N b) = sumN M fun b => (sumN N fun a => f a b) + f N b
    rw [ih, sumN_add]
theorem sumN_lt {N k : Nat} {g h : Nat → Nat} (hk : k < N) (hgh : ∀ n, n < N → g n ≤ h n) (h1 : g k < h k) : sumN N g < sumN N h := by
  have h2 := sumN_single (N := N) (k := k) (x := h k - g k) (f := fun n => if n = k then h k else g n) (g := g) hk (fun n _ hne => by simp [hne]) (by simp; omega)
  have h3 : sumN N (fun n => if n = k then h k else g n) ≤ sumN N h := sumN_le fun n hn => by
    by_cases e : n = k
    · simp [e]
    · simp [e]; exact hgh n hn
  omega
theorem sumN_const (N c : Nat) : sumN N (fun _ => c) = N * c := by
  induction N with
  | zero => simp [sumN]
  | succ N ih =>
    show sumN N (fun _ => c) + c = _
    rw [ih, Nat.succ_mul]
theorem sumN_front (N : Nat) (f : Nat → Nat) : sumN (N + 1) f = f 0 + sumN N fun k => f (k + 1) := by
  induction N with
  | zero => show 0 + f 0 = f 0 + 0; omega
  | succ N ih =>
    show sumN (N + 1) f + f (N + 1) = f 0 + (sumN N (fun k => f (k + 1)) + f (N + 1))
    rw [ih]; omega
theorem sumN_pick (N : Nat) (q : Nat → Nat) : ∀ o : Option Nat, (∀ k, o = some k → k < N) → sumN N (fun k => if o = some k then q k else 0) = match o with | some k => q k | none => 0 := by
  intro o h
  cases o with
  | none => exact sumN_zero fun n _ => by simp
  | some k =>
    have := sumN_single (N := N) (k := k) (x := q k) (f := fun n => if some k = some n then q n else 0) (g := fun _ => 0) (h k rfl) (fun n _ hne => by simp [Ne.symm hne]) (by simp)
    rw [this, sumN_zero (fun _ _ => rfl)]
    simp
/-- at most one is there -/
theorem sumN_one {N : Nat} {f : Nat → Nat} (h1 : ∀ k, k < N → f k ≤ 1) (h2 : ∀ i j, i < j → j < N → f i = 1 → f j = 1 → False) : sumN N f ≤ 1 := by
  induction N with
  | zero => exact Nat.zero_le _
  | succ N ih =>
    show sumN N f + f N ≤ 1
    have h3 := ih (fun k hk => h1 k (by omega)) fun i j hij hj => h2 i j hij (by omega)
    have h4 := h1 N (by omega)
    by_cases e : f N = 1
    · have : sumN N f = 0 := sumN_zero fun i hi => by
        have := h1 i (by omega)
        by_cases e2 : f i = 1
        · exact (h2 i N hi (by omega) e2 e).elim
        · omega
      omega
    · omega
def cntB (N : Nat) (p : Nat → Bool) : Nat := sumN N fun k => (p k).toNat
theorem cntB_filter (N : Nat) (p : Nat → Bool) : ((List.range N).filter p).length = cntB N p := by
  induction N with
  | zero => rfl
  | succ N ih =>
    rw [List.range_succ, List.filter_append, List.length_append, ih]
    show cntB N p + _ = cntB N p + (p N).toNat
    cases h : p N <;> simp [h]

/-- a strict order of the first m -/
structure So (f : Nat → Nat → Bool) (m : Nat) : Prop where
  irr : ∀ a, f a a = false
  tr : ∀ {a b c}, f a b = true → f b c = true → f a c = true
  lt : ∀ {a b}, f a b = true → a < m ∧ b < m

variable {f : Nat → Nat → Bool} {m : Nat} {B H : Nat → Option Nat} {T : Nat → Bool}

/-- a sum over all that have a next one is one over all that have one before them -/
theorem Mt.sum (hM : Mt f m B H) (q : Nat → Nat) : sumN m (fun a => match H a with | some k => q k | none => 0) = sumN m (fun k => match B k with | some _ => q k | none => 0) := by
  have h1 : sumN m (fun a => match H a with | some k => q k | none => 0) = sumN m fun a => sumN m fun k => if H a = some k then q k else 0 :=
    sumN_congr fun a _ => (sumN_pick m q (H a) fun k hk => (hM.b k a (hM.h a k hk)).2.1).symm
  have h2 : sumN m (fun k => match B k with | some _ => q k | none => 0) = sumN m fun k => sumN m fun a => if H a = some k then q k else 0 := sumN_congr fun k _ => by
    have h3 := sumN_pick m (fun _ => q k) (B k) fun a ha => (hM.b k a ha).1
    have h4 : sumN m (fun a => if H a = some k then q k else 0) = sumN m (fun a => if B k = some a then q k else 0) := sumN_congr fun a _ => by
      by_cases e : H a = some k
      · rw [if_pos e, if_pos (hM.h a k e)]
      · rw [if_neg e, if_neg fun e2 => e (hM.b k a e2).2.2.2]
    rw [h4, h3]
  rw [h1, h2, sumN_swap]

/-- no more can be joined, and what is tried is closed -/
structure Kon (f : Nat → Nat → Bool) (m : Nat) (B H : Nat → Option Nat) (T : Nat → Bool) : Prop where
  mt : Mt f m B H
  free : ∀ n, n < m → H n = none → ∀ j, f n j = true → T j = true
  tried : ∀ k, T k = true → ∃ a, B k = some a ∧ ∀ j, f a j = true → T j = true

/-- the last in its chain that was not tried -/
def lastU (H : Nat → Option Nat) (T : Nat → Bool) (n : Nat) : Bool := !T n && (match H n with | none => true | some k => T k)
/-- who has nobody ahead -/
def start (B : Nat → Option Nat) (n : Nat) : Bool := (B n).isNone

theorem Kon.step (hK : Kon f m B H T) (hS : So f m) {n k : Nat} (hT : T n = true) (hk : H n = some k) : T k = true := by
  obtain ⟨a, ha, hj⟩ := hK.tried n hT
  exact hj k (hS.tr (hK.mt.b n a ha).2.2.1 (hK.mt.b k n (hK.mt.h n k hk)).2.2.1)
theorem Kon.apart (hK : Kon f m B H T) {n j : Nat} (hn : n < m) (h : lastU H T n = true) (hj : lastU H T j = true) : f n j = false := by
  have h1 : ∀ j, f n j = true → T j = true := by
    cases hH : H n with
    | none => exact hK.free n hn hH
    | some k =>
      have hk : T k = true := by simp [lastU, hH] at h; exact h.2
      obtain ⟨a, ha, hj⟩ := hK.tried k hk
      have := hK.mt.h n k hH
      rw [this] at ha
      injection ha with ha
      subst ha
      exact hj
  have h2 : T j = false := by simp [lastU] at hj; exact hj.1
  cases hf : f n j with
  | false => rfl
  | true => rw [h1 j hf] at h2; cases h2
theorem Kon.count (hK : Kon f m B H T) (hS : So f m) : cntB m (lastU H T) = cntB m (start B) := by
  have h1 : cntB m (lastU H T) + sumN m (fun a => match H a with | some k => (!T k).toNat | none => 0) = cntB m fun n => !T n := by
    unfold cntB
    rw [← sumN_add]
    refine sumN_congr fun n _ => ?_
    cases hH : H n with
    | none => simp [lastU, hH]
    | some k =>
      cases hT : T n with
      | true => simp [lastU, hT, hK.step hS hT hH]
      | false => cases hTk : T k <;> simp [lastU, hT, hH, hTk]
  have h2 : cntB m (start B) + sumN m (fun k => match B k with | some _ => (!T k).toNat | none => 0) = cntB m fun n => !T n := by
    unfold cntB
    rw [← sumN_add]
    refine sumN_congr fun n _ => ?_
    cases hB : B n with
    | none =>
      have hT : T n = false := by
        cases hT : T n with
        | false => rfl
        | true => obtain ⟨a, ha, _⟩ := hK.tried n hT; rw [hB] at ha; cases ha
      simp [start, hB, hT]
    | some k => simp [start, hB]
  rw [hK.mt.sum] at h1
  omega

/-! ### the chains -/
/-- who comes k after n -/
def itO (H : Nat → Option Nat) (n : Nat) : Nat → Option Nat
  | 0 => some n
  | k + 1 => (itO H n k).bind H
theorem itO_shift (H : Nat → Option Nat) (n : Nat) : ∀ k, itO H n (k + 1) = (H n).bind fun j => itO H j k
  | 0 => by show (some n).bind H = (H n).bind fun j => some j; cases h : H n <;> simp [h]
  | k + 1 => by
    show (itO H n (k + 1)).bind H = (H n).bind fun j => (itO H j k).bind H
    rw [itO_shift H n k]
    cases H n <;> rfl
theorem itO_down {n : Nat} : ∀ {k v}, itO H n (k + 1) = some v → ∃ u, itO H n k = some u ∧ H u = some v := fun {k v} h => by
  have h : (itO H n k).bind H = some v := h
  cases e : itO H n k with
  | none => rw [e] at h; cases h
  | some u => rw [e] at h; exact ⟨u, rfl, h⟩
theorem itO_some {n k v : Nat} (h : itO H n k = some v) : ∀ j, j ≤ k → ∃ u, itO H n j = some u := fun j hj => by
  induction k generalizing v with
  | zero => obtain rfl : j = 0 := by omega
            exact ⟨v, h⟩
  | succ k ih =>
    by_cases e : j = k + 1
    · subst e; exact ⟨v, h⟩
    · obtain ⟨u, hu, _⟩ := itO_down h
      exact ih hu (by omega)
/-- how many come after -/
def fl (f : Nat → Nat → Bool) (m v : Nat) : Nat := cntB m (f v)
theorem fl_lt (hS : So f m) {a b : Nat} (h : f a b = true) : fl f m b < fl f m a :=
  sumN_lt (hS.lt h).2 (fun j _ => by
    cases hb : f b j with
    | false => exact Nat.zero_le _
    | true => rw [hS.tr h hb]; exact Nat.le_refl _) (by rw [h, hS.irr b]; decide)
theorem fl_top (hS : So f m) {a : Nat} (ha : a < m) : fl f m a < m := by
  have h1 := sumN_lt (N := m) (k := a) (g := fun j => (f a j).toNat) (h := fun _ => 1) ha (fun j _ => by cases f a j <;> decide) (by rw [hS.irr a]; decide)
  rw [sumN_const, Nat.mul_one] at h1
  exact h1
theorem Mt.next (hM : Mt f m B H) {a k : Nat} (h : H a = some k) : a < m ∧ k < m ∧ f a k = true := by
  have := hM.b k a (hM.h a k h)
  exact ⟨this.1, this.2.1, this.2.2.1⟩
theorem itO_fl (hM : Mt f m B H) (hS : So f m) {n : Nat} (hn : n < m) : ∀ {k v}, itO H n k = some v → v < m ∧ fl f m v + k ≤ fl f m n
  | 0, v, h => by
    have h : some n = some v := h
    injection h with h
    subst h
    exact ⟨hn, Nat.le_refl _⟩
  | k + 1, v, h => by
    obtain ⟨u, hu, hv⟩ := itO_down h
    obtain ⟨_, h2⟩ := itO_fl hM hS hn hu
    obtain ⟨_, h3, h4⟩ := hM.next hv
    have := fl_lt hS h4
    exact ⟨h3, by omega⟩
theorem itO_lt (hM : Mt f m B H) (hS : So f m) {n k v : Nat} (hn : n < m) (h : itO H n k = some v) : k < m ∧ v < m := by
  obtain ⟨h1, h2⟩ := itO_fl hM hS hn h
  have := fl_top hS hn
  exact ⟨by omega, h1⟩
theorem itO_f (hM : Mt f m B H) (hS : So f m) {n : Nat} : ∀ {j i u v}, i < j → itO H n i = some u → itO H n j = some v → f u v = true
  | j + 1, i, u, v, hij, hu, hv => by
    obtain ⟨x, hx, hxv⟩ := itO_down hv
    have h4 := (hM.next hxv).2.2
    by_cases e : i = j
    · subst e
      rw [hu] at hx
      injection hx with hx
      subst hx
      exact h4
    · exact hS.tr (itO_f hM hS (by omega) hu hx) h4
/-- the first k of the chain that begins with n -/
def chO (H : Nat → Option Nat) (n k : Nat) : List Nat := (List.range k).filterMap (itO H n)
theorem chO_snoc {n k v : Nat} (h : itO H n k = some v) : chO H n (k + 1) = chO H n k ++ [v] := by
  unfold chO
  rw [List.range_succ, List.filterMap_append]
  simp [h]
theorem chO_none {n k : Nat} (h : itO H n k = none) : ∀ d, chO H n (k + d) = chO H n k
  | 0 => rfl
  | d + 1 => by
    have h2 : itO H n (k + d) = none := by
      cases e : itO H n (k + d) with
      | none => rfl
      | some v => obtain ⟨u, hu⟩ := itO_some e k (by omega); rw [h] at hu; cases hu
    show (List.range (k + d + 1)).filterMap (itO H n) = _
    rw [List.range_succ, List.filterMap_append, show ([k + d].filterMap (itO H n)) = [] by simp [h2], List.append_nil]
    exact chO_none h d
theorem chO_le (n k : Nat) : (chO H n k).length ≤ k := by
  have := List.length_filterMap_le (itO H n) (List.range k)
  rwa [List.length_range] at this
theorem chO_len {n : Nat} : ∀ {k v}, itO H n k = some v → (chO H n k).length = k
  | 0, _, _ => rfl
  | k + 1, v, h => by
    obtain ⟨u, hu, _⟩ := itO_down h
    rw [chO_snoc hu, List.length_append, chO_len hu]
    rfl
theorem chO_get {n : Nat} : ∀ k i, (chO H n k)[i]? = if i < k then itO H n i else none
  | 0, i => by simp [chO]
  | k + 1, i => by
    cases e : itO H n k with
    | none =>
      rw [show chO H n (k + 1) = chO H n k from chO_none e 1, chO_get k i]
      by_cases h1 : i < k
      · rw [if_pos h1, if_pos (by omega)]
      · rw [if_neg h1]
        by_cases h2 : i = k
        · subst h2; rw [if_pos (by omega), e]
        · rw [if_neg (by omega)]
    | some v =>
      rw [chO_snoc e, List.getElem?_append, chO_len e, chO_get k i]
      by_cases h1 : i < k
      · rw [if_pos h1, if_pos h1, if_pos (by omega)]
      · rw [if_neg h1]
        by_cases h2 : i = k
        · subst h2; rw [if_pos (by omega), e, Nat.sub_self]; rfl
        · rw [if_neg (by omega), List.getElem?_eq_none (by simp; omega)]
theorem chO_mem {n k v : Nat} : v ∈ chO H n k ↔ ∃ i, i < k ∧ itO H n i = some v := by
  unfold chO
  rw [List.mem_filterMap]
  simp
/-- the chain that begins with n -/
def chn' (H : Nat → Option Nat) (m n : Nat) : List Nat := chO H n m
/-- the chains -/
def cov (B H : Nat → Option Nat) (m : Nat) : List (List Nat) := ((List.range m).filter (start B)).map (chn' H m)
theorem cov_len (B H : Nat → Option Nat) (m : Nat) : (cov B H m).length = cntB m (start B) := by
  unfold cov; rw [List.length_map, cntB_filter]
theorem itO_inj (hM : Mt f m B H) {n n' : Nat} (hn : B n = none) (hn' : B n' = none) : ∀ {k k' v}, itO H n k = some v → itO H n' k' = some v → n = n' ∧ k = k'
  | 0, 0, v, h, h' => by
    have h : some n = some v := h
    have h' : some n' = some v := h'
    injection h with h
    injection h' with h'
    exact ⟨by omega, rfl⟩
  | 0, k' + 1, v, h, h' => by
    have h : some n = some v := h
    injection h with h
    subst h
    obtain ⟨u, _, hv⟩ := itO_down h'
    rw [hM.h u _ hv] at hn
    cases hn
  | k + 1, 0, v, h, h' => by
    have h' : some n' = some v := h'
    injection h' with h'
    subst h'
    obtain ⟨u, _, hv⟩ := itO_down h
    rw [hM.h u _ hv] at hn'
    cases hn'
  | k + 1, k' + 1, v, h, h' => by
    obtain ⟨u, hu, hv⟩ := itO_down h
    obtain ⟨u', hu', hv'⟩ := itO_down h'
    have e : u = u' := by
      have h1 := hM.h u v hv
      rw [hM.h u' v hv'] at h1
      injection h1 with h1
      exact h1.symm
    subst e
    obtain ⟨e1, e2⟩ := itO_inj hM hn hn' hu hu'
    exact ⟨e1, by omega⟩
theorem cover_all (hM : Mt f m B H) (hS : So f m) : ∀ d v, v < m → m ≤ fl f m v + d → ∃ n, n < m ∧ B n = none ∧ ∃ k, itO H n k = some v
  | 0, v, hv, hd => by have := fl_top hS hv; omega
  | d + 1, v, hv, hd => by
    cases hB : B v with
    | none => exact ⟨v, hv, hB, 0, rfl⟩
    | some a =>
      obtain ⟨h1, _, h3, h4⟩ := hM.b v a hB
      have h5 := fl_lt hS h3
      obtain ⟨n, hn, hBn, k, hk⟩ := cover_all hM hS d a h1 (by omega)
      exact ⟨n, hn, hBn, k + 1, by show (itO H n k).bind H = _; rw [hk]; exact h4⟩
theorem cov_mem (hM : Mt f m B H) (hS : So f m) {v : Nat} (hv : v < m) : v ∈ (cov B H m).flatten := by
  obtain ⟨n, hn, hB, k, hk⟩ := cover_all hM hS m v hv (by omega)
  rw [List.mem_flatten]
  refine ⟨chn' H m n, ?_, chO_mem.2 ⟨k, (itO_lt hM hS hn hk).1, hk⟩⟩
  unfold cov
  exact List.mem_map.2 ⟨n, List.mem_filter.2 ⟨List.mem_range.2 hn, by simp [start, hB]⟩, rfl⟩
theorem cov_lt (hM : Mt f m B H) (hS : So f m) {v : Nat} (h : v ∈ (cov B H m).flatten) : v < m := by
  rw [List.mem_flatten] at h
  obtain ⟨l, hl, hv⟩ := h
  unfold cov at hl
  obtain ⟨n, hn, rfl⟩ := List.mem_map.1 hl
  obtain ⟨k, _, hk⟩ := chO_mem.1 hv
  exact (itO_lt hM hS (List.mem_range.1 (List.mem_filter.1 hn).1) hk).2
theorem chO_nodup (hM : Mt f m B H) (hS : So f m) (n k : Nat) : (chO H n k).Nodup := by
  unfold List.Nodup
  rw [List.pairwise_iff_getElem]
  intro i j hi hj hij e
  have h1 : (chO H n k)[i]? = some (chO H n k)[i] := List.getElem?_eq_getElem hi
  have h2 : (chO H n k)[j]? = some (chO H n k)[j] := List.getElem?_eq_getElem hj
  rw [chO_get] at h1 h2
  have hk : j < k := by
    have := chO_le (H := H) n k
    omega
  rw [if_pos (by omega)] at h1
  rw [if_pos hk] at h2
  have := itO_f hM hS hij h1 h2
  rw [e, hS.irr] at this
  cases this
theorem cov_nodup (hM : Mt f m B H) (hS : So f m) : (cov B H m).flatten.Nodup := by
  unfold List.Nodup
  rw [List.pairwise_flatten]
  constructor
  · intro l hl
    unfold cov at hl
    obtain ⟨n, _, rfl⟩ := List.mem_map.1 hl
    exact chO_nodup hM hS n m
  · unfold cov
    rw [List.pairwise_map]
    have h1 : ((List.range m).filter (start B)).Pairwise (· ≠ ·) := List.Pairwise.filter _ List.nodup_range
    have h2 : ((List.range m).filter (start B)).Pairwise (fun a b => a ∈ (List.range m).filter (start B) ∧ b ∈ (List.range m).filter (start B) ∧ a ≠ b) :=
      (List.Pairwise.and_mem.1 h1).imp fun h => ⟨h.1, h.2.1, h.2.2⟩
    refine h2.imp ?_
    rintro n n' ⟨hn, hn', hne⟩ v hv v' hv' e
    subst e
    obtain ⟨k, _, hk⟩ := chO_mem.1 hv
    obtain ⟨k', _, hk'⟩ := chO_mem.1 hv'
    have hb : B n = none := by simpa [start] using (List.mem_filter.1 hn).2
    have hb' : B n' = none := by simpa [start] using (List.mem_filter.1 hn').2
    exact hne (itO_inj hM hb hb' hk hk').1
theorem lenN_sub {L zs : List Nat} (hn : L.Nodup) (h : ∀ x, x ∈ L → x ∈ zs) : L.length ≤ zs.length := by
  induction L generalizing zs with
  | nil => exact Nat.zero_le _
  | cons a L ih =>
    rw [List.nodup_cons] at hn
    have ha := h a (List.mem_cons_self ..)
    have h1 := ih (zs := zs.erase a) hn.2 fun x hx => (List.mem_erase_of_ne (fun e => hn.1 (by rw [← e]; exact hx))).2 (h x (List.mem_cons_of_mem _ hx))
    have h2 := List.length_erase_of_mem ha
    have h3 := List.length_pos_of_mem ha
    rw [List.length_cons]
    omega
theorem cov_length (hM : Mt f m B H) (hS : So f m) : (cov B H m).flatten.length = m := by
  have h1 := nodup_le m _ (cov_nodup hM hS) fun x hx => cov_lt hM hS hx
  have h2 : m ≤ (cov B H m).flatten.length := by
    have h3 := lenN_sub (L := List.range m) (zs := (cov B H m).flatten) List.nodup_range fun x hx => cov_mem hM hS (List.mem_range.1 hx)
    rwa [List.length_range] at h3
  omega

/-! ### no more are side by side than there are chains -/
theorem apart_le (hM : Mt f m B H) (hS : So f m) (s : Nat → Bool) (hs : ∀ a b, s a = true → s b = true → f a b = false) : cntB m s ≤ cntB m (start B) := by
  obtain ⟨u, hu⟩ : ∃ u : Nat → Nat, ∀ v, u v = sumN m fun k => match itO H v k with | some x => (s x).toNat | none => 0 := ⟨_, fun _ => rfl⟩
  have h1 : ∀ v, v < m → u v = (s v).toNat + match H v with | some k => u k | none => 0 := fun v hv => by
    obtain ⟨m', rfl⟩ : ∃ m', m = m' + 1 := ⟨m - 1, by omega⟩
    rw [hu, sumN_front]
    congr 1
    cases hH : H v with
    | none => exact sumN_zero fun k _ => by rw [itO_shift, hH]; rfl
    | some j =>
      show _ = u j
      rw [hu]
      show _ = sumN m' _ + (match itO H j m' with | some x => (s x).toNat | none => 0)
      have h3 : itO H j m' = none := by
        cases e : itO H j m' with
        | none => rfl
        | some x =>
          have h4 : itO H v (m' + 1) = some x := by rw [itO_shift, hH]; exact e
          have := (itO_lt hM hS hv h4).1
          omega
      rw [h3]
      refine sumN_congr fun k _ => ?_
      rw [itO_shift, hH]
      rfl
  have h2 : ∀ v, u v ≤ 1 := fun v => by
    rw [hu]
    refine sumN_one (fun k _ => ?_) fun i j hij hj hi1 hj1 => ?_
    · cases itO H v k with
      | none => exact Nat.zero_le _
      | some x => show (s x).toNat ≤ 1; cases s x <;> decide
    · cases ei : itO H v i with
      | none => rw [ei] at hi1; cases hi1
      | some a =>
        cases ej : itO H v j with
        | none => rw [ej] at hj1; cases hj1
        | some b =>
          rw [ei] at hi1
          rw [ej] at hj1
          have hi1 : (s a).toNat = 1 := hi1
          have hj1 : (s b).toNat = 1 := hj1
          have ha : s a = true := by cases h : s a with | true => rfl | false => rw [h] at hi1; cases hi1
          have hb : s b = true := by cases h : s b with | true => rfl | false => rw [h] at hj1; cases hj1
          have := itO_f hM hS hij ei ej
          rw [hs a b ha hb] at this
          cases this
  have h3 : sumN m u = cntB m s + sumN m (fun k => match B k with | some _ => u k | none => 0) := by
    rw [← hM.sum u]
    unfold cntB
    rw [← sumN_add]
    exact sumN_congr fun v hv => h1 v hv
  have h4 : sumN m u ≤ cntB m (start B) + sumN m (fun k => match B k with | some _ => u k | none => 0) := by
    unfold cntB
    rw [← sumN_add]
    refine sumN_le fun v _ => ?_
    cases hB : B v with
    | none => have := h2 v; simp [start, hB]; exact this
    | some a => simp [start, hB]
  omega
end Go.Proofs.YtidgibkiacbgfaaDoor

namespace Go.Proofs.YtidgibkiacbgfaaDoor

/-- a way of n edges that ends at b -/
inductive Wk (R : Nat → Nat → Bool) : Nat → Nat → Prop
  | zero (b : Nat) : Wk R 0 b
  | step {n a b : Nat} : R a b = true → Wk R n a → Wk R (n + 1) b
/-- in a whole order a way is no longer than what stands ahead -/
theorem Wk.lt {R : Nat → Nat → Bool} {N : Nat} {d : List Nat} (hg : Good R N d) (hR : ∀ i j, R i j = true → i < N ∧ j < N) {n b : Nat} (h : Wk R n b) : ∀ i, d[i]? = some b → n ≤ i := by
  induction h with
  | zero b => intro i _; exact Nat.zero_le _
  | @step n a b e _ ih =>
    intro i hi
    have hm := hg.pre i b hi a (hR _ _ e).1 e
    obtain ⟨j, hj, ej⟩ := List.getElem_of_mem hm
    rw [List.getElem_take] at ej
    have hjl : j < d.length := by simp at hj; omega
    have := ih j (by rw [List.getElem?_eq_getElem hjl, ej])
    simp at hj
    omega
theorem Wk.lt_N {R : Nat → Nat → Bool} {N : Nat} {d : List Nat} (hg : Good R N d) (hl : d.length = N) (hR : ∀ i j, R i j = true → i < N ∧ j < N) {n b : Nat} (h : Wk R n b) (hb : b < N) : n < N := by
  obtain ⟨i, hi, e⟩ := List.getElem_of_mem (hg.all (by omega) hb)
  have := h.lt hg hR i (by rw [List.getElem?_eq_getElem hi, e])
  omega

/-- the end of an edge stands above its start -/
def rlx (f : Nat → Nat) (e : Nat × Nat) : Nat → Nat := fun k => if k = e.2 then max (f e.2) (f e.1 + 1) else f k
def Snd (R : Nat → Nat → Bool) (f : Nat → Nat) : Prop := ∀ b, Wk R (f b) b
theorem Snd.zero (R : Nat → Nat → Bool) : Snd R (fun _ => 0) := fun b => .zero b
theorem Snd.rlx {R : Nat → Nat → Bool} {f : Nat → Nat} (h : Snd R f) {e : Nat × Nat} (he : R e.1 e.2 = true) : Snd R (rlx f e) := by
  intro b
  unfold Proofs.YtidgibkiacbgfaaDoor.rlx
  by_cases hb : b = e.2
  · subst hb
    rw [if_pos rfl]
    rcases Nat.le_total (f e.2) (f e.1 + 1) with h1 | h1
    · rw [Nat.max_eq_right h1]; exact .step he (h _)
    · rw [Nat.max_eq_left h1]; exact h _
  · rw [if_neg hb]; exact h b
theorem rlx_le (f : Nat → Nat) (e : Nat × Nat) (k : Nat) : f k ≤ rlx f e k := by
  unfold rlx; split
  · rename_i h; subst h; omega
  · omega
theorem rlx_at (f : Nat → Nat) (e : Nat × Nat) : f e.1 + 1 ≤ rlx f e e.2 := by
  unfold rlx; rw [if_pos rfl]; omega
def rnd (E : List (Nat × Nat)) (f : Nat → Nat) : Nat → Nat := E.foldl rlx f
theorem rnd_snoc (E : List (Nat × Nat)) (e : Nat × Nat) (f : Nat → Nat) : rnd (E ++ [e]) f = rlx (rnd E f) e := by unfold rnd; rw [List.foldl_append]; rfl
theorem rnd_app (E E2 : List (Nat × Nat)) (f : Nat → Nat) : rnd (E ++ E2) f = rnd E2 (rnd E f) := by unfold rnd; rw [List.foldl_append]
theorem rnd_le (E : List (Nat × Nat)) (f : Nat → Nat) (k : Nat) : f k ≤ rnd E f k := by
  induction E generalizing f with
  | nil => exact Nat.le_refl _
  | cons e E ih => exact Nat.le_trans (rlx_le f e k) (ih (rlx f e))
theorem Snd.rnd {R : Nat → Nat → Bool} {f : Nat → Nat} (h : Snd R f) {E : List (Nat × Nat)} (hE : ∀ e, e ∈ E → R e.1 e.2 = true) : Snd R (rnd E f) := by
  induction E generalizing f with
  | nil => exact h
  | cons e E ih => exact ih (h.rlx (hE e (List.mem_cons_self ..))) fun x hx => hE x (List.mem_cons_of_mem _ hx)
/-- what an edge's start had before, its end stands above afterwards -/
theorem rnd_at {E : List (Nat × Nat)} {e : Nat × Nat} (he : e ∈ E) (f : Nat → Nat) : f e.1 + 1 ≤ rnd E f e.2 := by
  obtain ⟨E1, E2, rfl⟩ := List.append_of_mem he
  rw [rnd_app]
  have h1 := rnd_le E1 f e.1
  have h2 := rlx_at (rnd E1 f) e
  have h3 := rnd_le E2 (rlx (rnd E1 f) e) e.2
  show f e.1 + 1 ≤ rnd E2 (rlx (rnd E1 f) e) e.2
  omega
/-- the longest ways -/
structure Lev (R : Nat → Nat → Bool) (f : Nat → Nat) : Prop where
  way : Snd R f
  top : ∀ n b, Wk R n b → n ≤ f b
theorem Lev.uniq {R : Nat → Nat → Bool} {f g : Nat → Nat} (h : Lev R f) (k : Lev R g) : f = g := by
  funext b
  have h1 := k.top _ _ (h.way b)
  have h2 := h.top _ _ (k.way b)
  omega

/-! ### round by round over all edges -/
def rnds (E : List (Nat × Nat)) : Nat → Nat → Nat
  | 0 => fun _ => 0
  | k + 1 => rnd E (rnds E k)
theorem rnds_snd {R : Nat → Nat → Bool} {E : List (Nat × Nat)} (hE : ∀ e, e ∈ E → R e.1 e.2 = true) : ∀ k, Snd R (rnds E k)
  | 0 => Snd.zero R
  | k + 1 => (rnds_snd hE k).rnd hE
theorem rnds_up {R : Nat → Nat → Bool} {E : List (Nat × Nat)} (hE : ∀ a b, R a b = true → (a, b) ∈ E) : ∀ k n b, n ≤ k → Wk R n b → n ≤ rnds E k b
  | 0, n, b, hn, _ => by omega
  | k + 1, n, b, hn, h => by
    cases h with
    | zero => exact Nat.zero_le _
    | @step n a _ e h =>
      have h1 := rnds_up hE k n a (by omega) h
      have h2 := rnd_at (hE _ _ e) (rnds E k)
      show n + 1 ≤ rnd E (rnds E k) b
      dsimp only at h2
      omega
theorem rnds_lev {R : Nat → Nat → Bool} {N : Nat} {d : List Nat} {E : List (Nat × Nat)} (hg : Good R N d) (hl : d.length = N) (hR : ∀ i j, R i j = true → i < N ∧ j < N) (hE : ∀ a b, R a b = true ↔ (a, b) ∈ E) : Lev R (rnds E N) := by
  refine ⟨rnds_snd (fun e he => (hE _ _).2 he) N, fun n b h => ?_⟩
  rcases Nat.lt_or_ge b N with hb | hb
  · exact rnds_up (fun a b => (hE a b).1) N n b (Nat.le_of_lt (h.lt_N hg hl hR hb)) h
  · cases h with
    | zero => exact Nat.zero_le _
    | step e _ => exact absurd (hR _ _ e).2 (by omega)

/-! ### in the order's turn -/
def outs (nx : Nat → List Nat) (a : Nat) : List (Nat × Nat) := (nx a).map fun b => (a, b)
def trn (nx : Nat → List Nat) (d : List Nat) : Nat → Nat := d.foldl (fun f a => rnd (outs nx a) f) (fun _ => 0)
theorem trn_snoc (nx : Nat → List Nat) (d : List Nat) (a : Nat) : trn nx (d ++ [a]) = rnd (outs nx a) (trn nx d) := by unfold trn; rw [List.foldl_append]; rfl
theorem mem_outs {nx : Nat → List Nat} {a : Nat} {e : Nat × Nat} : e ∈ outs nx a ↔ e.1 = a ∧ e.2 ∈ nx a := by
  unfold outs
  rw [List.mem_map]
  constructor
  · rintro ⟨b, hb, rfl⟩; exact ⟨rfl, hb⟩
  · rintro ⟨h1, h2⟩; exact ⟨e.2, h2, by rw [← h1]⟩
theorem trn_snd {R : Nat → Nat → Bool} {nx : Nat → List Nat} (hnx : ∀ a b, R a b = true ↔ b ∈ nx a) (d : List Nat) (k : Nat) : Snd R (trn nx (d.take k)) := by
  induction k with
  | zero => exact Snd.zero R
  | succ k ih =>
    rcases Nat.lt_or_ge k d.length with hk | hk
    · rw [List.take_succ_eq_append_getElem hk, trn_snoc]
      exact ih.rnd fun e he => by
        obtain ⟨h1, h2⟩ := mem_outs.1 he
        exact (hnx _ _).2 (by rw [h1]; exact h2)
    · rw [List.take_of_length_le (by omega)]
      rw [List.take_of_length_le hk] at ih
      exact ih
theorem trn_up {R : Nat → Nat → Bool} {N : Nat} {d : List Nat} {nx : Nat → List Nat} (hg : Good R N d) (hR : ∀ i j, R i j = true → i < N ∧ j < N) (hnx : ∀ a b, R a b = true ↔ b ∈ nx a) :
    ∀ k, k ≤ d.length → ∀ a, a ∈ d.take k → ∀ b, R a b = true → ∀ n, Wk R n a → n + 1 ≤ trn nx (d.take k) b := by
  intro k
  induction k with
  | zero => intro _ a ha; simp at ha
  | succ k ih =>
    intro hk a ha b e n hw
    have hk' : k < d.length := by omega
    rw [List.take_succ_eq_append_getElem hk'] at ha ⊢
    rw [trn_snoc]
    rcases List.mem_append.1 ha with h1 | h1
    · exact Nat.le_trans (ih (by omega) a h1 b e n hw) (rnd_le _ _ _)
    · obtain rfl : a = d[k] := by simpa using h1
      have h2 : n ≤ trn nx (d.take k) d[k] := by
        cases hw with
        | zero => exact Nat.zero_le _
        | @step n a' _ e' hw' => exact ih (by omega) a' (hg.pre k _ (List.getElem?_eq_getElem hk') _ (hR _ _ e').1 e') _ e' n hw'
      have h3 := rnd_at (E := outs nx d[k]) (e := (d[k], b)) (mem_outs.2 ⟨rfl, (hnx _ _).1 e⟩) (trn nx (d.take k))
      dsimp only at h3
      omega
theorem trn_lev {R : Nat → Nat → Bool} {N : Nat} {d : List Nat} {nx : Nat → List Nat} (hg : Good R N d) (hl : d.length = N) (hR : ∀ i j, R i j = true → i < N ∧ j < N) (hnx : ∀ a b, R a b = true ↔ b ∈ nx a) : Lev R (trn nx d) := by
  have h0 := trn_snd hnx d d.length
  rw [List.take_length] at h0
  refine ⟨h0, fun n b h => ?_⟩
  cases h with
  | zero => exact Nat.zero_le _
  | @step n a _ e h =>
    have := trn_up hg hR hnx d.length (Nat.le_refl _) a (by rw [List.take_length]; exact hg.all (by omega) (hR _ _ e).1) b e n h
    rwa [List.take_length] at this
theorem Snd.lt {R : Nat → Nat → Bool} {N : Nat} {d : List Nat} {f : Nat → Nat} (h : Snd R f) (hg : Good R N d) (hl : d.length = N) (hR : ∀ i j, R i j = true → i < N ∧ j < N) {b : Nat} (hb : b < N) : f b < N := (h b).lt_N hg hl hR hb

/-! ### the height -/
def hgt (f : Nat → Nat) : Nat → Nat
  | 0 => 0
  | k + 1 => max (hgt f k) (f k + 1)
theorem hgt_ge (f : Nat → Nat) {N b : Nat} (hb : b < N) : f b < hgt f N := by
  induction N with
  | zero => omega
  | succ N ih =>
    show f b < max (hgt f N) (f N + 1)
    rcases Nat.lt_or_ge b N with h | h
    · have := ih h; omega
    · obtain rfl : b = N := by omega
      omega
theorem hgt_mem (f : Nat → Nat) : ∀ N, 0 < hgt f N → ∃ b, b < N ∧ f b + 1 = hgt f N
  | 0, h => absurd h (by simp [hgt])
  | N + 1, _ => by
    show ∃ b, b < N + 1 ∧ f b + 1 = max (hgt f N) (f N + 1)
    rcases Nat.lt_or_ge (f N + 1) (hgt f N) with h | h
    · obtain ⟨b, h1, h2⟩ := hgt_mem f N (by omega)
      exact ⟨b, by omega, by omega⟩
    · exact ⟨N, by omega, by omega⟩
theorem hgt_le (f : Nat → Nat) {N M : Nat} (h : ∀ b, b < N → f b < M) : hgt f N ≤ M := by
  induction N with
  | zero => exact Nat.zero_le _
  | succ N ih =>
    show max (hgt f N) (f N + 1) ≤ M
    have h1 := ih fun b hb => h b (by omega)
    have h2 := h N (by omega)
    omega
theorem hgt_pos (f : Nat → Nat) {N : Nat} (h : 0 < N) : 0 < hgt f N := Nat.lt_of_le_of_lt (Nat.zero_le _) (hgt_ge f (b := 0) h)

/-! ### the chain, from its end on -/
/-- who may stand ahead of b: one level lower, with an edge to it -/
def fit (R : Nat → Nat → Bool) (f : Nat → Nat) (b a : Nat) : Bool := decide (f a + 1 = f b) && R a b
def prv (R : Nat → Nat → Bool) (f : Nat → Nat) (N b : Nat) : Option Nat := (List.range N).find? (fit R f b)
theorem prv_some {R : Nat → Nat → Bool} {f : Nat → Nat} {N b : Nat} (h : Lev R f) (hR : ∀ i j, R i j = true → i < N ∧ j < N) (hb : 0 < f b) : ∃ a, prv R f N b = some a ∧ a < N ∧ f a + 1 = f b ∧ R a b = true ∧ ∀ y, y < a → fit R f b y = false := by
  cases hp : prv R f N b with
  | some a =>
    obtain ⟨h1, h2, h3⟩ := find_range hp
    unfold fit at h2
    simp only [Bool.and_eq_true, decide_eq_true_eq] at h2
    exact ⟨a, rfl, h1, h2.1, h2.2, h3⟩
  | none =>
    exfalso
    have hno := find_range_none hp
    obtain ⟨n, hn⟩ : ∃ n, f b = n + 1 := ⟨f b - 1, by omega⟩
    have hw := h.way b
    rw [hn] at hw
    cases hw with
    | @step _ a _ e hw =>
      have h1 := h.top _ _ hw
      have h2 := h.top _ _ (.step e (h.way a))
      have := hno a (hR _ _ e).1
      unfold fit at this
      rw [e] at this
      simp at this
      omega
/-- the first of the top -/
def fst0 (f : Nat → Nat) (N : Nat) : Option Nat := (List.range N).find? fun a => decide (f a + 1 = hgt f N)
theorem fst0_some {f : Nat → Nat} {N : Nat} (hN : 0 < N) : ∃ a, fst0 f N = some a ∧ a < N ∧ f a + 1 = hgt f N ∧ ∀ y, y < a → f y + 1 ≠ hgt f N := by
  cases hp : fst0 f N with
  | some a =>
    obtain ⟨h1, h2, h3⟩ := find_range hp
    exact ⟨a, rfl, h1, by simpa using h2, fun y hy => by simpa using h3 y hy⟩
  | none =>
    exfalso
    have hno := find_range_none hp
    obtain ⟨b, h1, h2⟩ := hgt_mem f N (hgt_pos f hN)
    have := hno b h1
    simp at this
    omega
/-- the j-th from the end -/
def chn (R : Nat → Nat → Bool) (f : Nat → Nat) (N : Nat) : Nat → Nat
  | 0 => (fst0 f N).getD 0
  | j + 1 => (prv R f N (chn R f N j)).getD 0
theorem chn_at {R : Nat → Nat → Bool} {f : Nat → Nat} {N : Nat} (h : Lev R f) (hR : ∀ i j, R i j = true → i < N ∧ j < N) : ∀ j, j < hgt f N → chn R f N j < N ∧ f (chn R f N j) + j + 1 = hgt f N
  | 0, hj => by
    have hN : 0 < N := by
      rcases Nat.eq_zero_or_pos N with h0 | h0
      · subst h0; simp [hgt] at hj
      · exact h0
    obtain ⟨a, h1, h2, h3, _⟩ := fst0_some (f := f) hN
    unfold chn
    rw [h1]
    exact ⟨h2, by simpa using h3⟩
  | j + 1, hj => by
    obtain ⟨h1, h2⟩ := chn_at h hR j (by omega)
    obtain ⟨a, h3, h4, h5, _⟩ := prv_some h hR (b := chn R f N j) (by omega)
    unfold chn
    rw [h3]
    simp only [Option.getD_some]
    exact ⟨h4, by omega⟩
/-- the chain in its order -/
def chain (R : Nat → Nat → Bool) (f : Nat → Nat) (N : Nat) : List Nat := (List.range (hgt f N)).map fun i => chn R f N (hgt f N - 1 - i)
/-- its last j -/
def tailC (R : Nat → Nat → Bool) (f : Nat → Nat) (N j : Nat) : List Nat := (List.range j).map fun i => chn R f N (j - 1 - i)
theorem tailC_cons (R : Nat → Nat → Bool) (f : Nat → Nat) (N j : Nat) : tailC R f N (j + 1) = chn R f N j :: tailC R f N j := by
  unfold tailC
  rw [List.range_succ_eq_map, List.map_cons, List.map_map]
  congr 1
  apply List.map_congr_left
  intro i _
  show chn R f N (j + 1 - 1 - (i + 1)) = _
  congr 1
  omega
theorem tailC_all (R : Nat → Nat → Bool) (f : Nat → Nat) (N : Nat) : tailC R f N (hgt f N) = chain R f N := rfl
end Go.Proofs.YtidgibkiacbgfaaDoor

namespace Go.Proofs.YtidgibkiacbgfaaDoor
open Go.RowKit
set_option maxRecDepth 100000
attribute [local go_sem ↓] Go.wp_at_zero Go.wp_at_succ

set_option maxHeartbeats 1000000 in
theorem edgeEnds_any (A : Option Addr) (c n : Nat) (es : List (Int × Int)) (w : World) (he : RdE w w.heap.size A es) (hn : n ≤ 200) (hok : ∀ k, k < es.length → okE n (ed es k) = true) :
    Calls Tryd.prog 36 #[.agg #[.int .i64 (n : Int), .slice A es.length c]] w fun e w' => ∃ ge, e = .returned (.slice (some ⟨ge, 0, none⟩) n n) ∧ RdII w' w'.heap.size (some ⟨ge, 0, none⟩) ((List.range n).map (tos es)) ∧ Below w.heap.size w w' := by
  have hroom := he.room
  obtain ⟨i0, hi, hz0, hz1, hz2⟩ := info_parts Tryd.infoInt
  have hmk1 := run_make_row' (P := Tryd.prog) 100 42 (.slice none 0 0) 24 Tryd.underlying100 Tryd.infoSI rfl .i64 .i64 n (by omega) (by omega)
  go_enter Tryd.func36, Tryd.ntmps36
  go_wp2_with fail
  have hG := GBox.new w n A es.length c 30
  obtain ⟨w1, hw1⟩ : ∃ w1, w1 = w.alloc (.cells #[.int .i64 (n : Int), .slice A es.length c] 30) := ⟨_, rfl⟩
  have hb1 : Below w.heap.size w w1 := by rw [hw1]; exact (Below.refl _ _).alloc (Nat.le_refl _) _
  have hs1 : w.heap.size + 1 = w1.heap.size := by rw [hw1]; simp
  have hE0 := Ends.new 42 3 w1 w1.heap.size n (Nat.le_refl _)
  obtain ⟨w2, hw2⟩ : ∃ w2, w2 = w1.alloc (.cells (madeCells #[.slice none 0 0] n) 42) := ⟨_, rfl⟩
  have hb2 : Below w1.heap.size w1 w2 := by rw [hw2]; exact (Below.refl _ _).alloc (Nat.le_refl _) _
  rw [← hw1, ← hw2, hs1]
  rw [← hw2] at hE0
  rw [← hw1] at hG
  have he1 : RdE w1 w1.heap.size A es := he.step hb1
  obtain ⟨B, hB⟩ : ∃ B, B = w.heap.size := ⟨_, rfl⟩
  obtain ⟨B1, hB1⟩ : ∃ B1, B1 = w1.heap.size := ⟨_, rfl⟩
  rw [← hB] at hG hs1 ⊢
  rw [← hB1] at he1 hE0 hb2 hs1 ⊢
  have hs1 : B + 1 ≤ B1 := by omega
  have hs2 : B1 ≤ w2.heap.size := by have := hb2.size; omega
  have hG2 : GBox w2 B n A es.length c := hG.below hb2 (by omega)
  have HB1 := Lib.hid hB1
  have HB := Lib.hid hB
  have HX := Lib.hid hb1
  have HG := Lib.hid hG
  clear hw1 hw2 hB hB1 he hG
  have HO := Lib.hid hok
  clear hok
  go_loopw [12] (fun i wr => ∃ k : Nat, k ≤ es.length ∧ i = .int .i64 k ∧ Ends 42 3 wr B1 B1 n (tos (es.take k)) ∧ Below B1 w1 wr) (fun i _ => es.length - (intOf i).toNat)
  case atStart => exact ⟨0, Nat.zero_le _, rfl, hE0, hb2⟩
  case round =>
    obtain ⟨k, hk, rfl, hEn, hbr⟩ := hrel
    clear hE0 hb2 hG2
    by_cases hlt : k < es.length
    · have hoke := HO.out k hlt
      unfold okE at hoke
      rw [Bool.and_eq_true] at hoke
      obtain ⟨o1, o2⟩ := hoke
      replace o1 := nodeB_true o1
      replace o2 := nodeB_true o2
      obtain ⟨x, hx⟩ : ∃ x : Nat, (ed es k).1 = (x : Int) := ⟨(ed es k).1.toNat, by omega⟩
      obtain ⟨y, hy⟩ : ∃ y : Nat, (ed es k).2 = (y : Int) := ⟨(ed es k).2.toNat, by omega⟩
      have hxn : x < n := by omega
      have HT := Lib.hid (tos_take es k x hlt hx)
      have hsz := Nat.le_trans (show B1 ≤ w1.heap.size from Nat.le_of_eq HB1.out) hbr.size
      obtain ⟨b, off, rfl, hb, hc⟩ := he1.rd (by omega)
      have hc1 := (hbr.cell (p := ⟨b, off + k * 2, none⟩) hb).trans (hc k hlt).1
      have hc2 := (hbr.cell (p := ⟨b, off + k * 2 + 1, none⟩) hb).trans (hc k hlt).2
      rw [hx] at hc1
      rw [hy] at hc2
      have HY := Lib.hid hy
      clear hc o1 o2 hx hy
      go_wp2_with fail
      have hX := EBox.new wr x y 63
      obtain ⟨w3, hw3⟩ : ∃ w3, w3 = wr.alloc (.cells #[.int .i64 (x : Int), .int .i64 (y : Int)] 63) := ⟨_, rfl⟩
      have hs3 : w3.heap.size = wr.heap.size + 1 := by rw [hw3]; simp
      have hEn3 : Ends 42 3 w3 B1 B1 n (tos (es.take k)) := by rw [hw3]; exact hEn.alloc _
      have hbr3 : Below B1 w1 w3 := by rw [hw3]; exact hbr.alloc hsz _
      rw [← hw3] at hX ⊢
      have hgl0 := hEn.lt
      have hbk : w3.heap[wr.heap.size]? = some (.cells #[.int .i64 (x : Int), .int .i64 (y : Int)] 63 (0, 0)) := by rw [hw3]; exact heap_alloc_new wr _
      clear hw3 hEn hbr hc1 hc2
      have hl := tos_take_len es k x
      obtain ⟨v, A3, c3, rfl, hcell, hfz, hown, hgl, hng, hnext⟩ := hEn3.at_ (by decide) hxn
      have hx0 : (0 : Int) ≤ (x : Int) := Int.natCast_nonneg _
      have hx1 : (x : Int) < (n : Int) := by omega
      have hex := hX.x
      have hey := hX.y
      obtain ⟨BE, hBE⟩ : ∃ BE, BE = wr.heap.size := ⟨_, rfl⟩
      rw [← hBE] at hex hey hs3 hbk ⊢
      have hBE3 : BE < w3.heap.size := by omega
      have hne : BE ≠ B1 := by omega
      have hnE : (Value.slice A3 (tos (es.take k) x).length c3).ownBlock ≠ some BE := own_ne_blk hown hbk (by decide)
      have HS3 := Lib.hid hs3
      clear hX hBE hs3
      have hfa : ∀ o, (w3.alloc o).frozen? ⟨B1, x, none⟩ = false := fun o => (World.frozen?_alloc_old w3 o ⟨B1, x, none⟩ (Nat.ne_of_lt hgl)).trans hfz
      clear hbk
      have hxa : ∀ o, (w3.alloc o).cell? ⟨BE, 0, none⟩ = some (.int .i64 (x : Int)) := fun o => (World.cell?_alloc_lt w3 o ⟨BE, 0, none⟩ hBE3).trans hex
      have hya : ∀ o, (w3.alloc o).cell? ⟨BE, 1, none⟩ = some (.int .i64 (y : Int)) := fun o => (World.cell?_alloc_lt w3 o ⟨BE, 1, none⟩ hBE3).trans hey
      have hca : ∀ o, (w3.alloc o).cell? ⟨B1, x, none⟩ = some (.slice A3 (tos (es.take k) x).length c3) := fun o => (World.cell?_alloc_lt w3 o ⟨B1, x, none⟩ hgl).trans hcell
      have hin1 : (tos (es.take k) x).length + 1 ≤ maxLen := by unfold maxLen; omega
      have hin2 : ((tos (es.take k) x).length + 1) * 8 ≤ 140737488355328 := by omega
      have hfin : ∀ gg cap w4, w4.ownsRow B1 3 1 (.slice (some ⟨gg, 0, none⟩) ((tos (es.take k) x).length + 1) cap) ((tos (es.take k) x).length + 1) (iVals (tos (es.take k) x) ++ [.int .i64 (y : Int)]) →
          (w3.alloc (.cells #[.int .i64 (y : Int)] 3)).drew.grownBy w4 (Value.slice A3 (tos (es.take k) x).length c3).ownBlock → ((Value.slice A3 (tos (es.take k) x).length c3).ownBlock = some gg ∨ gg = w3.heap.size + 1) →
          Hid (Ends 42 3 (w4.setCell ⟨B1, x, none⟩ (.slice (some ⟨gg, 0, none⟩) ((tos (es.take k) x).length + 1) cap)) B1 B1 n (tos (es.take (k + 1))) ∧ Below B1 w1 (w4.setCell ⟨B1, x, none⟩ (.slice (some ⟨gg, 0, none⟩) ((tos (es.take k) x).length + 1) cap))) := fun gg cap w4 h1 h2 h3 => by
        refine Lib.hid ⟨?_, ?_⟩
        · rw [HT.out, HY.out]
          exact hnext _ y _ w4 h1 h2 (fun b hb => by
            obtain rfl : gg = b := by simpa [Value.ownBlock] using hb
            exact h3)
        · refine Below.setCell (p := ⟨B1, x, none⟩) (((hbr3.alloc (by omega) _).drew).grown h2 (by simp; omega) (own_base hown)) (Nat.le_refl _) _
      have HFIN := Lib.hid hfin
      clear hfin hnext
      go_region_law
        ((refine step_append_lies _ (by rfl) _ _ _ (by rfl) B1 3 i0 _ 1 8 Tryd.underlying42 hi hz0 hz1 hz2 rfl (by omega) (.slice A3 (tos (es.take k) x).length c3) (tos (es.take k) x).length (iVals (tos (es.take k) x)) (by rfl) ((hown.alloc _).drew)
            ⟨w3.heap.size, 0, none⟩ 1 1 [.int .i64 (y : Int)] (by rfl) (by rfl) (World.news_of_block (cs := #[.int .i64 (y : Int)]) (t := 3) (fr := (0, 0)) (heap_alloc_new w3 _)) (by simp [Value.oneCell'])
            (by omega) hin1 hin2 (by simp; omega) (w3.heap.size + 1) (by simp) ?_; intro gg cap w4 hown1 hgrow hat hlt'; have hc4 := (hgrow.cell_far ⟨B1, x, none⟩ (by simp; omega) (Ne.symm hng)).trans (hca _); have hf4 := (hgrow.frozen_far ⟨B1, x, none⟩ (by simp; omega) (Ne.symm hng)).trans (hfa _); have hx4 := (hgrow.cell_far ⟨BE, 0, none⟩ (by simp; omega) (Ne.symm hnE)).trans (hxa _); have hy4 := (hgrow.cell_far ⟨BE, 1, none⟩ (by simp; omega) (Ne.symm hnE)).trans (hya _); have HF := HFIN.out _ _ _ hown1 hgrow hat))
      all_goals
        go_wp2
        go_roundw
        case rel => exact ⟨k + 1, by omega, by go_num, HF.out.1, HF.out.2⟩
        case measure => simp [intOf]; omega
    · obtain rfl : k = es.length := by omega
      rw [List.take_length] at hEn
      have hR := hEn.rd (by omega) fun i hi => ⟨Nat.le_trans (tos_len es i) (by omega), fun k => tos_in es n HO.out i k hn⟩
      go_wp2
      go_ret
      have hBB := HB.out
      exact ⟨_, rfl, hR, HX.out.trans (hbr.mono (by omega))⟩
end Go.Proofs.YtidgibkiacbgfaaDoor

namespace Go.Proofs.YtidgibkiacbgfaaDoor
open Go.RowKit
set_option maxRecDepth 100000

/-- where the edges from a lead -/
def nxN (es : List (Int × Int)) (a : Nat) : List Nat := (tos es a).map Int.toNat
theorem nxN_iff {m : Nat} {es : List (Int × Int)} (h : inR m es = true) (a b : Nat) : gR es a b = true ↔ b ∈ nxN es a := by
  unfold nxN gR
  rw [List.mem_map, decide_eq_true_eq]
  constructor
  · intro hm
    exact ⟨(b : Int), tos_mem.2 hm, by omega⟩
  · rintro ⟨z, hz, rfl⟩
    have hm := tos_mem.1 hz
    have := edge_in h hm
    rwa [show ((z.toNat : Nat) : Int) = z by omega]
/-- the longest ways' lengths -/
def lvs (m : Nat) (es : List (Int × Int)) : Nat → Nat := trn (nxN es) (ordr m es)
def levG (N : Int) (es : List (Int × Int)) : List Int := if errn N es = 0 then (List.range N.toNat).map (fun k => ((lvs N.toNat es k : Nat) : Int)) else []
theorem lvs_lev {m : Nat} {es : List (Int × Int)} (h : inR m es = true) (hfull : (ordr m es).length = m) : Lev (gR es) (lvs m es) := trn_lev (good_topoN _ _ _) hfull (gR_lt h) (nxN_iff h)
theorem ordr_good (m : Nat) (es : List (Int × Int)) : Good (gR es) m (ordr m es) := good_topoN _ _ _
theorem lvs_lt {m : Nat} {es : List (Int × Int)} (h : inR m es = true) (hfull : (ordr m es).length = m) {b : Nat} (hb : b < m) : lvs m es b < m := (lvs_lev h hfull).way.lt (ordr_good m es) hfull (gR_lt h) hb
theorem levG_ok {m : Nat} {es : List (Int × Int)} (h : errn m es = 0) : levG m es = (List.range m).map (fun k => ((lvs m es k : Nat) : Int)) := by unfold levG; rw [if_pos h, Int.toNat_natCast]
theorem levG_no {N : Int} {es : List (Int × Int)} (h : errn N es ≠ 0) : levG N es = [] := by unfold levG; rw [if_neg h]
theorem levG_len {m : Nat} {es : List (Int × Int)} (h : errn m es = 0) : (levG m es).length = m := by rw [levG_ok h]; simp

/-- one more edge's end, in memory -/
theorem take_outs (nx : Nat → List Nat) (a j : Nat) (h : j < (nx a).length) : (outs nx a).take (j + 1) = (outs nx a).take j ++ [(a, (nx a).getD j 0)] := by
  rw [List.take_succ_eq_append_getElem (by unfold outs; simpa using h)]
  congr 2
  unfold outs
  simp [List.getD, h]

theorem rowIs_rdI' {w : World} {g t m : Nat} {z : Nat → Nat} (h : w.rowIs g t m (fun k => .int .i64 ((z k : Nat) : Int))) (hb : ∀ k, k < m → z k < m) (hm : m ≤ 1048576) : RdI w w.heap.size (some ⟨g, 0, none⟩) ((List.range m).map fun k => ((z k : Nat) : Int)) := by
  have h2 : w.rowIs g t m (fun k => .int .i64 (if k < m then ((z k : Nat) : Int) else 0)) := h.congr fun k hk => by rw [if_pos hk]
  have h3 := rowIs_rdI h2 (fun k => by split; have := hb k (by assumption); omega; omega) hm
  rwa [show (List.range m).map (fun k => if k < m then ((z k : Nat) : Int) else 0) = (List.range m).map fun k => ((z k : Nat) : Int) from List.map_congr_left fun k hk => if_pos (List.mem_range.1 hk)] at h3

set_option maxHeartbeats 4000000 in
theorem levels_any (A : Option Addr) (c : Nat) (N : Int) (es : List (Int × Int)) (w : World) (he : RdE w w.heap.size A es) (hT : Tab w) :
    Calls Tryd.prog 25 #[.agg #[.int .i64 N, .slice A es.length c]] w fun e w' => ∃ A1 c1, e = .returned (.tuple #[.slice A1 (levG N es).length c1, .int .i64 (errn N es)]) ∧ RdI w' w'.heap.size A1 (levG N es) ∧ Below w.heap.size w w' := by
  have hroom := he.room
  have hmk := fun m (hm : m ≤ 200) => run_make_row' (P := Tryd.prog) 42 3 (.int .i64 0) 8 Tryd.underlying42 Tryd.infoInt rfl .i64 .i64 m (by omega) (by omega)
  go_enter Tryd.func25, Tryd.ntmps25
  go_wp2_with fail
  have g1 := GB.new w 30 N (.slice A es.length c)
  have hB := below_alloc w (.cells #[.int .i64 N, .slice A es.length c] 30)
  obtain ⟨w1, hw1⟩ : ∃ w1, w1 = w.alloc (.cells #[.int .i64 N, .slice A es.length c] 30) := ⟨_, rfl⟩
  rw [← hw1] at g1 hB ⊢
  have hs := hB.size
  replace he := he.step hB
  replace hT := hT.step hB
  clear hw1
  refine (sort_any A c N es _ he hT).mono ?_
  rintro e w2 ⟨A2, c2, rfl, q2, hb⟩
  replace g1 := g1.step hb
  replace he := he.step hb
  replace hB := below_step hB hs hb
  replace hs := hB.size
  clear hb hT
  by_cases hE : errn N es = 0
  · obtain ⟨m, rfl, hin, hfull⟩ := errn_split hE
    have hm := okN_of hin
    have hO : ordG m es = toI (ordr m es) := by unfold ordG; rw [if_pos hE, Int.toNat_natCast]
    rw [hO] at q2
    rw [hE, hO]
    have HLE := Lib.hid (levG_ok hE)
    have HEE := Lib.hid hE
    have hgood := ordr_good m es
    have hord : (toI (ordr m es)).length = m := by rw [toI_len, hfull]
    have n1 := g1.n
    have e1 := g1.e
    have hmk := hmk m (by omega)
    go_wp2_with fail
    refine (edgeEnds_any A c m es _ he (by omega) (okE_of hin)).mono ?_
    rintro e w3 ⟨ge, rfl, q3, hb⟩
    replace g1 := g1.step hb
    replace q2 := q2.step hb
    replace hB := below_step hB hs hb
    replace hs := hB.size
    clear hb n1 e1 he
    have n1 := g1.n
    go_wp2_with fail
    have R := World.rowIs_made w3 (.int .i64 0) m 3
    have hBn := below_alloc w3 (.cells (madeCells #[.int .i64 0] m) 3)
    obtain ⟨w4, hw4⟩ : ∃ w4, w4 = w3.alloc (.cells (madeCells #[.int .i64 0] m) 3) := ⟨_, rfl⟩
    obtain ⟨g, hg⟩ : ∃ g, g = w3.heap.size := ⟨_, rfl⟩
    rw [← hw4] at R hBn ⊢
    rw [← hg] at R q2 q3 hBn ⊢
    have hgs : w.heap.size ≤ g := by omega
    have HG := Lib.hid hg
    have HFULL := Lib.hid hfull
    have HGOOD := Lib.hid hgood
    have hRl := gR_lt hin
    have HRL := Lib.hid hRl
    have HNX := Lib.hid (nxN_iff hin)
    have HIN := Lib.hid hin
    obtain ⟨d, hd⟩ : ∃ d, d = ordr m es := ⟨_, rfl⟩
    have hlv : lvs m es = trn (nxN es) d := by rw [hd]; rfl
    have HLV := Lib.hid hlv
    rw [← hd] at HFULL HGOOD q2 hord
    try rw [← hd]
    have HO := Lib.hid hord
    clear hw4 hg n1 g1 hE hO hfull hgood hRl hin hlv
    try rw [HO.out]
    have hlen : d.length = m := HFULL.out
    have HL := Lib.hid hlen
    clear hord hlen
    obtain ⟨wo, hwo⟩ : ∃ wo : World, wo = w3 := ⟨_, rfl⟩
    rw [← hwo] at q2 q3 hBn hB
    have HW := Lib.hid hwo
    clear hwo
    go_loopw [27] (fun i wr => ∃ k : Nat, k ≤ m ∧ i = .int .i64 k ∧ wr.rowIs g 3 m (fun x => .int .i64 ((trn (nxN es) (d.take k) x : Nat) : Int)) ∧ Below g wo wr) (fun i _ => m - (intOf i).toNat)
    case atStart => exact ⟨0, Nat.zero_le _, rfl, R, hBn⟩
    case round =>
      obtain ⟨k, hk, rfl, hr, hbr⟩ := hrel
      clear R hBn
      by_cases hlt : k < m
      · obtain ⟨x, hx⟩ : ∃ x, x = d.getD k 0 := ⟨_, rfl⟩
        have hkd : k < d.length := by rw [HL.out]; exact hlt
        have hdx : d[k] = x := by rw [hx]; simp [List.getD, hkd]
        have hxm : x < m := HGOOD.out.lt x (by rw [← hdx]; exact List.getElem_mem _)
        obtain ⟨b2, off2, rfl, hb2, hc2⟩ := q2.rd (by rw [HO.out]; omega)
        have hcx := (hbr.cell (p := ⟨b2, off2 + k, none⟩) hb2).trans (hc2 k (by rw [HO.out]; exact hlt))
        dsimp only at hcx
        rw [show zd (toI d) k = (x : Int) by rw [← hdx]; unfold zd toI; simp [List.getD, hkd]] at hcx
        obtain ⟨A6, c6, hg6, hcell, hri⟩ := q3.at0 (k := x) (by simpa using hxm)
        rw [show ((List.range m).map (tos es)).getD x [] = tos es x by simp [List.getD, hxm]] at hcell hri
        have hcW := (hbr.cell (p := ⟨ge, x, none⟩) hg6).trans hcell
        have hT0 : trn (nxN es) (d.take (k + 1)) = rnd (outs (nxN es) x) (trn (nxN es) (d.take k)) := by
          rw [List.take_succ_eq_append_getElem hkd, trn_snoc, hdx]
        have HT := Lib.hid hT0
        have hS := trn_snd HNX.out d k
        obtain ⟨f, hf⟩ : ∃ f, f = trn (nxN es) (d.take k) := ⟨_, rfl⟩
        rw [← hf] at hr HT hS
        have HS := Lib.hid hS
        have hlo : (outs (nxN es) x).length = (tos es x).length := by unfold outs nxN; simp
        have HLO := Lib.hid hlo
        have hri2 : RdI wo g A6 (tos es x) := hri
        have hx0 : (0 : Int) ≤ (x : Int) := Int.natCast_nonneg _
        clear hc2 hcell hx hdx hT0 hf hS hlo hri hkd
        have HX := Lib.hid hxm
        have htl := tos_len es x
        go_wp2_with fail
        go_loopw [36] (fun i wq => ∃ j : Nat, j ≤ (tos es x).length ∧ i = .int .i64 j ∧ wq.rowIs g 3 m (fun y => .int .i64 ((rnd ((outs (nxN es) x).take j) f y : Nat) : Int)) ∧ Below g wo wq) (fun i _ => (tos es x).length - (intOf i).toNat)
        case atStart => exact ⟨0, Nat.zero_le _, rfl, hr, hbr⟩
        case round =>
          obtain ⟨j, hj, rfl, hr, hbr⟩ := hrel
          by_cases hjl : j < (tos es x).length
          · obtain ⟨b6, off6, rfl, hb6, hc6⟩ := hri2.rd (by omega)
            have hcy := (hbr.cell (p := ⟨b6, off6 + j, none⟩) hb6).trans (hc6 j hjl)
            obtain ⟨y, hy, hym, hyx⟩ : ∃ y : Nat, zd (tos es x) j = (y : Int) ∧ y < m ∧ (nxN es x).getD j 0 = y := by
              have hz : zd (tos es x) j ∈ tos es x := zd_mem' _ _ hjl
              have := edge_in HIN.out (tos_mem.1 hz)
              refine ⟨(zd (tos es x) j).toNat, by omega, by omega, ?_⟩
              unfold nxN zd
              simp [List.getD, hjl]
            dsimp only at hcy
            rw [hy] at hcy
            have hto := take_outs (nxN es) x j (by unfold nxN; simpa using hjl)
            rw [hyx] at hto
            have hSn : Snd (gR es) (rnd ((outs (nxN es) x).take j) f) := HS.out.rnd fun e he => by
              obtain ⟨h1, h2⟩ := mem_outs.1 (List.mem_of_mem_take he)
              exact (HNX.out _ _).2 (by rw [h1]; exact h2)
            have hfx := hSn.lt HGOOD.out HL.out HRL.out hxm
            have hfy := hSn.lt HGOOD.out HL.out HRL.out hym
            have HN : Hid (rnd ((outs (nxN es) x).take (j + 1)) f = rlx (rnd ((outs (nxN es) x).take j) f) (x, y)) := Lib.hid (by rw [hto, rnd_snoc])
            obtain ⟨q, hq⟩ : ∃ q, q = rnd ((outs (nxN es) x).take j) f := ⟨_, rfl⟩
            rw [← hq] at hr hfx hfy HN
            have cx := hr.cell hxm
            have cy := hr.cell hym
            have fy := hr.frozen y
            have hset := hr.set y (.int .i64 ((max (q y) (q x + 1) : Nat) : Int))
            have hB2 := hbr.setCell (p := ⟨g, y, none⟩) (Nat.le_refl _) (.int .i64 ((max (q y) (q x + 1) : Nat) : Int))
            have hfun : (fun i => if i = y then Value.int .i64 ((max (q y) (q x + 1) : Nat) : Int) else Value.int .i64 ((q i : Nat) : Int)) = fun i => Value.int .i64 ((rlx q (x, y) i : Nat) : Int) := by
              funext i
              unfold rlx
              dsimp only
              split <;> rfl
            rw [hfun] at hset
            have HSET := Lib.hid hset
            have HB2 := Lib.hid hB2
            have hy0 : (0 : Int) ≤ (y : Int) := Int.natCast_nonneg _
            obtain ⟨qx, hqx⟩ : ∃ qx, qx = q x := ⟨_, rfl⟩
            obtain ⟨qy, hqy⟩ : ∃ qy, qy = q y := ⟨_, rfl⟩
            rw [← hqx] at cx hfx HSET HB2
            rw [← hqy] at cy hfy HSET HB2
            have hxm' := HX.out
            have hmax : ∀ (W : World) (ts : Array TypeId) (t : TypeId), (Builtin.max_ ts t #[.int .i64 (qy : Int), .int .i64 ((qx : Int) + 1)]).run Tryd.prog W = .ok (.int .i64 ((max qy (qx + 1) : Nat) : Int)) W := fun W ts t => by
              rw [Go.run_max_int2]
              congr 2
              split <;> omega
            clear hc6 hy hyx hto hSn hset hB2 hfun hqx hqy hq hr
            go_wp2_with fail
            go_region
            all_goals
              go_wp2
              go_roundw
              case rel =>
                refine ⟨j + 1, by omega, by go_num, ?_, HB2.out.drew⟩
                rw [HN.out]
                exact HSET.out
              case measure => simp [intOf]; omega
          · obtain rfl : j = (tos es x).length := by omega
            rw [List.take_of_length_le (by rw [HLO.out]; omega), ← HT.out] at hr
            go_wp2_with fail
            go_roundw
            case rel => exact ⟨k + 1, by omega, by go_num, hr, hbr⟩
            case measure => simp [intOf]; omega
      · obtain rfl : k = m := by omega
        rw [List.take_of_length_le (Nat.le_of_eq HL.out)] at hr
        go_wp2_with fail
        go_ret2
        have hbd : ∀ b, b < k → trn (nxN es) d b < k := fun b hb => by
          have h0 := trn_snd HNX.out d d.length
          rw [List.take_length] at h0
          exact h0.lt HGOOD.out HL.out HRL.out hb
        rw [HEE.out, HLE.out, HLV.out]
        refine ⟨some ⟨g, 0, none⟩, k, by simp, rowIs_rdI' hr hbd (by omega), hB.trans (hbr.mono hgs)⟩
  · have h3 : (errn N es != 0) = true := by simpa using hE
    have HL0 := Lib.hid (levG_no hE)
    obtain ⟨E, hEE⟩ : ∃ E, E = errn N es := ⟨_, rfl⟩
    have HEE := Lib.hid hEE
    rw [← hEE] at h3 ⊢
    clear hE hEE
    go_wp2
    go_ret2
    rw [HL0.out, ← HEE.out]
    exact ⟨_, _, rfl, ⟨fun k => by simp [zd], fun k => by simp [zd], by simp, fun h => by simp at h⟩, hB⟩
end Go.Proofs.YtidgibkiacbgfaaDoor

namespace Go.Proofs.YtidgibkiacbgfaaDoor
open Go.RowKit
set_option maxRecDepth 100000

/-- the edges as nodes -/
def nE (es : List (Int × Int)) : List (Nat × Nat) := es.map fun e => (e.1.toNat, e.2.toNat)
theorem nE_len (es : List (Int × Int)) : (nE es).length = es.length := by unfold nE; simp
theorem nE_iff {m : Nat} {es : List (Int × Int)} (h : inR m es = true) (a b : Nat) : gR es a b = true ↔ (a, b) ∈ nE es := by
  unfold nE gR
  rw [List.mem_map, decide_eq_true_eq]
  constructor
  · intro hm
    exact ⟨_, hm, by simp⟩
  · rintro ⟨⟨x, y⟩, hz, he⟩
    have := edge_in h hz
    injection he with h1 h2
    dsimp only at h1 h2
    rwa [show (a : Int) = x by omega, show (b : Int) = y by omega]
theorem take_nE (es : List (Int × Int)) (k : Nat) (h : k < es.length) : (nE es).take (k + 1) = (nE es).take k ++ [((ed es k).1.toNat, (ed es k).2.toNat)] := by
  unfold nE
  rw [← List.map_take, ← List.map_take, take_ed es k h, List.map_append]
  rfl
theorem lvs_rnds {m : Nat} {es : List (Int × Int)} (h : inR m es = true) (hfull : (ordr m es).length = m) : lvs m es = rnds (nE es) m :=
  (lvs_lev h hfull).uniq (rnds_lev (ordr_good m es) hfull (gR_lt h) (nE_iff h))

/-! ### heights -/
def hgtG (N : Int) (es : List (Int × Int)) : Int := if errn N es = 0 then ((hgt (lvs N.toNat es) N.toNat : Nat) : Int) else 0
theorem hgtG_ok {m : Nat} {es : List (Int × Int)} (h : errn m es = 0) : hgtG m es = ((hgt (lvs m es) m : Nat) : Int) := by unfold hgtG; rw [if_pos h, Int.toNat_natCast]
theorem hgtG_no {N : Int} {es : List (Int × Int)} (h : errn N es ≠ 0) : hgtG N es = 0 := by unfold hgtG; rw [if_neg h]

set_option maxHeartbeats 2000000 in
theorem height_any (A : Option Addr) (c m : Nat) (f : Nat → Nat) (hm : m ≤ 200) (hf : ∀ b, b < m → f b < m) (w : World) (hx : RdI w w.heap.size A ((List.range m).map fun k => ((f k : Nat) : Int))) :
    Calls Tryd.prog 26 #[.slice A m c] w fun e w' => e = .returned (.int .i64 ((hgt f m : Nat) : Int)) ∧ w = w' := by
  go_enter Tryd.func26, Tryd.ntmps26
  go_wp2_with fail
  obtain ⟨wo, rfl⟩ : ∃ wo : World, wo = w := ⟨_, rfl⟩
  go_loopw [8, 3] (fun i t wr => ∃ k : Nat, k ≤ m ∧ i = .int .i64 k ∧ t = .int .i64 (((hgt f k : Nat) : Int) - 1) ∧ wr = wo) (fun i _ _ => m - (intOf i).toNat)
  case atStart => exact ⟨0, Nat.zero_le _, rfl, rfl, rfl⟩
  case round =>
    obtain ⟨k, hk, rfl, rfl, rfl⟩ := hrel
    by_cases hlt : k < m
    · obtain ⟨b, off, rfl, hb, hc⟩ := hx.rd (by simp; omega)
      have hck := hc k (by simpa using hlt)
      dsimp only at hck
      rw [show zd ((List.range m).map fun k => ((f k : Nat) : Int)) k = ((f k : Nat) : Int) by unfold zd; simp [List.getD, hlt]] at hck
      have h1 := hf k hlt
      have h2 : hgt f k ≤ m := hgt_le f fun b hb => hf b (by omega)
      have h3 : hgt f (k + 1) = max (hgt f k) (f k + 1) := rfl
      have H3 := Lib.hid h3
      obtain ⟨p, hp⟩ : ∃ p, p = hgt f k := ⟨_, rfl⟩
      obtain ⟨q, hq⟩ : ∃ q, q = f k := ⟨_, rfl⟩
      rw [← hp] at h2 H3 ⊢
      rw [← hq] at h1 hck H3
      have hmax : ∀ (W : World) (ts : Array TypeId) (t : TypeId), (Builtin.max_ ts t #[.int .i64 ((p : Int) - 1), .int .i64 (q : Int)]).run Tryd.prog W = .ok (.int .i64 (((max p (q + 1) : Nat) : Int) - 1)) W := fun W ts t => by
        rw [Go.run_max_int2]
        congr 2
        split <;> omega
      clear hc h3 hp hq
      go_wp2_with fail
      go_roundw
      case rel => exact ⟨k + 1, by omega, by go_num, by rw [H3.out], by trivial⟩
      case measure => simp [intOf]; omega
    · obtain rfl : k = m := by omega
      have h2 : hgt f k ≤ k := hgt_le f hf
      obtain ⟨p, hp⟩ : ∃ p, p = hgt f k := ⟨_, rfl⟩
      rw [← hp] at h2 ⊢
      have HP := Lib.hid hp
      clear hp
      go_wp2_with fail
      go_ret
      refine ⟨?_, rfl⟩
      rw [← HP.out]
      simp

/-- the levels as a list that is read -/
theorem levG_hgt {m : Nat} {es : List (Int × Int)} (hE : errn m es = 0) (hin : inR m es = true) (hfull : (ordr m es).length = m) :
    levG m es = (List.range m).map (fun k => ((lvs m es k : Nat) : Int)) ∧ (∀ b, b < m → lvs m es b < m) := ⟨levG_ok hE, fun _ hb => lvs_lt hin hfull hb⟩

set_option maxHeartbeats 2000000 in
theorem heightG_any (A : Option Addr) (c : Nat) (N : Int) (es : List (Int × Int)) (w : World) (he : RdE w w.heap.size A es) (hT : Tab w) :
    Calls Tryd.prog 11 #[.agg #[.int .i64 N, .slice A es.length c]] w fun e w' => e = .returned (.tuple #[.int .i64 (hgtG N es), .int .i64 (errn N es)]) ∧ Below w.heap.size w w' := by
  go_enter Tryd.func11, Tryd.ntmps11
  go_wp2_with fail
  have hB := below_alloc w (.cells #[.int .i64 N, .slice A es.length c] 30)
  obtain ⟨w1, hw1⟩ : ∃ w1, w1 = w.alloc (.cells #[.int .i64 N, .slice A es.length c] 30) := ⟨_, rfl⟩
  rw [← hw1] at hB ⊢
  have hs := hB.size
  replace he := he.step hB
  replace hT := hT.step hB
  clear hw1
  refine (levels_any A c N es _ he hT).mono ?_
  rintro e w2 ⟨A2, c2, rfl, q2, hb⟩
  replace hB := below_step hB hs hb
  clear hb
  by_cases hE : errn N es = 0
  · obtain ⟨m, rfl, hin, hfull⟩ := errn_split hE
    have hm := okN_of hin
    obtain ⟨h1, h2⟩ := levG_hgt hE hin hfull
    have hl := levG_len hE
    have HH := Lib.hid (hgtG_ok hE)
    have HEE := Lib.hid hE
    rw [hl, hE]
    rw [h1] at q2
    obtain ⟨f, hf⟩ : ∃ f, f = lvs m es := ⟨_, rfl⟩
    rw [← hf] at q2 h2 HH
    clear hE hl h1 hf
    go_wp2_with (first | (refine (height_any A2 c2 m f (by omega) h2 _ q2).mono ?_; rintro e w3 ⟨rfl, rfl⟩) | fail)
    go_ret2
    rw [HH.out, HEE.out]
    exact ⟨rfl, hB⟩
  · have h3 : (errn N es != 0) = true := by simpa using hE
    rw [levG_no hE]
    have HH := Lib.hid (hgtG_no hE)
    obtain ⟨E, hEE⟩ : ∃ E, E = errn N es := ⟨_, rfl⟩
    have HEE := Lib.hid hEE
    rw [← hEE] at h3 ⊢
    clear hE hEE
    go_wp2
    go_ret2
    rw [HH.out, ← HEE.out]
    exact ⟨rfl, hB⟩

end Go.Proofs.YtidgibkiacbgfaaDoor
