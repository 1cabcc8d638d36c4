/-
  Matchings that grow by alternating ways: what a search that joins leaves, what one that joins nothing leaves. Plain mathematics.
  The chains that a matching makes; in each of them one is the last that was not tried: so there are as many of these as chains, and they are side by side. Plain mathematics.
  Counting orders: fewer where more is asked, at least one, not too many; parted by who comes first. Plain mathematics.
  OrderLevels, plain mathematics: raising the ends of edges until nothing stands too low gives the longest ways, whatever the order it is done in; the chain that goes back from the top.
-/
import Derived.Test.YtaboafkpmgadmaaDoorPk10
import Derived.Test.YtaboafkpmgadmaaDoorPk00
namespace Go.Proofs.YtaboafkpmgadmaaDoor

/-- before and behind fit together, along f -/
structure Mt (f : Nat → Nat → Bool) (m : Nat) (B H : Nat → Option Nat) : Prop where
  b : ∀ k a, B k = some a → a < m ∧ k < m ∧ f a k = true ∧ H a = some k
  h : ∀ a k, H a = some k → B k = some a
/-- the search from n joined: all fits but what stood behind n -/
structure Suc (f : Nat → Nat → Bool) (m : Nat) (B H : Nat → Option Nat) (T : Nat → Bool) (n : Nat) (B' H' : Nat → Option Nat) : Prop where
  s1 : ∃ x, H' n = some x ∧ T x = false
  b : ∀ k a, B' k = some a → a < m ∧ k < m ∧ f a k = true ∧ (H' a = some k ∨ (a = n ∧ H n = some k))
  h : ∀ a k, H' a = some k → B' k = some a
  dom : ∀ a, (H' a).isSome = ((H a).isSome || decide (a = n))
  keep : ∀ a k, H a = some k → T k = true → a ≠ n → H' a = some k
  old : ∀ k, H n = some k → B' k = some n
/-- the search from n joined nothing -/
structure Fal (f : Nat → Nat → Bool) (B : Nat → Option Nat) (T : Nat → Bool) (n : Nat) (T' : Nat → Bool) : Prop where
  up : ∀ k, T k = true → T' k = true
  all : ∀ k, f n k = true → T' k = true
  new : ∀ k, T' k = true → T k = true ∨ ∃ a, B k = some a ∧ ∀ j, f a j = true → T' j = true

def setO (g : Nat → Option Nat) (k v : Nat) : Nat → Option Nat := fun i => if i = k then some v else g i
def setT (T : Nat → Bool) (k : Nat) : Nat → Bool := fun i => if i = k then true else T i
theorem setO_same (g : Nat → Option Nat) (k v : Nat) : setO g k v k = some v := if_pos rfl
theorem setO_other {g : Nat → Option Nat} {k v i : Nat} (h : i ≠ k) : setO g k v i = g i := if_neg h
theorem setT_same (T : Nat → Bool) (k : Nat) : setT T k k = true := if_pos rfl
theorem setT_up {T : Nat → Bool} {k i : Nat} (h : T i = true) : setT T k i = true := by unfold setT; split; rfl; exact h
theorem setT_or {T : Nat → Bool} {k i : Nat} (h : setT T k i = true) : i = k ∨ T i = true := by
  unfold setT at h
  split at h
  · exact .inl (by assumption)
  · exact .inr h

variable {f : Nat → Nat → Bool} {m : Nat} {B H : Nat → Option Nat} {T : Nat → Bool}

theorem Suc.direct {n x : Nat} (hM : Mt f m B H) (hn : n < m) (hx : x < m) (hF : f n x = true) (hTx : T x = false) (hB : B x = none) (hP : ∀ k, H n = some k → T k = true) : Suc f m B H T n (setO B x n) (setO H n x) := by
  refine ⟨⟨x, setO_same _ _ _, hTx⟩, fun k a hk => ?_, fun a k ha => ?_, fun a => ?_, fun a k ha _ hne => ?_, fun k hk => ?_⟩
  · by_cases e : k = x
    · subst e
      rw [setO_same] at hk
      injection hk with hk
      subst hk
      exact ⟨hn, hx, hF, .inl (setO_same _ _ _)⟩
    · rw [setO_other e] at hk
      obtain ⟨h1, h2, h3, h4⟩ := hM.b k a hk
      refine ⟨h1, h2, h3, ?_⟩
      by_cases ea : a = n
      · exact .inr ⟨ea, by rw [← ea]; exact h4⟩
      · exact .inl (by rw [setO_other ea]; exact h4)
  · by_cases ea : a = n
    · subst ea
      rw [setO_same] at ha
      injection ha with ha
      subst ha
      exact setO_same _ _ _
    · rw [setO_other ea] at ha
      have h1 := hM.h a k ha
      have hne : k ≠ x := fun e => by rw [e, hB] at h1; cases h1
      rw [setO_other hne]
      exact h1
  · by_cases ea : a = n
    · subst ea; rw [setO_same]; simp
    · rw [setO_other ea]; simp [ea]
  · rw [setO_other hne]; exact ha
  · have hne : k ≠ x := fun e => by have := hP k hk; rw [e, hTx] at this; cases this
    rw [setO_other hne]
    exact hM.h n k hk

theorem Suc.deep {n x a0 : Nat} {T1 : Nat → Bool} {B1 H1 : Nat → Option Nat} (hM : Mt f m B H) (hn : n < m) (hx : x < m) (hF : f n x = true) (hTx : T x = false) (hT1 : ∀ k, T k = true → T1 k = true) (hT1x : T1 x = true) (hB : B x = some a0) (hP : ∀ k, H n = some k → T k = true)
    (hi : Suc f m B H T1 a0 B1 H1) : Suc f m B H T n (setO B1 x n) (setO H1 n x) := by
  obtain ⟨_, _, _, hHa⟩ := hM.b x a0 hB
  have hne0 : n ≠ a0 := fun e => by
    subst e
    have := hP x hHa
    rw [hTx] at this
    cases this
  refine ⟨⟨x, setO_same _ _ _, hTx⟩, fun k a hk => ?_, fun a k ha => ?_, fun a => ?_, fun a k ha hTk hne => ?_, fun k hk => ?_⟩
  · by_cases e : k = x
    · subst e
      rw [setO_same] at hk
      injection hk with hk
      subst hk
      exact ⟨hn, hx, hF, .inl (setO_same _ _ _)⟩
    · rw [setO_other e] at hk
      obtain ⟨h1, h2, h3, h4⟩ := hi.b k a hk
      refine ⟨h1, h2, h3, ?_⟩
      have h5 : H1 a = some k := by
        rcases h4 with h4 | ⟨h4, h6⟩
        · exact h4
        · rw [hHa] at h6
          injection h6 with h6
          exact absurd h6.symm e
      by_cases ea : a = n
      · subst ea
        refine .inr ⟨rfl, ?_⟩
        have hd := hi.dom a
        rw [h5] at hd
        have : decide (a = a0) = false := by simpa using hne0
        rw [this, Bool.or_false] at hd
        obtain ⟨k1, hk1⟩ := Option.isSome_iff_exists.1 hd.symm
        have h7 := hi.keep a k1 hk1 (hT1 _ (hP k1 hk1)) hne0
        rw [h5] at h7
        injection h7 with h7
        rw [h7]
        exact hk1
      · exact .inl (by rw [setO_other ea]; exact h5)
  · by_cases ea : a = n
    · subst ea
      rw [setO_same] at ha
      injection ha with ha
      subst ha
      exact setO_same _ _ _
    · rw [setO_other ea] at ha
      have h1 := hi.h a k ha
      have hne : k ≠ x := fun e => by
        subst e
        have h2 := hi.old k hHa
        rw [h1] at h2
        injection h2 with h2
        subst h2
        obtain ⟨x1, h3, h4⟩ := hi.s1
        rw [ha] at h3
        injection h3 with h3
        subst h3
        rw [hT1x] at h4
        cases h4
      rw [setO_other hne]
      exact h1
  · by_cases ea : a = n
    · subst ea; rw [setO_same]; simp
    · rw [setO_other ea, hi.dom a]
      by_cases e0 : a = a0
      · subst e0; simp [hHa]
      · simp [ea, e0]
  · have e0 : a ≠ a0 := fun e => by
      subst e
      rw [hHa] at ha
      injection ha with ha
      subst ha
      rw [hTx] at hTk
      cases hTk
    rw [setO_other hne]
    exact hi.keep a k ha (hT1 _ hTk) e0
  · have hTk := hP k hk
    have hne : k ≠ x := fun e => by rw [e, hTx] at hTk; cases hTk
    rw [setO_other hne]
    exact hi.h n k (hi.keep n k hk (hT1 _ hTk) hne0)
theorem Suc.mt {n : Nat} {B' H' : Nat → Option Nat} (h : Suc f m B H T n B' H') (hn : H n = none) : Mt f m B' H' := by
  refine ⟨fun k a hk => ?_, h.h⟩
  obtain ⟨h1, h2, h3, h4⟩ := h.b k a hk
  refine ⟨h1, h2, h3, ?_⟩
  rcases h4 with h4 | ⟨_, h4⟩
  · exact h4
  · rw [hn] at h4; cases h4

/-- so far nothing was joined: the first j that follow are tried -/
structure Par (B : Nat → Option Nat) (f : Nat → Nat → Bool) (T : Nat → Bool) (L : List Int) (j : Nat) (T' : Nat → Bool) : Prop where
  up : ∀ k, T k = true → T' k = true
  fst : ∀ i, i < j → ∀ k : Nat, zd L i = (k : Int) → T' k = true
  new : ∀ k, T' k = true → T k = true ∨ ∃ a, B k = some a ∧ ∀ i, f a i = true → T' i = true
theorem Par.start (L : List Int) : Par B f T L 0 T := ⟨fun _ h => h, fun _ h => by omega, fun _ h => .inl h⟩
theorem Par.skip {L : List Int} {j x : Nat} {T' : Nat → Bool} (h : Par B f T L j T') (hx : zd L j = (x : Int)) (ht : T' x = true) : Par B f T L (j + 1) T' := by
  refine ⟨h.up, fun i hi k hk => ?_, h.new⟩
  by_cases e : i = j
  · subst e
    rw [hx] at hk
    obtain rfl : x = k := by omega
    exact ht
  · exact h.fst i (by omega) k hk
theorem Par.fail {L : List Int} {j x a0 : Nat} {T' T2 : Nat → Bool} (h : Par B f T L j T') (hx : zd L j = (x : Int)) (hB : B x = some a0) (hi : Fal f B (setT T' x) a0 T2) : Par B f T L (j + 1) T2 := by
  have h0 : ∀ k, T' k = true → T2 k = true := fun k hk => hi.up k (setT_up hk)
  refine ⟨fun k hk => h0 k (h.up k hk), fun i hi2 k hk => ?_, fun k hk => ?_⟩
  · by_cases e : i = j
    · subst e
      rw [hx] at hk
      obtain rfl : x = k := by omega
      exact hi.up _ (setT_same _ _)
    · exact h0 k (h.fst i (by omega) k hk)
  · rcases hi.new k hk with h1 | h1
    · rcases setT_or h1 with rfl | h2
      · exact .inr ⟨a0, hB, hi.all⟩
      · rcases h.new k h2 with h3 | ⟨a, h3, h4⟩
        · exact .inl h3
        · exact .inr ⟨a, h3, fun i hi' => h0 i (h4 i hi')⟩
    · exact .inr h1
theorem Par.done {L : List Int} {n : Nat} {T' : Nat → Bool} (h : Par B f T L L.length T') (hL : ∀ k : Nat, f n k = true → ((k : Nat) : Int) ∈ L) : Fal f B T n T' := by
  refine ⟨h.up, fun k hk => ?_, h.new⟩
  obtain ⟨i, hi, e⟩ := List.getElem_of_mem (hL k hk)
  exact h.fst i hi k (by unfold zd; simp [List.getD, hi, e])
/-- how many are not tried -/
def untr (m : Nat) (T : Nat → Bool) : Nat := sumN m fun k => if T k = true then 0 else 1
theorem untr_set {m x : Nat} {T : Nat → Bool} (hx : x < m) (ht : T x = false) : untr m T = untr m (setT T x) + 1 := by
  unfold untr
  refine sumN_single hx (fun n _ hne => ?_) ?_
  · unfold setT; rw [if_neg hne]
  · rw [setT_same, ht]; simp
theorem sumN_le {N : Nat} {g h : Nat → Nat} (hgh : ∀ n, n < N → g n ≤ h n) : sumN N g ≤ sumN N h := by
  induction N with
  | zero => exact Nat.le_refl _
  | succ N ih =>
    show sumN N g + g N ≤ sumN N h + h N
    have := ih fun n hn => hgh n (by omega)
    have := hgh N (by omega)
    omega
theorem untr_up {m : Nat} {T T' : Nat → Bool} (h : ∀ k, T k = true → T' k = true) : untr m T' ≤ untr m T := by
  unfold untr
  refine sumN_le fun n _ => ?_
  by_cases ht : T n = true
  · rw [if_pos ht, if_pos (h n ht)]; exact Nat.le_refl _
  · rw [if_neg ht]; split <;> omega
end Go.Proofs.YtaboafkpmgadmaaDoor

namespace Go.Proofs.YtaboafkpmgadmaaDoor

/-! ### sums -/
theorem sumN_add (N : Nat) (f g : Nat → Nat) : sumN N (fun a => f a + g a) = sumN N f + sumN N g := by
  induction N with
  | zero => rfl
  | succ N ih =>
    show sumN N (fun a => f a + g a) + (f N + g N) = (sumN N f + f N) + (sumN N g + g N)
    rw [ih]; omega
theorem sumN_swap (N M : Nat) (f : Nat → Nat → Nat) : sumN N (fun a => sumN M fun b => f a b) = sumN M fun b => sumN N fun a => f a b := by
  induction N with
  | zero => exact (sumN_zero fun _ _ => rfl).symm
  | succ N ih =>
    show sumN N (fun a => sumN M fun b => f a b) + sumN M (fun b => f N b) = sumN M fun b => (sumN N fun a => f a b) + f N b
    rw [ih, sumN_add]
theorem sumN_lt {N k : Nat} {g h : Nat → Nat} (hk : k < N) (hgh : ∀ n, n < N → g n ≤ h n) (h1 : g k < h k) : sumN N g < sumN N h := by
  have h2 := sumN_single (N := N) (k := k) (x := h k - g k) (f := fun n => if n = k then h k else g n) (g := g) hk (fun n _ hne => by simp [hne]) (by simp; omega)
  have h3 : sumN N (fun n => if n = k then h k else g n) ≤ sumN N h := sumN_le fun n hn => by
    by_cases e : n = k
    · simp [e]
    · simp [e]; exact hgh n hn
  omega
theorem sumN_const (N c : Nat) : sumN N (fun _ => c) = N * c := by
  induction N with
  | zero => simp [sumN]
  | succ N ih =>
    show sumN N (fun _ => c) + c = _
    rw [ih, Nat.succ_mul]
theorem sumN_front (N : Nat) (f : Nat → Nat) : sumN (N + 1) f = f 0 + sumN N fun k => f (k + 1) := by
  induction N with
  | zero => show 0 + f 0 = f 0 + 0; omega
  | succ N ih =>
    show sumN (N + 1) f + f (N + 1) = f 0 + (sumN N (fun k => f (k + 1)) + f (N + 1))
    rw [ih]; omega
theorem sumN_pick (N : Nat) (q : Nat → Nat) : ∀ o : Option Nat, (∀ k, o = some k → k < N) → sumN N (fun k => if o = some k then q k else 0) = match o with | some k => q k | none => 0 := by
  intro o h
  cases o with
  | none => exact sumN_zero fun n _ => by simp
  | some k =>
    have := sumN_single (N := N) (k := k) (x := q k) (f := fun n => if some k = some n then q n else 0) (g := fun _ => 0) (h k rfl) (fun n _ hne => by simp [Ne.symm hne]) (by simp)
    rw [this, sumN_zero (fun _ _ => rfl)]
    simp
/-- at most one is there -/
theorem sumN_one {N : Nat} {f : Nat → Nat} (h1 : ∀ k, k < N → f k ≤ 1) (h2 : ∀ i j, i < j → j < N → f i = 1 → f j = 1 → False) : sumN N f ≤ 1 := by
  induction N with
  | zero => exact Nat.zero_le _
  | succ N ih =>
    show sumN N f + f N ≤ 1
    have h3 := ih (fun k hk => h1 k (by omega)) fun i j hij hj => h2 i j hij (by omega)
    have h4 := h1 N (by omega)
    by_cases e : f N = 1
    · have : sumN N f = 0 := sumN_zero fun i hi => by
        have := h1 i (by omega)
        by_cases e2 : f i = 1
        · exact (h2 i N hi (by omega) e2 e).elim
        · omega
      omega
    · omega
def cntB (N : Nat) (p : Nat → Bool) : Nat := sumN N fun k => (p k).toNat
theorem cntB_filter (N : Nat) (p : Nat → Bool) : ((List.range N).filter p).length = cntB N p := by
  induction N with
  | zero => rfl
  | succ N ih =>
    rw [List.range_succ, List.filter_append, List.length_append, ih]
    show cntB N p + _ = cntB N p + (p N).toNat
    cases h : p N <;> simp [h]

/-- a strict order of the first m -/
structure So (f : Nat → Nat → Bool) (m : Nat) : Prop where
  irr : ∀ a, f a a = false
  tr : ∀ {a b c}, f a b = true → f b c = true → f a c = true
  lt : ∀ {a b}, f a b = true → a < m ∧ b < m

variable {f : Nat → Nat → Bool} {m : Nat} {B H : Nat → Option Nat} {T : Nat → Bool}

/-- a sum over all that have a next one is one over all that have one before them -/
theorem Mt.sum (hM : Mt f m B H) (q : Nat → Nat) : sumN m (fun a => match H a with | some k => q k | none => 0) = sumN m (fun k => match B k with | some _ => q k | none => 0) := by
  have h1 : sumN m (fun a => match H a with | some k => q k | none => 0) = sumN m fun a => sumN m fun k => if H a = some k then q k else 0 :=
    sumN_congr fun a _ => (sumN_pick m q (H a) fun k hk => (hM.b k a (hM.h a k hk)).2.1).symm
  have h2 : sumN m (fun k => match B k with | some _ => q k | none => 0) = sumN m fun k => sumN m fun a => if H a = some k then q k else 0 := sumN_congr fun k _ => by
    have h3 := sumN_pick m (fun _ => q k) (B k) fun a ha => (hM.b k a ha).1
    have h4 : sumN m (fun a => if H a = some k then q k else 0) = sumN m (fun a => if B k = some a then q k else 0) := sumN_congr fun a _ => by
      by_cases e : H a = some k
      · rw [if_pos e, if_pos (hM.h a k e)]
      · rw [if_neg e, if_neg fun e2 => e (hM.b k a e2).2.2.2]
    rw [h4, h3]
  rw [h1, h2, sumN_swap]

/-- no more can be joined, and what is tried is closed -/
structure Kon (f : Nat → Nat → Bool) (m : Nat) (B H : Nat → Option Nat) (T : Nat → Bool) : Prop where
  mt : Mt f m B H
  free : ∀ n, n < m → H n = none → ∀ j, f n j = true → T j = true
  tried : ∀ k, T k = true → ∃ a, B k = some a ∧ ∀ j, f a j = true → T j = true

/-- the last in its chain that was not tried -/
def lastU (H : Nat → Option Nat) (T : Nat → Bool) (n : Nat) : Bool := !T n && (match H n with | none => true | some k => T k)
/-- who has nobody ahead -/
def start (B : Nat → Option Nat) (n : Nat) : Bool := (B n).isNone

theorem Kon.step (hK : Kon f m B H T) (hS : So f m) {n k : Nat} (hT : T n = true) (hk : H n = some k) : T k = true := by
  obtain ⟨a, ha, hj⟩ := hK.tried n hT
  exact hj k (hS.tr (hK.mt.b n a ha).2.2.1 (hK.mt.b k n (hK.mt.h n k hk)).2.2.1)
theorem Kon.apart (hK : Kon f m B H T) {n j : Nat} (hn : n < m) (h : lastU H T n = true) (hj : lastU H T j = true) : f n j = false := by
  have h1 : ∀ j, f n j = true → T j = true := by
    cases hH : H n with
    | none => exact hK.free n hn hH
    | some k =>
      have hk : T k = true := by simp [lastU, hH] at h; exact h.2
      obtain ⟨a, ha, hj⟩ := hK.tried k hk
      have := hK.mt.h n k hH
      rw [this] at ha
      injection ha with ha
      subst ha
      exact hj
  have h2 : T j = false := by simp [lastU] at hj; exact hj.1
  cases hf : f n j with
  | false => rfl
  | true => rw [h1 j hf] at h2; cases h2
theorem Kon.count (hK : Kon f m B H T) (hS : So f m) : cntB m (lastU H T) = cntB m (start B) := by
  have h1 : cntB m (lastU H T) + sumN m (fun a => match H a with | some k => (!T k).toNat | none => 0) = cntB m fun n => !T n := by
    unfold cntB
    rw [← sumN_add]
    refine sumN_congr fun n _ => ?_
    cases hH : H n with
    | none => simp [lastU, hH]
    | some k =>
      cases hT : T n with
      | true => simp [lastU, hT, hK.step hS hT hH]
      | false => cases hTk : T k <;> simp [lastU, hT, hH, hTk]
  have h2 : cntB m (start B) + sumN m (fun k => match B k with | some _ => (!T k).toNat | none => 0) = cntB m fun n => !T n := by
    unfold cntB
    rw [← sumN_add]
    refine sumN_congr fun n _ => ?_
    cases hB : B n with
    | none =>
      have hT : T n = false := by
        cases hT : T n with
        | false => rfl
        | true => obtain ⟨a, ha, _⟩ := hK.tried n hT; rw [hB] at ha; cases ha
      simp [start, hB, hT]
    | some k => simp [start, hB]
  rw [hK.mt.sum] at h1
  omega

/-! ### the chains -/
/-- who comes k after n -/
def itO (H : Nat → Option Nat) (n : Nat) : Nat → Option Nat
  | 0 => some n
  | k + 1 => (itO H n k).bind H
theorem itO_shift (H : Nat → Option Nat) (n : Nat) : ∀ k, itO H n (k + 1) = (H n).bind fun j => itO H j k
  | 0 => by show (some n).bind H = (H n).bind fun j => some j; cases h : H n <;> simp [h]
  | k + 1 => by
    show (itO H n (k + 1)).bind H = (H n).bind fun j => (itO H j k).bind H
    rw [itO_shift H n k]
    cases H n <;> rfl
theorem itO_down {n : Nat} : ∀ {k v}, itO H n (k + 1) = some v → ∃ u, itO H n k = some u ∧ H u = some v := fun {k v} h => by
  have h : (itO H n k).bind H = some v := h
  cases e : itO H n k with
  | none => rw [e] at h; cases h
  | some u => rw [e] at h; exact ⟨u, rfl, h⟩
theorem itO_some {n k v : Nat} (h : itO H n k = some v) : ∀ j, j ≤ k → ∃ u, itO H n j = some u := fun j hj => by
  induction k generalizing v with
  | zero => obtain rfl : j = 0 := by omega
            exact ⟨v, h⟩
  | succ k ih =>
    by_cases e : j = k + 1
    · subst e; exact ⟨v, h⟩
    · obtain ⟨u, hu, _⟩ := itO_down h
      exact ih hu (by omega)
/-- how many come after -/
def fl (f : Nat → Nat → Bool) (m v : Nat) : Nat := cntB m (f v)
theorem fl_lt (hS : So f m) {a b : Nat} (h : f a b = true) : fl f m b < fl f m a :=
  sumN_lt (hS.lt h).2 (fun j _ => by
    cases hb : f b j with
    | false => exact Nat.zero_le _
    | true => rw [hS.tr h hb]; exact Nat.le_refl _) (by rw [h, hS.irr b]; decide)
theorem fl_top (hS : So f m) {a : Nat} (ha : a < m) : fl f m a < m := by
  have h1 := sumN_lt (N := m) (k := a) (g := fun j => (f a j).toNat) (h := fun _ => 1) ha (fun j _ => by cases f a j <;> decide) (by rw [hS.irr a]; decide)
  rw [sumN_const, Nat.mul_one] at h1
  exact h1
theorem Mt.next (hM : Mt f m B H) {a k : Nat} (h : H a = some k) : a < m ∧ k < m ∧ f a k = true := by
  have := hM.b k a (hM.h a k h)
  exact ⟨this.1, this.2.1, this.2.2.1⟩
theorem itO_fl (hM : Mt f m B H) (hS : So f m) {n : Nat} (hn : n < m) : ∀ {k v}, itO H n k = some v → v < m ∧ fl f m v + k ≤ fl f m n
  | 0, v, h => by
    have h : some n = some v := h
    injection h with h
    subst h
    exact ⟨hn, Nat.le_refl _⟩
  | k + 1, v, h => by
    obtain ⟨u, hu, hv⟩ := itO_down h
    obtain ⟨_, h2⟩ := itO_fl hM hS hn hu
    obtain ⟨_, h3, h4⟩ := hM.next hv
    have := fl_lt hS h4
    exact ⟨h3, by omega⟩
theorem itO_lt (hM : Mt f m B H) (hS : So f m) {n k v : Nat} (hn : n < m) (h : itO H n k = some v) : k < m ∧ v < m := by
  obtain ⟨h1, h2⟩ := itO_fl hM hS hn h
  have := fl_top hS hn
  exact ⟨by omega, h1⟩
theorem itO_f (hM : Mt f m B H) (hS : So f m) {n : Nat} : ∀ {j i u v}, i < j → itO H n i = some u → itO H n j = some v → f u v = true
  | j + 1, i, u, v, hij, hu, hv => by
    obtain ⟨x, hx, hxv⟩ := itO_down hv
    have h4 := (hM.next hxv).2.2
    by_cases e : i = j
    · subst e
      rw [hu] at hx
      injection hx with hx
      subst hx
      exact h4
    · exact hS.tr (itO_f hM hS (by omega) hu hx) h4
/-- the first k of the chain that begins with n -/
def chO (H : Nat → Option Nat) (n k : Nat) : List Nat := (List.range k).filterMap (itO H n)
theorem chO_snoc {n k v : Nat} (h : itO H n k = some v) : chO H n (k + 1) = chO H n k ++ [v] := by
  unfold chO
  rw [List.range_succ, List.filterMap_append]
  simp [h]
theorem chO_none {n k : Nat} (h : itO H n k = none) : ∀ d, chO H n (k + d) = chO H n k
  | 0 => rfl
  | d + 1 => by
    have h2 : itO H n (k + d) = none := by
      cases e : itO H n (k + d) with
      | none => rfl
      | some v => obtain ⟨u, hu⟩ := itO_some e k (by omega); rw [h] at hu; cases hu
    show (List.range (k + d + 1)).filterMap (itO H n) = _
    rw [List.range_succ, List.filterMap_append, show ([k + d].filterMap (itO H n)) = [] by simp [h2], List.append_nil]
    exact chO_none h d
theorem chO_le (n k : Nat) : (chO H n k).length ≤ k := by
  have := List.length_filterMap_le (itO H n) (List.range k)
  rwa [List.length_range] at this
theorem chO_len {n : Nat} : ∀ {k v}, itO H n k = some v → (chO H n k).length = k
  | 0, _, _ => rfl
  | k + 1, v, h => by
    obtain ⟨u, hu, _⟩ := itO_down h
    rw [chO_snoc hu, List.length_append, chO_len hu]
    rfl
theorem chO_get {n : Nat} : ∀ k i, (chO H n k)[i]? = if i < k then itO H n i else none
  | 0, i => by simp [chO]
  | k + 1, i => by
    cases e : itO H n k with
    | none =>
      rw [show chO H n (k + 1) = chO H n k from chO_none e 1, chO_get k i]
      by_cases h1 : i < k
      · rw [if_pos h1, if_pos (by omega)]
      · rw [if_neg h1]
        by_cases h2 : i = k
        · subst h2; rw [if_pos (by omega), e]
        · rw [if_neg (by omega)]
    | some v =>
      rw [chO_snoc e, List.getElem?_append, chO_len e, chO_get k i]
      by_cases h1 : i < k
      · rw [if_pos h1, if_pos h1, if_pos (by omega)]
      · rw [if_neg h1]
        by_cases h2 : i = k
        · subst h2; rw [if_pos (by omega), e, Nat.sub_self]; rfl
        · rw [if_neg (by omega), List.getElem?_eq_none (by simp; omega)]
theorem chO_mem {n k v : Nat} : v ∈ chO H n k ↔ ∃ i, i < k ∧ itO H n i = some v := by
  unfold chO
  rw [List.mem_filterMap]
  simp
/-- the chain that begins with n -/
def chn' (H : Nat → Option Nat) (m n : Nat) : List Nat := chO H n m
/-- the chains -/
def cov (B H : Nat → Option Nat) (m : Nat) : List (List Nat) := ((List.range m).filter (start B)).map (chn' H m)
theorem cov_len (B H : Nat → Option Nat) (m : Nat) : (cov B H m).length = cntB m (start B) := by
  unfold cov; rw [List.length_map, cntB_filter]
theorem itO_inj (hM : Mt f m B H) {n n' : Nat} (hn : B n = none) (hn' : B n' = none) : ∀ {k k' v}, itO H n k = some v → itO H n' k' = some v → n = n' ∧ k = k'
  | 0, 0, v, h, h' => by
    have h : some n = some v := h
    have h' : some n' = some v := h'
    injection h with h
    injection h' with h'
    exact ⟨by omega, rfl⟩
  | 0, k' + 1, v, h, h' => by
    have h : some n = some v := h
    injection h with h
    subst h
    obtain ⟨u, _, hv⟩ := itO_down h'
    rw [hM.h u _ hv] at hn
    cases hn
  | k + 1, 0, v, h, h' => by
    have h' : some n' = some v := h'
    injection h' with h'
    subst h'
    obtain ⟨u, _, hv⟩ := itO_down h
    rw [hM.h u _ hv] at hn'
    cases hn'
  | k + 1, k' + 1, v, h, h' => by
    obtain ⟨u, hu, hv⟩ := itO_down h
    obtain ⟨u', hu', hv'⟩ := itO_down h'
    have e : u = u' := by
      have h1 := hM.h u v hv
      rw [hM.h u' v hv'] at h1
      injection h1 with h1
      exact h1.symm
    subst e
    obtain ⟨e1, e2⟩ := itO_inj hM hn hn' hu hu'
    exact ⟨e1, by omega⟩
theorem cover_all (hM : Mt f m B H) (hS : So f m) : ∀ d v, v < m → m ≤ fl f m v + d → ∃ n, n < m ∧ B n = none ∧ ∃ k, itO H n k = some v
  | 0, v, hv, hd => by have := fl_top hS hv; omega
  | d + 1, v, hv, hd => by
    cases hB : B v with
    | none => exact ⟨v, hv, hB, 0, rfl⟩
    | some a =>
      obtain ⟨h1, _, h3, h4⟩ := hM.b v a hB
      have h5 := fl_lt hS h3
      obtain ⟨n, hn, hBn, k, hk⟩ := cover_all hM hS d a h1 (by omega)
      exact ⟨n, hn, hBn, k + 1, by show (itO H n k).bind H = _; rw [hk]; exact h4⟩
theorem cov_mem (hM : Mt f m B H) (hS : So f m) {v : Nat} (hv : v < m) : v ∈ (cov B H m).flatten := by
  obtain ⟨n, hn, hB, k, hk⟩ := cover_all hM hS m v hv (by omega)
  rw [List.mem_flatten]
  refine ⟨chn' H m n, ?_, chO_mem.2 ⟨k, (itO_lt hM hS hn hk).1, hk⟩⟩
  unfold cov
  exact List.mem_map.2 ⟨n, List.mem_filter.2 ⟨List.mem_range.2 hn, by simp [start, hB]⟩, rfl⟩
theorem cov_lt (hM : Mt f m B H) (hS : So f m) {v : Nat} (h : v ∈ (cov B H m).flatten) : v < m := by
  rw [List.mem_flatten] at h
  obtain ⟨l, hl, hv⟩ := h
  unfold cov at hl
  obtain ⟨n, hn, rfl⟩ := List.mem_map.1 hl
  obtain ⟨k, _, hk⟩ := chO_mem.1 hv
  exact (itO_lt hM hS (List.mem_range.1 (List.mem_filter.1 hn).1) hk).2
theorem chO_nodup (hM : Mt f m B H) (hS : So f m) (n k : Nat) : (chO H n k).Nodup := by
  unfold List.Nodup
  rw [List.pairwise_iff_getElem]
  intro i j hi hj hij e
  have h1 : (chO H n k)[i]? = some (chO H n k)[i] := List.getElem?_eq_getElem hi
  have h2 : (chO H n k)[j]? = some (chO H n k)[j] := List.getElem?_eq_getElem hj
  rw [chO_get] at h1 h2
  have hk : j < k := by
    have := chO_le (H := H) n k
    omega
  rw [if_pos (by omega)] at h1
  rw [if_pos hk] at h2
  have := itO_f hM hS hij h1 h2
  rw [e, hS.irr] at this
  cases this
theorem cov_nodup (hM : Mt f m B H) (hS : So f m) : (cov B H m).flatten.Nodup := by
  unfold List.Nodup
  rw [List.pairwise_flatten]
  constructor
  · intro l hl
    unfold cov at hl
    obtain ⟨n, _, rfl⟩ := List.mem_map.1 hl
    exact chO_nodup hM hS n m
  · unfold cov
    rw [List.pairwise_map]
    have h1 : ((List.range m).filter (start B)).Pairwise (· ≠ ·) := List.Pairwise.filter _ List.nodup_range
    have h2 : ((List.range m).filter (start B)).Pairwise (fun a b => a ∈ (List.range m).filter (start B) ∧ b ∈ (List.range m).filter (start B) ∧ a ≠ b) :=
      (List.Pairwise.and_mem.1 h1).imp fun h => ⟨h.1, h.2.1, h.2.2⟩
    refine h2.imp ?_
    rintro n n' ⟨hn, hn', hne⟩ v hv v' hv' e
    subst e
    obtain ⟨k, _, hk⟩ := chO_mem.1 hv
    obtain ⟨k', _, hk'⟩ := chO_mem.1 hv'
    have hb : B n = none := by simpa [start] using (List.mem_filter.1 hn).2
    have hb' : B n' = none := by simpa [start] using (List.mem_filter.1 hn').2
    exact hne (itO_inj hM hb hb' hk hk').1
theorem lenN_sub {L zs : List Nat} (hn : L.Nodup) (h : ∀ x, x ∈ L → x ∈ zs) : L.length ≤ zs.length := by
  induction L generalizing zs with
  | nil => exact Nat.zero_le _
  | cons a L ih =>
    rw [List.nodup_cons] at hn
    have ha := h a (List.mem_cons_self ..)
    have h1 := ih (zs := zs.erase a) hn.2 fun x hx => (List.mem_erase_of_ne (fun e => hn.1 (by rw [← e]; exact hx))).2 (h x (List.mem_cons_of_mem _ hx))
    have h2 := List.length_erase_of_mem ha
    have h3 := List.length_pos_of_mem ha
    rw [List.length_cons]
    omega
theorem cov_length (hM : Mt f m B H) (hS : So f m) : (cov B H m).flatten.length = m := by
  have h1 := nodup_le m _ (cov_nodup hM hS) fun x hx => cov_lt hM hS hx
  have h2 : m ≤ (cov B H m).flatten.length := by
    have h3 := lenN_sub (L := List.range m) (zs := (cov B H m).flatten) List.nodup_range fun x hx => cov_mem hM hS (List.mem_range.1 hx)
    rwa [List.length_range] at h3
  omega

/-! ### no more are side by side than there are chains -/
theorem apart_le (hM : Mt f m B H) (hS : So f m) (s : Nat → Bool) (hs : ∀ a b, s a = true → s b = true → f a b = false) : cntB m s ≤ cntB m (start B) := by
  obtain ⟨u, hu⟩ : ∃ u : Nat → Nat, ∀ v, u v = sumN m fun k => match itO H v k with | some x => (s x).toNat | none => 0 := ⟨_, fun _ => rfl⟩
  have h1 : ∀ v, v < m → u v = (s v).toNat + match H v with | some k => u k | none => 0 := fun v hv => by
    obtain ⟨m', rfl⟩ : ∃ m', m = m' + 1 := ⟨m - 1, by omega⟩
    rw [hu, sumN_front]
    congr 1
    cases hH : H v with
    | none => exact sumN_zero fun k _ => by rw [itO_shift, hH]; rfl
    | some j =>
      show _ = u j
      rw [hu]
      show _ = sumN m' _ + (match itO H j m' with | some x => (s x).toNat | none => 0)
      have h3 : itO H j m' = none := by
        cases e : itO H j m' with
        | none => rfl
        | some x =>
          have h4 : itO H v (m' + 1) = some x := by rw [itO_shift, hH]; exact e
          have := (itO_lt hM hS hv h4).1
          omega
      rw [h3]
      refine sumN_congr fun k _ => ?_
      rw [itO_shift, hH]
      rfl
  have h2 : ∀ v, u v ≤ 1 := fun v => by
    rw [hu]
    refine sumN_one (fun k _ => ?_) fun i j hij hj hi1 hj1 => ?_
    · cases itO H v k with
      | none => exact Nat.zero_le _
      | some x => show (s x).toNat ≤ 1; cases s x <;> decide
    · cases ei : itO H v i with
      | none => rw [ei] at hi1; cases hi1
      | some a =>
        cases ej : itO H v j with
        | none => rw [ej] at hj1; cases hj1
        | some b =>
          rw [ei] at hi1
          rw [ej] at hj1
          have hi1 : (s a).toNat = 1 := hi1
          have hj1 : (s b).toNat = 1 := hj1
          have ha : s a = true := by cases h : s a with | true => rfl | false => rw [h] at hi1; cases hi1
          have hb : s b = true := by cases h : s b with | true => rfl | false => rw [h] at hj1; cases hj1
          have := itO_f hM hS hij ei ej
          rw [hs a b ha hb] at this
          cases this
  have h3 : sumN m u = cntB m s + sumN m (fun k => match B k with | some _ => u k | none => 0) := by
    rw [← hM.sum u]
    unfold cntB
    rw [← sumN_add]
    exact sumN_congr fun v hv => h1 v hv
  have h4 : sumN m u ≤ cntB m (start B) + sumN m (fun k => match B k with | some _ => u k | none => 0) := by
    unfold cntB
    rw [← sumN_add]
    refine sumN_le fun v _ => ?_
    cases hB : B v with
    | none => have := h2 v; simp [start, hB]; exact this
    | some a => simp [start, hB]
  omega
end Go.Proofs.YtaboafkpmgadmaaDoor

namespace Go.Proofs.YtaboafkpmgadmaaDoor

variable {f : Nat → Nat → Bool} {m : Nat}

theorem sumN_term {N k : Nat} {h : Nat → Nat} (hk : k < N) : h k ≤ sumN N h := by
  induction N with
  | zero => omega
  | succ N ih =>
    show h k ≤ sumN N h + h N
    by_cases e : k = N
    · subst e; omega
    · have := ih (by omega); omega
theorem okG_bit {S n : Nat} (h : okG f m S n = true) : S.testBit n = true := by unfold okG at h; rw [Bool.and_eq_true] at h; exact h.1
/-- more that must come later: fewer orders -/
theorem gC_mono {g : Nat → Nat → Bool} (hm : m ≤ 14) (hfg : ∀ i j, f i j = true → g i j = true) : ∀ S, S < 2 ^ m → gC g m S ≤ gC f m S := by
  intro S
  induction S using Nat.strongRecOn with
  | ind S ih =>
    intro hS
    rcases Nat.eq_zero_or_pos S with h0 | h0
    · subst h0; exact Nat.le_refl _
    · rw [gC_eq hm hS h0, gC_eq hm hS h0]
      refine sumN_le fun n hn => ?_
      by_cases ho : okG g m S n = true
      · have hb := okG_bit ho
        have ho2 : okG f m S n = true := by
          unfold okG at ho ⊢
          rw [Bool.and_eq_true] at ho ⊢
          exact ⟨ho.1, wb_iff.2 fun j hj hf => wb_iff.1 ho.2 j hj (hfg _ _ hf)⟩
        rw [if_pos ho, if_pos ho2]
        exact ih _ (er_small hS hn hm hb) (er_lt hS hn)
      · rw [if_neg ho]; exact Nat.zero_le _
/-- who has nobody of S ahead -/
theorem first_ex (hS : So f m) (S : Nat) : ∀ d n, n < m → S.testBit n = true → m ≤ fl f m n + d → ∃ k, k < m ∧ S.testBit k = true ∧ ∀ a, S.testBit a = true → f a k = false
  | 0, n, hn, _, hd => by have := fl_top hS hn; omega
  | d + 1, n, hn, hb, hd => by
    by_cases h : ∃ a, S.testBit a = true ∧ f a n = true
    · obtain ⟨a, ha, hf⟩ := h
      have := fl_lt hS hf
      exact first_ex hS S d a (hS.lt hf).1 ha (by omega)
    · refine ⟨n, hn, hb, fun a ha => ?_⟩
      rw [← Bool.not_eq_true]
      exact fun hf => h ⟨a, ha, hf⟩
theorem bit_ex {S : Nat} (hS : S < 2 ^ m) (h0 : 0 < S) : ∃ n, n < m ∧ S.testBit n = true := by
  false_or_by_contra
  rename_i h
  have : S = 0 := by
    apply Nat.eq_of_testBit_eq
    intro j
    rw [Nat.zero_testBit, ← Bool.not_eq_true]
    intro hj
    by_cases hjm : j < m
    · exact h ⟨j, hjm, hj⟩
    · rw [Nat.testBit_lt_two_pow (Nat.lt_of_lt_of_le hS (Nat.pow_le_pow_right (by omega) (by omega)))] at hj
      cases hj
  omega
/-- at least one order -/
theorem gC_pos (hm : m ≤ 14) (hS : So f m) : ∀ S, S < 2 ^ m → (∀ n j, S.testBit n = true → f n j = true → S.testBit j = true) → 0 < gC f m S := by
  intro S
  induction S using Nat.strongRecOn with
  | ind S ih =>
    intro hlt hup
    rcases Nat.eq_zero_or_pos S with h0 | h0
    · subst h0; exact Nat.zero_lt_one
    · obtain ⟨n0, hn0, hb0⟩ := bit_ex hlt h0
      obtain ⟨k, hk, hb, hmin⟩ := first_ex hS S m n0 hn0 hb0 (by omega)
      rw [gC_eq hm hlt h0]
      have ho : okG f m S k = true := by
        unfold okG
        rw [hb, Bool.true_and, wb_iff]
        intro j _ hf
        have hne : k ≠ j := fun e => by subst e; rw [hS.irr] at hf; cases hf
        rw [er_bit, hup k j hb hf]
        simpa using hne
      have h1 := sumN_term (h := fun n => if okG f m S n = true then gC f m (er S n) else 0) hk
      rw [if_pos ho] at h1
      have h2 := ih _ (er_small hlt hk hm hb) (er_lt hlt hk) fun n j hn hf => by
        have hkj : k ≠ j := fun e => by
          subst e
          have hnb : S.testBit n = true := by
            rw [er_bit] at hn
            by_cases e : k = n
            · subst e; exact hb
            · simpa [e] using hn
          rw [hmin n hnb] at hf
          cases hf
        have hnb : S.testBit n = true := by
          rw [er_bit] at hn
          by_cases e : k = n
          · subst e; exact hb
          · simpa [e] using hn
        rw [er_bit, hup n j hnb hf]
        simpa using hkj
      omega
theorem full_bit {n : Nat} : (2 ^ m - 1).testBit n = decide (n < m) := Nat.testBit_two_pow_sub_one ..
theorem full_lt (m : Nat) : 2 ^ m - 1 < 2 ^ m := by have : 0 < 2 ^ m := Nat.pow_pos (by omega); omega
theorem gC_full_pos (hm : m ≤ 14) (hS : So f m) : 0 < gC f m (2 ^ m - 1) :=
  gC_pos hm hS _ (full_lt m) fun n j _ hf => by rw [full_bit]; simpa using (hS.lt hf).2
/-- not more than fit -/
def bitsN (m S : Nat) : Nat := cntB m S.testBit
theorem bitsN_er {S n : Nat} (hn : n < m) (h : S.testBit n = true) : bitsN m S = bitsN m (er S n) + 1 := by
  unfold bitsN cntB
  refine sumN_single hn (fun k _ hne => ?_) ?_
  · rw [er_bit]; simp [Ne.symm hne]
  · rw [er_self h, h]; rfl
theorem bitsN_le (m S : Nat) : bitsN m S ≤ m := by
  have := sumN_le (N := m) (g := fun k => (S.testBit k).toNat) (h := fun _ => 1) fun n _ => by cases S.testBit n <;> decide
  rw [sumN_const, Nat.mul_one] at this
  exact this
theorem gC_le (hm : m ≤ 14) : ∀ S, S < 2 ^ m → gC f m S ≤ m ^ bitsN m S := by
  intro S
  induction S using Nat.strongRecOn with
  | ind S ih =>
    intro hlt
    rcases Nat.eq_zero_or_pos S with h0 | h0
    · subst h0
      have : bitsN m 0 = 0 := sumN_zero fun n _ => by simp
      rw [this]
      exact Nat.le_refl _
    · obtain ⟨n0, hn0, hb0⟩ := bit_ex hlt h0
      rw [gC_eq hm hlt h0]
      obtain ⟨q, hq⟩ : ∃ q, bitsN m S = q + 1 := ⟨_, bitsN_er hn0 hb0⟩
      have h1 : sumN m (fun n => if okG f m S n = true then gC f m (er S n) else 0) ≤ sumN m fun _ => m ^ q := sumN_le fun n hn => by
        by_cases ho : okG f m S n = true
        · have hb := okG_bit ho
          rw [if_pos ho]
          have h2 := ih _ (er_small hlt hn hm hb) (er_lt hlt hn)
          have h3 := bitsN_er hn hb
          rw [show bitsN m (er S n) = q by omega] at h2
          exact h2
        · rw [if_neg ho]; exact Nat.zero_le _
      rw [sumN_const] at h1
      rw [hq, Nat.pow_succ, Nat.mul_comm]
      exact h1
theorem gC_small (hm : m ≤ 14) {S : Nat} (hS : S < 2 ^ m) : gC f m S < 18446744073709551616 := by
  rcases Nat.eq_zero_or_pos m with h0 | h0
  · subst h0
    have : S = 0 := by simpa using hS
    subst this
    show 1 < _
    omega
  · have h1 := gC_le (f := f) hm S hS
    have h2 : m ^ bitsN m S ≤ 14 ^ 14 := Nat.le_trans (Nat.pow_le_pow_left hm _) (Nat.pow_le_pow_right (by omega) (Nat.le_trans (bitsN_le m S) hm))
    have h3 : (14 : Nat) ^ 14 = 11112006825558016 := by decide
    omega

/-! ### without one -/
def skp (k n : Nat) : Nat := if n < k then n else n + 1
theorem skp_ne (k n : Nat) : skp k n ≠ k := by unfold skp; split <;> omega
theorem skp_inj {k a b : Nat} (h : skp k a = skp k b) : a = b := by unfold skp at h; split at h <;> split at h <;> omega
theorem skp_lt {k n m : Nat} (hn : n < m) : skp k n < m + 1 := by unfold skp; split <;> omega
theorem skp_all {k j m : Nat} (hj : j < m + 1) (hne : j ≠ k) (hk : k < m + 1) : ∃ n, n < m ∧ skp k n = j := by
  by_cases h : j < k
  · exact ⟨j, by omega, by unfold skp; rw [if_pos h]⟩
  · exact ⟨j - 1, by omega, by unfold skp; rw [if_neg (by omega)]; omega⟩
theorem sumN_skip {N k : Nat} (F : Nat → Nat) (hk : k < N + 1) : sumN (N + 1) F = F k + sumN N fun n => F (skp k n) := by
  induction N with
  | zero =>
    obtain rfl : k = 0 := by omega
    show 0 + F 0 = F 0 + 0
    omega
  | succ N ih =>
    by_cases e : k = N + 1
    · subst e
      show sumN (N + 1) F + F (N + 1) = _
      rw [sumN_congr (N := N + 1) (f := F) (g := fun n => F (skp (N + 1) n)) fun n hn => by unfold skp; rw [if_pos hn]]
      omega
    · show sumN (N + 1) F + F (N + 1) = F k + (sumN N (fun n => F (skp k n)) + F (skp k N))
      rw [ih (by omega), show skp k N = N + 1 by unfold skp; rw [if_neg (by omega)]]
      omega
theorem bit_lt {S j : Nat} (hS : S < 2 ^ m) (h : S.testBit j = true) : j < m := by
  false_or_by_contra
  rename_i hj
  rw [Nat.testBit_lt_two_pow (Nat.lt_of_lt_of_le hS (Nat.pow_le_pow_right (by omega) (by omega)))] at h
  cases h
theorem gC_skip {g : Nat → Nat → Bool} {k : Nat} (hm : m + 1 ≤ 14) (hk : k < m + 1) (hmin : ∀ a, f a k = false) (hg : ∀ a b, a < m → b < m → g a b = f (skp k a) (skp k b)) :
    ∀ S, S < 2 ^ (m + 1) → S.testBit k = false → ∀ S', S' < 2 ^ m → (∀ n, n < m → S'.testBit n = S.testBit (skp k n)) → gC f (m + 1) S = gC g m S' := by
  intro S
  induction S using Nat.strongRecOn with
  | ind S ih =>
    intro hS hSk S' hS' hbits
    rcases Nat.eq_zero_or_pos S with h0 | h0
    · subst h0
      have : S' = 0 := by
        apply Nat.eq_of_testBit_eq
        intro j
        rw [Nat.zero_testBit, ← Bool.not_eq_true]
        intro hj
        have hjm := bit_lt hS' hj
        rw [hbits j hjm, Nat.zero_testBit] at hj
        cases hj
      subst this
      rfl
    · have h0' : 0 < S' := by
        rcases Nat.eq_zero_or_pos S' with h | h
        · subst h
          obtain ⟨n, hn, hb⟩ := bit_ex hS h0
          obtain ⟨n', hn', e⟩ := skp_all hn (fun e => by subst e; rw [hSk] at hb; cases hb) hk
          have := hbits n' hn'
          rw [e, hb, Nat.zero_testBit] at this
          cases this
        · exact h
      rw [gC_eq hm hS h0, gC_eq (by omega) hS' h0', sumN_skip _ hk]
      have hk0 : okG f (m + 1) S k = false := by unfold okG; rw [hSk]; rfl
      rw [hk0, if_neg (by decide), Nat.zero_add]
      refine sumN_congr fun n hn => ?_
      have hsn := skp_lt (k := k) hn
      have hber : ∀ j, j < m → (er S' n).testBit j = (er S (skp k n)).testBit (skp k j) := fun j hj => by
        rw [er_bit, er_bit, hbits j hj]
        by_cases e : n = j
        · subst e; simp
        · have : ¬ skp k n = skp k j := fun h => e (skp_inj h)
          simp [e, this]
      have hok : okG f (m + 1) S (skp k n) = okG g m S' n := by
        unfold okG
        rw [hbits n hn]
        congr 1
        rw [Bool.eq_iff_iff, wb_iff, wb_iff]
        constructor
        · intro h j hj hgj
          rw [hg n j hn hj] at hgj
          rw [hber j hj]
          exact h _ (skp_lt hj) hgj
        · intro h j hj hfj
          have hjk : j ≠ k := fun e => by subst e; rw [hmin] at hfj; cases hfj
          obtain ⟨j', hj', rfl⟩ := skp_all hj hjk hk
          rw [← hber j' hj']
          exact h j' hj' (by rw [hg n j' hn hj']; exact hfj)
      rw [hok]
      by_cases ho : okG g m S' n = true
      · rw [if_pos ho, if_pos ho]
        have hb : S.testBit (skp k n) = true := okG_bit (hok.trans ho)
        refine ih _ (er_small hS hsn hm hb) (er_lt hS hsn) ?_ _ (er_lt hS' hn) hber
        rw [er_bit, hSk]
        simpa using skp_ne k n
      · rw [if_neg ho, if_neg ho]
/-- BY WHO COMES FIRST -/
theorem gC_first (hm : m + 1 ≤ 14) (hS : So f (m + 1)) (g : Nat → Nat → Nat → Bool) (hg : ∀ k a b, k < m + 1 → (∀ a, f a k = false) → a < m → b < m → g k a b = f (skp k a) (skp k b)) (mn : Nat → Bool) (hmn : ∀ k, k < m + 1 → (mn k = true ↔ ∀ a, f a k = false)) :
    gC f (m + 1) (2 ^ (m + 1) - 1) = sumN (m + 1) fun k => if mn k = true then gC (g k) m (2 ^ m - 1) else 0 := by
  have hfull := full_lt (m + 1)
  have hpos : 0 < 2 ^ (m + 1) - 1 := by
    have : 2 ^ 1 ≤ 2 ^ (m + 1) := Nat.pow_le_pow_right (by omega) (by omega)
    omega
  rw [gC_eq hm hfull hpos]
  refine sumN_congr fun k hk => ?_
  have hb : (2 ^ (m + 1) - 1).testBit k = true := by rw [full_bit]; simpa using hk
  have ho : okG f (m + 1) (2 ^ (m + 1) - 1) k = true := by
    unfold okG
    rw [hb, Bool.true_and, wb_iff]
    intro j hj hf
    have hne : k ≠ j := fun e => by subst e; rw [hS.irr] at hf; cases hf
    rw [er_bit, full_bit]
    simp [hj, hne]
  rw [if_pos ho]
  by_cases hm2 : mn k = true
  · rw [if_pos hm2]
    have hmin := (hmn k hk).1 hm2
    refine gC_skip hm hk hmin (fun a b ha hb => hg k a b hk hmin ha hb) _ (er_lt hfull hk) (er_self hb) _ (full_lt m) fun n hn => ?_
    rw [full_bit, er_bit, full_bit]
    have h1 := skp_lt (k := k) hn
    have h2 := skp_ne k n
    simp [hn, h1, Ne.symm h2]
  · rw [if_neg hm2]
    false_or_by_contra
    rename_i hne
    refine hm2 ((hmn k hk).2 fun a => ?_)
    rw [← Bool.not_eq_true]
    intro hf
    have hup := gC_up hm (fun i j h => hS.lt h) _ (er_lt hfull hk) hne
    have hak : k ≠ a := fun e => by subst e; rw [hS.irr] at hf; cases hf
    have h1 : (er (2 ^ (m + 1) - 1) k).testBit a = true := by rw [er_bit, full_bit]; simp [(hS.lt hf).1, hak]
    have h2 := hup a k h1 hf
    rw [er_self hb] at h2
    cases h2
end Go.Proofs.YtaboafkpmgadmaaDoor

namespace Go.Proofs.YtaboafkpmgadmaaDoor

/-- a way of n edges that ends at b -/
inductive Wk (R : Nat → Nat → Bool) : Nat → Nat → Prop
  | zero (b : Nat) : Wk R 0 b
  | step {n a b : Nat} : R a b = true → Wk R n a → Wk R (n + 1) b
/-- in a whole order a way is no longer than what stands ahead -/
theorem Wk.lt {R : Nat → Nat → Bool} {N : Nat} {d : List Nat} (hg : Good R N d) (hR : ∀ i j, R i j = true → i < N ∧ j < N) {n b : Nat} (h : Wk R n b) : ∀ i, d[i]? = some b → n ≤ i := by
  induction h with
  | zero b => intro i _; exact Nat.zero_le _
  | @step n a b e _ ih =>
    intro i hi
    have hm := hg.pre i b hi a (hR _ _ e).1 e
    obtain ⟨j, hj, ej⟩ := List.getElem_of_mem hm
    rw [List.getElem_take] at ej
    have hjl : j < d.length := by simp at hj; omega
    have := ih j (by rw [List.getElem?_eq_getElem hjl, ej])
    simp at hj
    omega
theorem Wk.lt_N {R : Nat → Nat → Bool} {N : Nat} {d : List Nat} (hg : Good R N d) (hl : d.length = N) (hR : ∀ i j, R i j = true → i < N ∧ j < N) {n b : Nat} (h : Wk R n b) (hb : b < N) : n < N := by
  obtain ⟨i, hi, e⟩ := List.getElem_of_mem (hg.all (by omega) hb)
  have := h.lt hg hR i (by rw [List.getElem?_eq_getElem hi, e])
  omega

/-- the end of an edge stands above its start -/
def rlx (f : Nat → Nat) (e : Nat × Nat) : Nat → Nat := fun k => if k = e.2 then max (f e.2) (f e.1 + 1) else f k
def Snd (R : Nat → Nat → Bool) (f : Nat → Nat) : Prop := ∀ b, Wk R (f b) b
theorem Snd.zero (R : Nat → Nat → Bool) : Snd R (fun _ => 0) := fun b => .zero b
theorem Snd.rlx {R : Nat → Nat → Bool} {f : Nat → Nat} (h : Snd R f) {e : Nat × Nat} (he : R e.1 e.2 = true) : Snd R (rlx f e) := by
  intro b
  unfold Proofs.YtaboafkpmgadmaaDoor.rlx
  by_cases hb : b = e.2
  · subst hb
    rw [if_pos rfl]
    rcases Nat.le_total (f e.2) (f e.1 + 1) with h1 | h1
    · rw [Nat.max_eq_right h1]; exact .step he (h _)
    · rw [Nat.max_eq_left h1]; exact h _
  · rw [if_neg hb]; exact h b
theorem rlx_le (f : Nat → Nat) (e : Nat × Nat) (k : Nat) : f k ≤ rlx f e k := by
  unfold rlx; split
  · rename_i h; subst h; omega
  · omega
theorem rlx_at (f : Nat → Nat) (e : Nat × Nat) : f e.1 + 1 ≤ rlx f e e.2 := by
  unfold rlx; rw [if_pos rfl]; omega
def rnd (E : List (Nat × Nat)) (f : Nat → Nat) : Nat → Nat := E.foldl rlx f
theorem rnd_snoc (E : List (Nat × Nat)) (e : Nat × Nat) (f : Nat → Nat) : rnd (E ++ [e]) f = rlx (rnd E f) e := by unfold rnd; rw [List.foldl_append]; rfl
theorem rnd_app (E E2 : List (Nat × Nat)) (f : Nat → Nat) : rnd (E ++ E2) f = rnd E2 (rnd E f) := by unfold rnd; rw [List.foldl_append]
theorem rnd_le (E : List (Nat × Nat)) (f : Nat → Nat) (k : Nat) : f k ≤ rnd E f k := by
  induction E generalizing f with
  | nil => exact Nat.le_refl _
  | cons e E ih => exact Nat.le_trans (rlx_le f e k) (ih (rlx f e))
theorem Snd.rnd {R : Nat → Nat → Bool} {f : Nat → Nat} (h : Snd R f) {E : List (Nat × Nat)} (hE : ∀ e, e ∈ E → R e.1 e.2 = true) : Snd R (rnd E f) := by
  induction E generalizing f with
  | nil => exact h
  | cons e E ih => exact ih (h.rlx (hE e (List.mem_cons_self ..))) fun x hx => hE x (List.mem_cons_of_mem _ hx)
/-- what an edge's start had before, its end stands above afterwards -/
theorem rnd_at {E : List (Nat × Nat)} {e : Nat × Nat} (he : e ∈ E) (f : Nat → Nat) : f e.1 + 1 ≤ rnd E f e.2 := by
  obtain ⟨E1, E2, rfl⟩ := List.append_of_mem he
  rw [rnd_app]
  have h1 := rnd_le E1 f e.1
  have h2 := rlx_at (rnd E1 f) e
  have h3 := rnd_le E2 (rlx (rnd E1 f) e) e.2
  show f e.1 + 1 ≤ rnd E2 (rlx (rnd E1 f) e) e.2
  omega
/-- the longest ways -/
structure Lev (R : Nat → Nat → Bool) (f : Nat → Nat) : Prop where
  way : Snd R f
  top : ∀ n b, Wk R n b → n ≤ f b
theorem Lev.uniq {R : Nat → Nat → Bool} {f g : Nat → Nat} (h : Lev R f) (k : Lev R g) : f = g := by
  funext b
  have h1 := k.top _ _ (h.way b)
  have h2 := h.top _ _ (k.way b)
  omega

/-! ### round by round over all edges -/
def rnds (E : List (Nat × Nat)) : Nat → Nat → Nat
  | 0 => fun _ => 0
  | k + 1 => rnd E (rnds E k)
theorem rnds_snd {R : Nat → Nat → Bool} {E : List (Nat × Nat)} (hE : ∀ e, e ∈ E → R e.1 e.2 = true) : ∀ k, Snd R (rnds E k)
  | 0 => Snd.zero R
  | k + 1 => (rnds_snd hE k).rnd hE
theorem rnds_up {R : Nat → Nat → Bool} {E : List (Nat × Nat)} (hE : ∀ a b, R a b = true → (a, b) ∈ E) : ∀ k n b, n ≤ k → Wk R n b → n ≤ rnds E k b
  | 0, n, b, hn, _ => by omega
  | k + 1, n, b, hn, h => by
    cases h with
    | zero => exact Nat.zero_le _
    | @step n a _ e h =>
      have h1 := rnds_up hE k n a (by omega) h
      have h2 := rnd_at (hE _ _ e) (rnds E k)
      show n + 1 ≤ rnd E (rnds E k) b
      dsimp only at h2
      omega
theorem rnds_lev {R : Nat → Nat → Bool} {N : Nat} {d : List Nat} {E : List (Nat × Nat)} (hg : Good R N d) (hl : d.length = N) (hR : ∀ i j, R i j = true → i < N ∧ j < N) (hE : ∀ a b, R a b = true ↔ (a, b) ∈ E) : Lev R (rnds E N) := by
  refine ⟨rnds_snd (fun e he => (hE _ _).2 he) N, fun n b h => ?_⟩
  rcases Nat.lt_or_ge b N with hb | hb
  · exact rnds_up (fun a b => (hE a b).1) N n b (Nat.le_of_lt (h.lt_N hg hl hR hb)) h
  · cases h with
    | zero => exact Nat.zero_le _
    | step e _ => exact absurd (hR _ _ e).2 (by omega)

/-! ### in the order's turn -/
def outs (nx : Nat → List Nat) (a : Nat) : List (Nat × Nat) := (nx a).map fun b => (a, b)
def trn (nx : Nat → List Nat) (d : List Nat) : Nat → Nat := d.foldl (fun f a => rnd (outs nx a) f) (fun _ => 0)
theorem trn_snoc (nx : Nat → List Nat) (d : List Nat) (a : Nat) : trn nx (d ++ [a]) = rnd (outs nx a) (trn nx d) := by unfold trn; rw [List.foldl_append]; rfl
theorem mem_outs {nx : Nat → List Nat} {a : Nat} {e : Nat × Nat} : e ∈ outs nx a ↔ e.1 = a ∧ e.2 ∈ nx a := by
  unfold outs
  rw [List.mem_map]
  constructor
  · rintro ⟨b, hb, rfl⟩; exact ⟨rfl, hb⟩
  · rintro ⟨h1, h2⟩; exact ⟨e.2, h2, by rw [← h1]⟩
theorem trn_snd {R : Nat → Nat → Bool} {nx : Nat → List Nat} (hnx : ∀ a b, R a b = true ↔ b ∈ nx a) (d : List Nat) (k : Nat) : Snd R (trn nx (d.take k)) := by
  induction k with
  | zero => exact Snd.zero R
  | succ k ih =>
    rcases Nat.lt_or_ge k d.length with hk | hk
    · rw [List.take_succ_eq_append_getElem hk, trn_snoc]
      exact ih.rnd fun e he => by
        obtain ⟨h1, h2⟩ := mem_outs.1 he
        exact (hnx _ _).2 (by rw [h1]; exact h2)
    · rw [List.take_of_length_le (by omega)]
      rw [List.take_of_length_le hk] at ih
      exact ih
theorem trn_up {R : Nat → Nat → Bool} {N : Nat} {d : List Nat} {nx : Nat → List Nat} (hg : Good R N d) (hR : ∀ i j, R i j = true → i < N ∧ j < N) (hnx : ∀ a b, R a b = true ↔ b ∈ nx a) :
    ∀ k, k ≤ d.length → ∀ a, a ∈ d.take k → ∀ b, R a b = true → ∀ n, Wk R n a → n + 1 ≤ trn nx (d.take k) b := by
  intro k
  induction k with
  | zero => intro _ a ha; simp at ha
  | succ k ih =>
    intro hk a ha b e n hw
    have hk' : k < d.length := by omega
    rw [List.take_succ_eq_append_getElem hk'] at ha ⊢
    rw [trn_snoc]
    rcases List.mem_append.1 ha with h1 | h1
    · exact Nat.le_trans (ih (by omega) a h1 b e n hw) (rnd_le _ _ _)
    · obtain rfl : a = d[k] := by simpa using h1
      have h2 : n ≤ trn nx (d.take k) d[k] := by
        cases hw with
        | zero => exact Nat.zero_le _
        | @step n a' _ e' hw' => exact ih (by omega) a' (hg.pre k _ (List.getElem?_eq_getElem hk') _ (hR _ _ e').1 e') _ e' n hw'
      have h3 := rnd_at (E := outs nx d[k]) (e := (d[k], b)) (mem_outs.2 ⟨rfl, (hnx _ _).1 e⟩) (trn nx (d.take k))
      dsimp only at h3
      omega
theorem trn_lev {R : Nat → Nat → Bool} {N : Nat} {d : List Nat} {nx : Nat → List Nat} (hg : Good R N d) (hl : d.length = N) (hR : ∀ i j, R i j = true → i < N ∧ j < N) (hnx : ∀ a b, R a b = true ↔ b ∈ nx a) : Lev R (trn nx d) := by
  have h0 := trn_snd hnx d d.length
  rw [List.take_length] at h0
  refine ⟨h0, fun n b h => ?_⟩
  cases h with
  | zero => exact Nat.zero_le _
  | @step n a _ e h =>
    have := trn_up hg hR hnx d.length (Nat.le_refl _) a (by rw [List.take_length]; exact hg.all (by omega) (hR _ _ e).1) b e n h
    rwa [List.take_length] at this
theorem Snd.lt {R : Nat → Nat → Bool} {N : Nat} {d : List Nat} {f : Nat → Nat} (h : Snd R f) (hg : Good R N d) (hl : d.length = N) (hR : ∀ i j, R i j = true → i < N ∧ j < N) {b : Nat} (hb : b < N) : f b < N := (h b).lt_N hg hl hR hb

/-! ### the height -/
def hgt (f : Nat → Nat) : Nat → Nat
  | 0 => 0
  | k + 1 => max (hgt f k) (f k + 1)
theorem hgt_ge (f : Nat → Nat) {N b : Nat} (hb : b < N) : f b < hgt f N := by
  induction N with
  | zero => omega
  | succ N ih =>
    show f b < max (hgt f N) (f N + 1)
    rcases Nat.lt_or_ge b N with h | h
    · have := ih h; omega
    · obtain rfl : b = N := by omega
      omega
theorem hgt_mem (f : Nat → Nat) : ∀ N, 0 < hgt f N → ∃ b, b < N ∧ f b + 1 = hgt f N
  | 0, h => absurd h (by simp [hgt])
  | N + 1, _ => by
    show ∃ b, b < N + 1 ∧ f b + 1 = max (hgt f N) (f N + 1)
    rcases Nat.lt_or_ge (f N + 1) (hgt f N) with h | h
    · obtain ⟨b, h1, h2⟩ := hgt_mem f N (by omega)
      exact ⟨b, by omega, by omega⟩
    · exact ⟨N, by omega, by omega⟩
theorem hgt_le (f : Nat → Nat) {N M : Nat} (h : ∀ b, b < N → f b < M) : hgt f N ≤ M := by
  induction N with
  | zero => exact Nat.zero_le _
  | succ N ih =>
    show max (hgt f N) (f N + 1) ≤ M
    have h1 := ih fun b hb => h b (by omega)
    have h2 := h N (by omega)
    omega
theorem hgt_pos (f : Nat → Nat) {N : Nat} (h : 0 < N) : 0 < hgt f N := Nat.lt_of_le_of_lt (Nat.zero_le _) (hgt_ge f (b := 0) h)

/-! ### the chain, from its end on -/
/-- who may stand ahead of b: one level lower, with an edge to it -/
def fit (R : Nat → Nat → Bool) (f : Nat → Nat) (b a : Nat) : Bool := decide (f a + 1 = f b) && R a b
def prv (R : Nat → Nat → Bool) (f : Nat → Nat) (N b : Nat) : Option Nat := (List.range N).find? (fit R f b)
theorem prv_some {R : Nat → Nat → Bool} {f : Nat → Nat} {N b : Nat} (h : Lev R f) (hR : ∀ i j, R i j = true → i < N ∧ j < N) (hb : 0 < f b) : ∃ a, prv R f N b = some a ∧ a < N ∧ f a + 1 = f b ∧ R a b = true ∧ ∀ y, y < a → fit R f b y = false := by
  cases hp : prv R f N b with
  | some a =>
    obtain ⟨h1, h2, h3⟩ := find_range hp
    unfold fit at h2
    simp only [Bool.and_eq_true, decide_eq_true_eq] at h2
    exact ⟨a, rfl, h1, h2.1, h2.2, h3⟩
  | none =>
    exfalso
    have hno := find_range_none hp
    obtain ⟨n, hn⟩ : ∃ n, f b = n + 1 := ⟨f b - 1, by omega⟩
    have hw := h.way b
    rw [hn] at hw
    cases hw with
    | @step _ a _ e hw =>
      have h1 := h.top _ _ hw
      have h2 := h.top _ _ (.step e (h.way a))
      have := hno a (hR _ _ e).1
      unfold fit at this
      rw [e] at this
      simp at this
      omega
/-- the first of the top -/
def fst0 (f : Nat → Nat) (N : Nat) : Option Nat := (List.range N).find? fun a => decide (f a + 1 = hgt f N)
theorem fst0_some {f : Nat → Nat} {N : Nat} (hN : 0 < N) : ∃ a, fst0 f N = some a ∧ a < N ∧ f a + 1 = hgt f N ∧ ∀ y, y < a → f y + 1 ≠ hgt f N := by
  cases hp : fst0 f N with
  | some a =>
    obtain ⟨h1, h2, h3⟩ := find_range hp
    exact ⟨a, rfl, h1, by simpa using h2, fun y hy => by simpa using h3 y hy⟩
  | none =>
    exfalso
    have hno := find_range_none hp
    obtain ⟨b, h1, h2⟩ := hgt_mem f N (hgt_pos f hN)
    have := hno b h1
    simp at this
    omega
/-- the j-th from the end -/
def chn (R : Nat → Nat → Bool) (f : Nat → Nat) (N : Nat) : Nat → Nat
  | 0 => (fst0 f N).getD 0
  | j + 1 => (prv R f N (chn R f N j)).getD 0
theorem chn_at {R : Nat → Nat → Bool} {f : Nat → Nat} {N : Nat} (h : Lev R f) (hR : ∀ i j, R i j = true → i < N ∧ j < N) : ∀ j, j < hgt f N → chn R f N j < N ∧ f (chn R f N j) + j + 1 = hgt f N
  | 0, hj => by
    have hN : 0 < N := by
      rcases Nat.eq_zero_or_pos N with h0 | h0
      · subst h0; simp [hgt] at hj
      · exact h0
    obtain ⟨a, h1, h2, h3, _⟩ := fst0_some (f := f) hN
    unfold chn
    rw [h1]
    exact ⟨h2, by simpa using h3⟩
  | j + 1, hj => by
    obtain ⟨h1, h2⟩ := chn_at h hR j (by omega)
    obtain ⟨a, h3, h4, h5, _⟩ := prv_some h hR (b := chn R f N j) (by omega)
    unfold chn
    rw [h3]
    simp only [Option.getD_some]
    exact ⟨h4, by omega⟩
/-- the chain in its order -/
def chain (R : Nat → Nat → Bool) (f : Nat → Nat) (N : Nat) : List Nat := (List.range (hgt f N)).map fun i => chn R f N (hgt f N - 1 - i)
/-- its last j -/
def tailC (R : Nat → Nat → Bool) (f : Nat → Nat) (N j : Nat) : List Nat := (List.range j).map fun i => chn R f N (j - 1 - i)
theorem tailC_cons (R : Nat → Nat → Bool) (f : Nat → Nat) (N j : Nat) : tailC R f N (j + 1) = chn R f N j :: tailC R f N j := by
  unfold tailC
  rw [List.range_succ_eq_map, List.map_cons, List.map_map]
  congr 1
  apply List.map_congr_left
  intro i _
  show chn R f N (j + 1 - 1 - (i + 1)) = _
  congr 1
  omega
theorem tailC_all (R : Nat → Nat → Bool) (f : Nat → Nat) (N : Nat) : tailC R f N (hgt f N) = chain R f N := rfl
end Go.Proofs.YtaboafkpmgadmaaDoor
