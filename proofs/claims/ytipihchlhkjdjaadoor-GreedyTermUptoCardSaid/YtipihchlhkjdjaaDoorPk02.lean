/-
  slices.Equal over ints, for every two slices of ints.
  A loop over an iterator that keeps memory of its own between two rounds: the loop's body owns a set of blocks, the iterator turns none of these, and the body turns none but these and new ones. The contract of such an iterator, and the law of the loop over it. No condition.
  Words for memory that holds graphs: a slice of edges, a slice of sets, a slice of lists, a slice of rows of bools. Plain definitions and lemmas.
  Contracts of graph.isNode and graph.inRange.
-/
import Derived.Test.YtipihchlhkjdjaaDoorPk01
import Derived.RangeFuncBox
import Derived.RangeFuncBound
import Derived.RangeFuncCalls
import Derived.RangeFuncLeaves
import Derived.Deep.Draws
import Derived.Deep.OwnRows
import Derived.Outline
namespace Go.Proofs.YtipihchlhkjdjaaDoor
open Go.RowKit
set_option maxRecDepth 100000

theorem ext_zd (xs ys : List Int) (hl : xs.length = ys.length) (h : ∀ k, k < xs.length → zd xs k = zd ys k) : xs = ys := by
  apply List.ext_getElem hl
  intro i h1 h2
  have := h i h1
  unfold zd at this
  simpa [List.getD, h1, h2] using this
theorem RdI.step {w w' : World} {A : Option Addr} {xs : List Int} (h : RdI w w.heap.size A xs) (hb : Below w.heap.size w w') : RdI w' w'.heap.size A xs := (h.below hb).more hb.size

/-- slices.Equal over ints -/
theorem equalI_any (A A' : Option Addr) (c c' : Nat) (xs ys : List Int) (w : World) (hx : RdI w w.heap.size A xs) (hy : RdI w w.heap.size A' ys) :
    Calls Tryd.prog 20 #[.slice A xs.length c, .slice A' ys.length c'] w fun e w' =>
      e = .returned (.bool (decide (xs = ys))) ∧ ∃ n, w' = w.drewN n := by
  have hr := hx.room
  have hr' := hy.room
  by_cases hlen : xs.length = ys.length
  · have hl : ((xs.length : Int) != (ys.length : Int)) = false := by simp; omega
    have HL := Lib.hid hlen
    clear hlen
    go_enter Tryd.func20, Tryd.ntmps20
    go_wp2
    go_loopw [13] (fun i wr => ∃ k n : Nat, k ≤ xs.length ∧ i = .int .i64 k ∧ wr = w.drewN n ∧ Hid (∀ j, j < k → zd xs j = zd ys j)) (fun i _ => xs.length - (intOf i).toNat)
    case atStart => exact ⟨0, 0, Nat.zero_le _, rfl, rfl, fun j hj => by omega⟩
    case round =>
      obtain ⟨k, n, hk, rfl, rfl, hall⟩ := hrel
      by_cases hlt : k < xs.length
      · have hlt' : k < ys.length := by have := HL.out; omega
        obtain ⟨b, off, rfl, _, hc⟩ := hx.rd (by omega)
        obtain ⟨b', off', rfl, _, hc'⟩ := hy.rd (by omega)
        have hci := hc k hlt
        have hci' := hc' k hlt'
        clear hc hc'
        by_cases he : zd xs k = zd ys k
        · have hb : (zd xs k != zd ys k) = false := by simp [he]
          have HE := Lib.hid he
          clear he
          go_wp2
          go_quiet (fail)
          go_wp2
          go_roundw
          case rel => exact ⟨k + 1, _, by omega, by go_num, rfl, fun j hj => by
            rcases Nat.lt_succ_iff_lt_or_eq.1 hj with h | h
            · exact hall.out j h
            · subst h; exact HE.out⟩
          case measure => simp [intOf]; omega
        · have hb : (zd xs k != zd ys k) = true := by simp; omega
          go_wp2
          go_quiet (fail)
          go_wp2
          go_ret
          exact ⟨ret_b (by symm; rw [decide_eq_false_iff_not]; rintro rfl; exact he rfl), _, World.drewN_drewN _ _ _⟩
      · go_wp2
        go_ret
        have := HL.out
        exact ⟨ret_b (by symm; rw [decide_eq_true_iff]; exact ext_zd xs ys (by omega) fun j hj => hall.out j (by omega)), _, rfl⟩
  · have hne : decide (xs = ys) = false := by
      rw [decide_eq_false_iff_not]; rintro rfl; exact hlen rfl
    have hl : ((xs.length : Int) != (ys.length : Int)) = true := by simp; omega
    go_enter Tryd.func20, Tryd.ntmps20
    go_wp2
    go_ret
    exact ⟨ret_b hne.symm, 0, rfl⟩

theorem equalI_same (A A' : Option Addr) (c c' : Nat) (xs : List Int) (w : World) (hx : RdI w w.heap.size A xs) (hy : RdI w w.heap.size A' xs) :
    Calls Tryd.prog 20 #[.slice A xs.length c, .slice A' xs.length c'] w fun e w' => e = .returned (.bool true) ∧ Below w.heap.size w w' :=
  (equalI_any A A' c c' xs xs w hx hy).mono fun _ _ ⟨he, n, hw⟩ => ⟨by rw [he, decide_eq_true rfl], by rw [hw]; exact below_drewN (Below.refl _ _) n⟩
end Go.Proofs.YtipihchlhkjdjaaDoor

namespace Go.Proofs.YtipihchlhkjdjaaDoor
open Go.RowKit

/-- every block of W that p names lies in W' as it lay; nothing has gone -/
structure Keeps (p : Nat → Prop) (W W' : World) : Prop where
  os : W'.os = W.os
  tape : W'.tape = W.tape
  output : W'.output = W.output
  size : W.heap.size ≤ W'.heap.size
  block : ∀ k, k < W.heap.size → p k → W'.heap[k]? = W.heap[k]?

theorem Keeps.refl (p : Nat → Prop) (W : World) : Keeps p W W := ⟨rfl, rfl, rfl, Nat.le_refl _, fun _ _ _ => rfl⟩
theorem Keeps.trans {p : Nat → Prop} {A B C : World} (h : Keeps p A B) (k : Keeps p B C) : Keeps p A C :=
  ⟨k.os.trans h.os, k.tape.trans h.tape, k.output.trans h.output, Nat.le_trans h.size k.size, fun i hi hp => (k.block i (Nat.lt_of_lt_of_le hi h.size) hp).trans (h.block i hi hp)⟩
theorem Keeps.mono {p q : Nat → Prop} {A B : World} (h : Keeps p A B) (hq : ∀ k, k < A.heap.size → q k → p k) : Keeps q A B := ⟨h.os, h.tape, h.output, h.size, fun k hk hp => h.block k hk (hq k hk hp)⟩
theorem Keeps.grown {p : Nat → Prop} {A B C : World} {row : Option Nat} (h : Keeps p A B) (hg : B.grownBy C row) (hr : ∀ r, row = some r → r < A.heap.size → ¬ p r) : Keeps p A C :=
  ⟨hg.os.trans h.os, hg.tape.trans h.tape, hg.output.trans h.output, Nat.le_trans h.size hg.size, fun k hk hp => (hg.block k (Nat.lt_of_lt_of_le hk h.size) (fun e => hr k e.symm hk hp)).trans (h.block k hk hp)⟩
theorem Keeps.alloc {p : Nat → Prop} {A B : World} (h : Keeps p A B) (o : Obj) : Keeps p A (B.alloc o) := h.grown (World.grownBy_alloc B o none) (fun _ e => by cases e)
theorem Keeps.setCell {p : Nat → Prop} {A B : World} (h : Keeps p A B) {q : Addr} (hq : q.block < A.heap.size → ¬ p q.block) (v : Value) : Keeps p A (B.setCell q v) :=
  ⟨h.os, h.tape, h.output, Nat.le_trans h.size (KeepsWalks.setCell B q v).size, fun k hk hp => (Below.heap_setCell B q v k (fun e => hq (e ▸ hk) (e ▸ hp))).trans (h.block k hk hp)⟩
theorem Keeps.putObj {p : Nat → Prop} {A B : World} (h : Keeps p A B) {l : Nat} (hl : l < A.heap.size → ¬ p l) (o : Obj) : Keeps p A (B.putObj l o) :=
  h.grown (grownBy_putObj' B l o) (fun r e hr => by cases e; exact hl hr)
theorem Keeps.drew {p : Nat → Prop} {A B : World} (h : Keeps p A B) : Keeps p A B.drew := ⟨h.os, h.tape, h.output, h.size, h.block⟩
theorem Keeps.drewN {p : Nat → Prop} {A B : World} (h : Keeps p A B) (n : Nat) : Keeps p A (B.drewN n) := ⟨h.os, h.tape, h.output, h.size, h.block⟩
theorem Keeps.of_below {p : Nat → Prop} {A B : World} {n : Nat} (h : Below n A B) (hp : ∀ k, k < A.heap.size → p k → k < n) : Keeps p A B := ⟨h.os, h.tape, h.output, h.size, fun k hk hpk => h.block k (hp k hk hpk)⟩
theorem Keeps.below {p : Nat → Prop} {A B : World} (h : Keeps p A B) {n : Nat} (hn : n ≤ A.heap.size) (hp : ∀ k, k < n → p k) : Below n A B := ⟨h.os, h.tape, h.output, h.size, fun k hk => h.block k (by omega) (hp k hk)⟩

/-- the body's step: it turns blocks of O and new ones alone; what it owns behind it, it owned, or it is new -/
structure StepO (O O' : Nat → Prop) (W W' : World) : Prop where
  keeps : Keeps (fun k => ¬ O k) W W'
  own : ∀ k, O' k → O k ∨ W.heap.size ≤ k
  top : ∀ k, O' k → k < W'.heap.size
theorem StepO.refl {O : Nat → Prop} {W : World} (h : ∀ k, O k → k < W.heap.size) : StepO O O W W := ⟨Keeps.refl _ W, fun _ h => .inl h, h⟩
theorem StepO.trans {O O' O'' : Nat → Prop} {A B C : World} (h : StepO O O' A B) (k : StepO O' O'' B C) : StepO O O'' A C := by
  refine ⟨⟨k.keeps.os.trans h.keeps.os, k.keeps.tape.trans h.keeps.tape, k.keeps.output.trans h.keeps.output, Nat.le_trans h.keeps.size k.keeps.size, fun i hi hp => ?_⟩, fun i hi => ?_, k.top⟩
  · refine (k.keeps.block i (Nat.lt_of_lt_of_le hi h.keeps.size) (fun ho => ?_)).trans (h.keeps.block i hi hp)
    rcases h.own i ho with h1 | h1
    · exact hp h1
    · omega
  · rcases k.own i hi with h1 | h1
    · exact h.own i h1
    · exact .inr (Nat.le_trans h.keeps.size h1)
theorem StepO.not {O O' : Nat → Prop} {W W' : World} (h : StepO O O' W W') {k : Nat} (hk : k < W.heap.size) (ho : ¬ O k) : ¬ O' k := fun h' => by
  rcases h.own k h' with h1 | h1
  · exact ho h1
  · omega

/-- what is said of blocks below B and of owned ones alone -/
def Stable {β : Type} (B : Nat) (I : β → (Nat → Prop) → World → Prop) : Prop := ∀ s O W W', I s O W → Keeps (fun k => k < B ∨ O k) W W' → I s O W'

/-- THE CONTRACT OF AN ITERATOR VALUE, made in w: it reads the blocks that Fp names. -/
def SeqO {α : Type} (F : Fence) (n : Nat) (P : Program) (g : Nat) (lb : Array Value) (encs : α → Array Value) (Fp : Nat → Prop) (S Sp : List α → Prop) (Nx : List α → α → Prop) (w : World) : Prop :=
  ∀ (l : Nat) (J Jx : List α → (Nat → Prop) → World → Prop) (O : Nat → Prop) (W : World), Keeps Fp w W → (∀ k, O k → k < W.heap.size ∧ ¬ Fp k) → Stable W.heap.size J → Stable W.heap.size Jx →
    (∀ pre x O1 W1, J pre O1 W1 → Nx pre x → YieldAt F (n - 1) P l (encs x) W1 fun e W' => ∃ O2, StepO O1 O2 W1 W' ∧
      ((e = .returned (.bool true) ∧ J (pre ++ [x]) O2 W') ∨ (e = .returned (.bool false) ∧ Jx (pre ++ [x]) O2 W'))) →
    J [] O W →
    CallsIn F n P g (#[.func (.yield l) #[] #[]] ++ lb) W fun e W' => (∃ v, e = .returned v) ∧ ((∃ xs O2, S xs ∧ J xs O2 W') ∨ (∃ pre O2, Sp pre ∧ Jx pre O2 W'))

/-- how the body of a round may be left -/
def postO {α : Type} (I : List α → (Nat → Prop) → World → Prop) (Ix : Code → List α → (Nat → Prop) → World → Prop) (xs : List α) (O : Nat → Prop) (W : World) : Exit → Act → World → Prop
  | .normal, _, W' => ∃ O', StepO O O' W W' ∧ I xs O' W'
  | .ret, _, W' => ∃ O', StepO O O' W W' ∧ Ix .ret xs O' W'
  | .exit id, _, W' => ∃ O', StepO O O' W W' ∧ Ix (.exit id) xs O' W'
  | .goto t, _, W' => ∃ O', StepO O O' W W' ∧ Ix (.goto t) xs O' W'
  | .panic _, _, _ => False
  | .outgrown, _, _ => False

variable {F : Fence} {n : Nat} {P : Program}

/-- THE LAW OF THE LOOP. -/
theorem wpIn_rangeFunc_O {α : Type} {g : Operand} {ps : Array Tmp} {assign body : Code} {Q : Exit → Act → World → Prop} {a : Act} {w : World}
    (hro : F.round = none) (h1 : 1 ≤ n) {gf : Nat} {lb : Array Value} (hg : a.eval g = .func (.func gf) #[] lb) (hFg : F.fn gf) (eg : ∀ args w, (callFunc gf args).run P w = .ok (.enter gf args) w)
    {encs : α → Array Value} {Fp : Nat → Prop} {S Sp : List α → Prop} {Nx : List α → α → Prop} {w0 : World} (hseq : SeqO F (n - 1) P gf lb encs Fp S Sp Nx w0) (hk0 : Keeps Fp w0 w) (hps : ∀ x, (encs x).size = ps.size)
    (I : List α → (Nat → Prop) → World → Prop) (Ix : Code → List α → (Nat → Prop) → World → Prop) (hI : Stable w.heap.size I) (hIx : ∀ c, Stable w.heap.size (Ix c))
    (O : Nat → Prop) (hO : ∀ k, O k → k < w.heap.size ∧ ¬ Fp k) (hFp : ∀ k, Fp k → k < w.heap.size) (h0 : I [] O w)
    (Ax : List α → α → Act → (Nat → Prop) → World → Prop) (hAx : ∀ pre x a', Stable w.heap.size (fun (_ : Unit) O W => Ax pre x a' O W))
    (hassign : ∀ (l : Nat) (pre : List α) (x : α) (O : Nat → Prop) (W : World) (K : Act → World → Prop), I pre O W → Nx pre x → w.heap.size ≤ W.heap.size → (∀ k, O k → k < W.heap.size) →
      (∀ a' O' W', StepO O O' W W' → Ax pre x a' O' W' → K a' W') →
      assign.wpIn (F.inRound l) (n - 1 - 1) P (Exit.then K (fun _ _ _ => False)) { tmps := (ps.zip (encs x)).foldl (fun t (p, v) => t.setIfInBounds p v) a.tmps, defers := [] } W)
    (hbody : ∀ (l : Nat) (pre : List α) (x : α) (a' : Act) (O : Nat → Prop) (W : World), Ax pre x a' O W → Nx pre x → w.heap.size ≤ W.heap.size → (∀ k, O k → k < W.heap.size) → body.wpIn (F.inRound l) (n - 1 - 1) P (postO I Ix (pre ++ [x]) O W) a' W)
    (hdone : ∀ (D : Nat) (O : Nat → Prop) (xs : List α) (W : World), w.heap.size ≤ D → ¬ O D → S xs → I xs O W → W.heap[D]? = some (.deferred (some [])) → Q .normal { a with defers := { target := .collected D, args := #[] } :: a.defers } W)
    (hstop : ∀ (D : Nat) (c : Code) (O : Nat → Prop) (pre : List α) (W : World), w.heap.size ≤ D → ¬ O D → Sp pre → Ix c pre O W → W.heap[D]? = some (.deferred (some [])) → c.wpIn F n P Q { a with defers := { target := .collected D, args := #[] } :: a.defers } W) :
    (Code.rangeFunc g ps assign body).wpIn F n P Q a w := by
  refine wpIn_rangeFunc ?_
  intro fn hfn
  rw [hro]
  obtain ⟨d, hd⟩ : ∃ d, d = w.heap.size := ⟨_, rfl⟩
  obtain ⟨rec, hrec⟩ : ∃ rec : LoopState → Option Code → Loop, rec = fun st pe => { state := st, pending := pe, fn, tmps := a.tmps, params := ps, assign, body, defers := w.heap.size } := ⟨_, rfl⟩
  obtain ⟨W1, hW1⟩ : ∃ W1, (w.alloc (.deferred (some []))).alloc (.loop (rec .ready none)) = W1 := ⟨_, rfl⟩
  have hL1 : W1.heap[d + 1]? = some (.loop (rec .ready none)) := by
    rw [← hW1, hd]; have := World.alloc_heap_new (w.alloc (.deferred (some []))) (.loop (rec .ready none)); rwa [World.size_alloc] at this
  have hK1 : W1.heap[d]? = some (.deferred (some [])) := by
    rw [← hW1, hd]; exact (Below.heap_alloc _ _ _ (by simp)).trans (World.alloc_heap_new w _)
  have hsz1 : W1.heap.size = d + 2 := by rw [← hW1, hd]; simp
  have hkp : ∀ p : Nat → Prop, Keeps p w W1 := fun p => by rw [← hW1]; exact ((Keeps.refl p w).alloc _).alloc _
  have hI1 : I [] O W1 := hI _ _ _ _ h0 (hkp _)
  have hB1 : w.heap.size ≤ W1.heap.size := (hkp (fun _ => True)).size
  -- the two blocks of book-keeping
  have hstab : ∀ {β : Type} {I' : β → (Nat → Prop) → World → Prop} (s : β) (O1 : Nat → Prop) (W W' : World) (o : Obj), Stable w.heap.size I' → ¬ O1 (d + 1) → I' s O1 W → W' = W.putObj (d + 1) o → I' s O1 W' := fun s O1 W W' o hst hno hi he => by
    rw [he]
    refine hst s O1 W _ hi ((Keeps.refl _ W).putObj (fun _ hp => ?_) o)
    rcases hp with hp | hp
    · omega
    · exact hno hp
  refine ⟨d + 1, [{ target := .collected d, args := #[] }], W1, { target := .fn (.func gf) lb, args := #[.func (.yield (d + 1)) #[] #[]] }, W1, gf,
    #[.func (.yield (d + 1)) #[] #[]] ++ lb, W1, ?_, ?_, ?_, ?_, fun _ => h1, ?_⟩
  · rw [← hW1, hrec, hd]; exact run_enterLoop_outer _ _ _ _ _
  · simp only [resolve, hg]
    simp [go_sem]
  · intro f' hf'; simp [Target.leads] at hf'; subst hf'; exact hFg
  · simp [invoke, go_sem, eg]
  · refine (hseq (d + 1)
      (fun pre O2 W => ∃ Oc, (∀ k, O2 k ↔ Oc k ∨ k = d ∨ k = d + 1) ∧ ¬ Oc d ∧ ¬ Oc (d + 1) ∧ (∀ k, Oc k → k < W.heap.size) ∧ I pre Oc W ∧ d + 2 ≤ W.heap.size ∧ W.heap[d + 1]? = some (.loop (rec .ready none)) ∧ W.heap[d]? = some (.deferred (some [])))
      (fun pre O2 W => ∃ Oc c, (∀ k, O2 k ↔ Oc k ∨ k = d ∨ k = d + 1) ∧ ¬ Oc d ∧ ¬ Oc (d + 1) ∧ Ix c pre Oc W ∧ d + 2 ≤ W.heap.size ∧ W.heap[d + 1]? = some (.loop (rec .done (some c))) ∧ W.heap[d]? = some (.deferred (some [])))
      (fun k => O k ∨ k = d ∨ k = d + 1) W1 (hk0.trans (hkp _)) (fun k hk => ?_) ?_ ?_ ?_ ?_).mono ?_
    · rcases hk with hk | hk | hk
      · exact ⟨by have := (hO k hk).1; omega, (hO k hk).2⟩
      · exact ⟨by omega, fun h => by have := hFp k h; omega⟩
      · exact ⟨by omega, fun h => by have := hFp k h; omega⟩
    · rintro s O2 A B ⟨Oc, ho, hn1, hn2, ht, hi, hs, hl, hk⟩ hkk
      refine ⟨Oc, ho, hn1, hn2, fun k hk => Nat.lt_of_lt_of_le (ht k hk) hkk.size, hI _ _ _ _ hi (hkk.mono fun k _ hp => ?_), Nat.le_trans hs hkk.size, (hkk.block _ (by omega) (.inr ((ho _).2 (.inr (.inr rfl))))).trans hl, (hkk.block _ (by omega) (.inr ((ho _).2 (.inr (.inl rfl))))).trans hk⟩
      rcases hp with hp | hp
      · exact .inl (Nat.lt_of_lt_of_le hp hB1)
      · exact .inr ((ho _).2 (.inl hp))
    · rintro s O2 A B ⟨Oc, c, ho, hn1, hn2, hi, hs, hl, hk⟩ hkk
      refine ⟨Oc, c, ho, hn1, hn2, hIx c _ _ _ _ hi (hkk.mono fun k _ hp => ?_), Nat.le_trans hs hkk.size, (hkk.block _ (by omega) (.inr ((ho _).2 (.inr (.inr rfl))))).trans hl, (hkk.block _ (by omega) (.inr ((ho _).2 (.inr (.inl rfl))))).trans hk⟩
      rcases hp with hp | hp
      · exact .inl (Nat.lt_of_lt_of_le hp hB1)
      · exact .inr ((ho _).2 (.inl hp))
    · -- one round
      rintro pre x O2 W ⟨Oc, ho, hn1, hn2, ht, hi, hs, hl, hk⟩ hlen
      have hy := run_yield (P := P) (args := encs x) hl (by rw [hrec]; exact hps x)
      rw [hrec] at hy
      refine ⟨fn, _, assign, body, hy, roundIn_of_wpIn hfn (hassign _ pre x Oc W _ hi hlen (by omega) ht ?_)⟩
      clear hy
      intro a' Oa Wa hsa hax
      have hla : Wa.heap[d + 1]? = some (.loop (rec .ready none)) := (hsa.keeps.block _ (by omega) hn2).trans hl
      have hka : Wa.heap[d]? = some (.deferred (some [])) := (hsa.keeps.block _ (by omega) hn1).trans hk
      have hna1 := hsa.not (by omega) hn1
      have hna2 := hsa.not (by omega) hn2
      have hsza := hsa.keeps.size
      refine ⟨_, run_beginRound hla (by rw [hrec]), ?_⟩
      obtain ⟨Wb, hWb⟩ : ∃ Wb, Wb = Wa.putObj (d + 1) (.loop { rec .ready none with state := .busy }) := ⟨_, rfl⟩
      have hlb : Wb.heap[d + 1]? = some (.loop { rec .ready none with state := .busy }) := by rw [hWb]; exact World.putObj_heap_same (by omega)
      have hkb : Wb.heap[d]? = some (.deferred (some [])) := by rw [hWb]; exact (World.putObj_heap_other (by omega)).trans hka
      have hszb : Wb.heap.size = Wa.heap.size := by rw [hWb]; simp
      have haxb : Ax pre x a' Oa Wb := hstab () Oa Wa Wb _ (hAx pre x a') hna2 hax hWb
      have hsb : StepO O2 (fun k => Oa k ∨ k = d ∨ k = d + 1) W Wb := by
        refine ⟨?_, fun k hk' => ?_, fun k hk' => ?_⟩
        · rw [hWb]
          refine (hsa.keeps.mono fun k _ hp => fun hoc => hp ((ho k).2 (.inl hoc))).putObj (fun _ hp => hp ((ho _).2 (.inr (.inr rfl)))) _
        · rcases hk' with hk' | hk'
          · rcases hsa.own k hk' with h | h
            · exact .inl ((ho k).2 (.inl h))
            · exact .inr h
          · exact .inl ((ho k).2 (.inr hk'))
        · rcases hk' with hk' | hk' | hk'
          · have := hsa.top k hk'; omega
          · omega
          · omega
      have hbo := hbody (d + 1) pre x a' Oa Wb haxb hlen (by omega) (fun k hk' => by rw [hszb]; exact hsa.top k hk')
      rw [hWb] at hbo
      refine wpIn_mono hbo ?_
      rw [← hWb]
      have fin : ∀ (jump : Option Code) (O3 : Nat → Prop) (W3 : World), StepO Oa O3 Wb W3 →
          (Instr.endRound (d + 1) jump).run P W3 = .ok (.bool jump.isNone) (W3.putObj (d + 1) (.loop (rec (if jump.isNone then .ready else .done) jump))) ∧
          StepO O2 (fun k => O3 k ∨ k = d ∨ k = d + 1) W (W3.putObj (d + 1) (.loop (rec (if jump.isNone then .ready else .done) jump))) ∧ ¬ O3 d ∧ ¬ O3 (d + 1) ∧
          d + 2 ≤ (W3.putObj (d + 1) (.loop (rec (if jump.isNone then .ready else .done) jump))).heap.size ∧
          (W3.putObj (d + 1) (.loop (rec (if jump.isNone then .ready else .done) jump))).heap[d + 1]? = some (.loop (rec (if jump.isNone then .ready else .done) jump)) ∧
          (W3.putObj (d + 1) (.loop (rec (if jump.isNone then .ready else .done) jump))).heap[d]? = some (.deferred (some [])) := fun jump O3 W3 hs3 => by
        have hl3 := (hs3.keeps.block _ (by omega) hna2).trans hlb
        have hk3 := (hs3.keeps.block _ (by omega) hna1).trans hkb
        have hz3 := hs3.keeps.size
        have hr := run_endRound (P := P) jump hl3
        rw [hrec] at hr ⊢
        refine ⟨hr, ?_, hs3.not (by omega) hna1, hs3.not (by omega) hna2, by simp; omega, World.putObj_heap_same (by omega), (World.putObj_heap_other (by omega)).trans hk3⟩
        refine hsb.trans ⟨?_, fun k hk' => ?_, fun k hk' => ?_⟩
        · refine (hs3.keeps.mono fun k _ hp => fun hoc => hp (.inl hoc)).putObj (fun _ hp => hp (.inr (.inr rfl))) _
        · rcases hk' with hk' | hk'
          · rcases hs3.own k hk' with h | h
            · exact .inl (.inl h)
            · exact .inr h
          · exact .inl (.inr hk')
        · have h9 : ∀ o : Obj, (W3.putObj (d + 1) o).heap.size = W3.heap.size := fun o => by simp
          rw [h9]
          rcases hk' with hk' | hk' | hk'
          · exact hs3.top k hk'
          · omega
          · omega
      rintro e a3 W3 hp
      cases e with
      | normal =>
        obtain ⟨O3, hs3, hi3⟩ := hp
        obtain ⟨hr, h2, h3, h4, h5, h6, h7⟩ := fin none O3 W3 hs3
        exact ⟨_, _, hr, _, h2, .inl ⟨rfl, O3, fun _ => Iff.rfl, h3, h4, fun k hk' => h2.top k (.inl hk'), hstab _ O3 W3 _ _ hI h4 hi3 rfl, h5, h6, h7⟩⟩
      | ret =>
        obtain ⟨O3, hs3, hi3⟩ := hp
        obtain ⟨hr, h2, h3, h4, h5, h6, h7⟩ := fin (some .ret) O3 W3 hs3
        exact ⟨_, _, hr, _, h2, .inr ⟨rfl, O3, .ret, fun _ => Iff.rfl, h3, h4, hstab _ O3 W3 _ _ (hIx _) h4 hi3 rfl, h5, h6, h7⟩⟩
      | exit id =>
        obtain ⟨O3, hs3, hi3⟩ := hp
        obtain ⟨hr, h2, h3, h4, h5, h6, h7⟩ := fin (some (.exit id)) O3 W3 hs3
        exact ⟨_, _, hr, _, h2, .inr ⟨rfl, O3, .exit id, fun _ => Iff.rfl, h3, h4, hstab _ O3 W3 _ _ (hIx _) h4 hi3 rfl, h5, h6, h7⟩⟩
      | goto t =>
        obtain ⟨O3, hs3, hi3⟩ := hp
        obtain ⟨hr, h2, h3, h4, h5, h6, h7⟩ := fin (some (.goto t)) O3 W3 hs3
        exact ⟨_, _, hr, _, h2, .inr ⟨rfl, O3, .goto t, fun _ => Iff.rfl, h3, h4, hstab _ O3 W3 _ _ (hIx _) h4 hi3 rfl, h5, h6, h7⟩⟩
      | panic ch => exact hp.elim
      | outgrown => exact hp.elim
    · exact ⟨O, fun _ => Iff.rfl, fun h => by have := (hO _ h).1; omega, fun h => by have := (hO _ h).1; omega, fun k hk' => Nat.lt_of_lt_of_le (hO k hk').1 hB1, hI1, by omega, hL1, hK1⟩
    · -- behind the iterator
      rintro e W2 ⟨⟨v, rfl⟩, (⟨xs, O2, hS, Oc, ho, hn1, hn2, _, hi, hs, hl, hk⟩ | ⟨pre, O2, hSp, Oc, c, ho, hn1, hn2, hi, hs, hl, hk⟩)⟩
      · exact ⟨none, _, by have := run_endLoop (P := P) hl (by rw [hrec]; simp); rw [hrec] at this; exact this, hdone d Oc xs _ (by omega) hn1 hS (hstab _ Oc W2 _ _ hI hn2 hi rfl) ((World.putObj_heap_other (by omega)).trans hk)⟩
      · exact ⟨some c, _, by have := run_endLoop (P := P) hl (by rw [hrec]; simp); rw [hrec] at this; exact this, hstop d c Oc pre _ (by omega) hn1 hSp (hstab _ Oc W2 _ _ (hIx c) hn2 hi rfl) ((World.putObj_heap_other (by omega)).trans hk)⟩
end Go.Proofs.YtipihchlhkjdjaaDoor

namespace Go.Proofs.YtipihchlhkjdjaaDoor
open Go.RowKit

/-- edge k of a list, (0, 0) beyond it -/
def ed (es : List (Int × Int)) (k : Nat) : Int × Int := es.getD k (0, 0)

/-- a slice of edges -/
structure RdE (w : World) (B : Nat) (A : Option Addr) (es : List (Int × Int)) : Prop where
  lo1 : ∀ k, -9223372036854775808 ≤ (ed es k).1
  hi1 : ∀ k, (ed es k).1 ≤ 9223372036854775807
  lo2 : ∀ k, -9223372036854775808 ≤ (ed es k).2
  hi2 : ∀ k, (ed es k).2 ≤ 9223372036854775807
  room : es.length ≤ 1099511627776
  rd : 0 < es.length → ∃ b off, A = some ⟨b, off, none⟩ ∧ b < B ∧ ∀ k, k < es.length →
    w.cell? ⟨b, off + k * 2, none⟩ = some (.int .i64 (ed es k).1) ∧ w.cell? ⟨b, off + k * 2 + 1, none⟩ = some (.int .i64 (ed es k).2)

theorem RdE.keep {w w' : World} {B : Nat} {A : Option Addr} {es : List (Int × Int)} (h : RdE w B A es) (hk : ∀ b o, b < B → w'.cell? ⟨b, o, none⟩ = w.cell? ⟨b, o, none⟩) : RdE w' B A es :=
  ⟨h.lo1, h.hi1, h.lo2, h.hi2, h.room, fun hn => by
    obtain ⟨b, off, hA, hb, hc⟩ := h.rd hn
    exact ⟨b, off, hA, hb, fun k hk' => ⟨(hk b _ hb).trans (hc k hk').1, (hk b _ hb).trans (hc k hk').2⟩⟩⟩
theorem RdE.below {w w' : World} {B : Nat} {A : Option Addr} {es : List (Int × Int)} (h : RdE w B A es) (hb : Below B w w') : RdE w' B A es := h.keep fun b o hlt => hb.cell (p := ⟨b, o, none⟩) hlt
theorem RdE.more {w : World} {B B' : Nat} {A : Option Addr} {es : List (Int × Int)} (h : RdE w B A es) (hB : B ≤ B') : RdE w B' A es :=
  ⟨h.lo1, h.hi1, h.lo2, h.hi2, h.room, fun hn => by
    obtain ⟨b, off, hA, hb, hc⟩ := h.rd hn
    exact ⟨b, off, hA, by omega, hc⟩⟩
theorem RdE.step {w w' : World} {A : Option Addr} {es : List (Int × Int)} (h : RdE w w.heap.size A es) (hb : Below w.heap.size w w') : RdE w' w'.heap.size A es := (h.below hb).more hb.size

/-- a slice of sets -/
structure RdUU (w : World) (B : Nat) (A : Option Addr) (xss : List (List Nat)) : Prop where
  room : xss.length ≤ 1048576
  rd : ∃ (a : Nat → Option Addr) (c : Nat → Nat), Rd w B A xss.length (fun k => .slice (a k) (xss.getD k []).length (c k)) ∧ ∀ k, k < xss.length → RdU w B (a k) (xss.getD k [])
theorem RdUU.keep {w w' : World} {B : Nat} {A : Option Addr} {xss : List (List Nat)} (h : RdUU w B A xss) (hk : ∀ b o, b < B → w'.cell? ⟨b, o, none⟩ = w.cell? ⟨b, o, none⟩) : RdUU w' B A xss := by
  obtain ⟨h1, a, c, h2, h3⟩ := h
  exact ⟨h1, a, c, h2.keep hk, fun k hk' => (h3 k hk').keep hk⟩
theorem RdUU.below {w w' : World} {B : Nat} {A : Option Addr} {xss : List (List Nat)} (h : RdUU w B A xss) (hb : Below B w w') : RdUU w' B A xss := h.keep fun b o hlt => hb.cell (p := ⟨b, o, none⟩) hlt
theorem RdUU.more {w : World} {B B' : Nat} {A : Option Addr} {xss : List (List Nat)} (h : RdUU w B A xss) (hB : B ≤ B') : RdUU w B' A xss := by
  obtain ⟨h1, a, c, h2, h3⟩ := h
  exact ⟨h1, a, c, h2.more hB, fun k hk' => (h3 k hk').more hB⟩
theorem RdUU.step {w w' : World} {A : Option Addr} {xss : List (List Nat)} (h : RdUU w w.heap.size A xss) (hb : Below w.heap.size w w') : RdUU w' w'.heap.size A xss := (h.below hb).more hb.size

theorem grownBy_setCell (W : World) (p : Addr) (v : Value) : W.grownBy (W.setCell p v) (some p.block) :=
  ⟨rfl, rfl, rfl, (KeepsWalks.setCell W p v).size, fun k _ hk => Below.heap_setCell _ _ _ k (fun e => hk (by rw [e]))⟩
/-- a slice of lists -/
structure RdII (w : World) (B : Nat) (A : Option Addr) (zss : List (List Int)) : Prop where
  room : zss.length ≤ 1048576
  rd : ∃ (a : Nat → Option Addr) (c : Nat → Nat), Rd w B A zss.length (fun k => .slice (a k) (zss.getD k []).length (c k)) ∧ ∀ k, k < zss.length → RdI w B (a k) (zss.getD k [])

theorem own_ne_row {w : World} {base e t size n m g : Nat} {v : Value} {xs : List Value} {f : Nat → Value} (h : w.ownsRow base e size v n xs) (hr : w.rowIs g t m f) (hne : e ≠ t) : v.ownBlock ≠ some g := by
  intro he
  rcases h.2 with ⟨rfl, _⟩ | ⟨g', cap, cur, rfl, _, hg, _⟩
  · simp [Value.ownBlock] at he
  · obtain rfl : g' = g := by simpa [Value.ownBlock] using he
    obtain ⟨c, hc, _⟩ := hr
    rw [hg] at hc
    injection hc with hc
    injection hc with _ ht
    exact hne ht
theorem own_ne_blk {w : World} {base e t size n g : Nat} {v : Value} {xs : List Value} {cs : Array Value} {fr : Nat × Nat} (h : w.ownsRow base e size v n xs) (hr : w.heap[g]? = some (.cells cs t fr)) (hne : e ≠ t) : v.ownBlock ≠ some g := by
  intro he
  rcases h.2 with ⟨rfl, _⟩ | ⟨g', cap, cur, rfl, _, hg, _⟩
  · simp [Value.ownBlock] at he
  · obtain rfl : g' = g := by simpa [Value.ownBlock] using he
    rw [hg] at hr
    injection hr with hr
    injection hr with _ ht
    exact hne ht
theorem rowIs_grown {w w' : World} {g t m : Nat} {f : Nat → Value} {row : Option Nat} (h : w.rowIs g t m f) (hg : w.grownBy w' row) (hne : some g ≠ row) : w'.rowIs g t m f := h.of_block (hg.block g h.lt hne)
theorem rowIs_below {w w' : World} {B g t m : Nat} {f : Nat → Value} (h : w.rowIs g t m f) (hb : Below B w w') (hg : g < B) : w'.rowIs g t m f := h.of_block (hb.block g hg)
theorem rowIs_step {w w' : World} {g t m : Nat} {f : Nat → Value} (h : w.rowIs g t m f) (hb : Below w.heap.size w w') : w'.rowIs g t m f := rowIs_below h hb h.lt

/-- a row of lists of the call's own, each of which may grow -/
def Ends (T E : TypeId) (w : World) (base ge n : Nat) (f : Nat → List Int) : Prop := ∃ hdr : Nat → Value, w.rowIs ge T n hdr ∧ base ≤ ge ∧
  (∀ i, i < n → w.ownsRow base E 1 (hdr i) (f i).length (iVals (f i))) ∧ (∀ i j, i < n → j < n → i ≠ j → ∀ b, (hdr i).ownBlock = some b → (hdr j).ownBlock ≠ some b)
theorem Ends.new (T E : TypeId) (w : World) (base n : Nat) (hb : base ≤ w.heap.size) : Ends T E (w.alloc (.cells (madeCells #[.slice none 0 0] n) T)) base w.heap.size n (fun _ => []) :=
  ⟨fun _ => .slice none 0 0, World.rowIs_made _ _ _ _, hb, fun _ _ => World.ownsRow_nil _ _ _ _, fun _ _ _ _ _ b h => by simp [Value.ownBlock] at h⟩
theorem Ends.grown {T E : TypeId} {w w' : World} {base ge n : Nat} {f : Nat → List Int} (h : Ends T E w base ge n f) (hg : w.grownBy w' none) : Ends T E w' base ge n f := by
  obtain ⟨hdr, h1, h2, h3, h4⟩ := h
  refine ⟨hdr, rowIs_grown h1 hg (by simp), h2, fun i hi => (h3 i hi).kept hg ?_, h4⟩
  rcases (h3 i hi).2 with ⟨h0, _⟩ | ⟨g', cap, cur, h0, _⟩
  · exact .inl (by rw [h0]; rfl)
  · exact .inr (by rw [h0]; simp [Value.ownBlock])
theorem Ends.alloc {T E : TypeId} {w : World} {base ge n : Nat} {f : Nat → List Int} (h : Ends T E w base ge n f) (o : Obj) : Ends T E (w.alloc o) base ge n f := h.grown (World.grownBy_alloc w o none)
theorem Ends.lt {T E : TypeId} {w : World} {base ge n : Nat} {f : Nat → List Int} (h : Ends T E w base ge n f) : ge < w.heap.size := by obtain ⟨hdr, h1, _⟩ := h; exact h1.lt
theorem Ends.drew {T E : TypeId} {w : World} {base ge n : Nat} {f : Nat → List Int} (h : Ends T E w base ge n f) : Ends T E w.drew base ge n f := h
theorem Ends.at_ {T E : TypeId} {w : World} {base ge n : Nat} {f : Nat → List Int} (h : Ends T E w base ge n f) (hTE : E ≠ T) {x : Nat} (hx : x < n) :
    ∃ v A c, v = .slice A (f x).length c ∧ w.cell? ⟨ge, x, none⟩ = some v ∧ w.frozen? ⟨ge, x, none⟩ = false ∧ w.ownsRow base E 1 v (f x).length (iVals (f x)) ∧ ge < w.heap.size ∧ v.ownBlock ≠ some ge ∧
      ∀ (tmp : Obj) (y : Int) (v' : Value) (w1 : World), w1.ownsRow base E 1 v' ((f x).length + 1) (iVals (f x) ++ [.int .i64 y]) → (w.alloc tmp).drew.grownBy w1 v.ownBlock → (∀ b, v'.ownBlock = some b → v.ownBlock = some b ∨ b = w.heap.size + 1) →
        Ends T E (w1.setCell ⟨ge, x, none⟩ v') base ge n (fun i => if i = x then f x ++ [y] else f i) := by
  obtain ⟨hdr, h1, h2, h3, h4⟩ := h
  obtain ⟨A, c, hv⟩ := own_any (h3 x hx)
  refine ⟨hdr x, A, c, hv, h1.cell hx, h1.frozen x, h3 x hx, h1.lt, own_ne_row (h3 x hx) h1 hTE, ?_⟩
  intro tmp y v' w1 hown hg hat
  have hgx := own_ne_row (h3 x hx) h1 hTE
  have h1a : (w.alloc tmp).drew.rowIs ge T n hdr := h1.alloc tmp
  have h1w : w1.rowIs ge T n hdr := rowIs_grown h1a hg (fun e => hgx e.symm)
  have hnv : v'.ownBlock ≠ some ge := own_ne_row hown h1w hTE
  refine ⟨fun i => if i = x then v' else hdr i, h1w.set x v', h2, fun i hi => ?_, fun i j hi hj hij b hb => ?_⟩
  · by_cases e : i = x
    · subst e
      dsimp only
      rw [if_pos rfl, if_pos rfl]
      have := hown.kept (grownBy_setCell w1 ⟨ge, i, none⟩ v') (.inr hnv)
      rw [iVals_snoc] at this
      simpa using this
    · dsimp only
      rw [if_neg e, if_neg e]
      have hi1 : (w.alloc tmp).drew.ownsRow base E 1 (hdr i) (f i).length (iVals (f i)) := (h3 i hi).alloc tmp
      have hi2 : w1.ownsRow base E 1 (hdr i) (f i).length (iVals (f i)) := hi1.kept hg (by
        rcases hi1.2 with ⟨h0, _⟩ | ⟨g', cap, cur, h0, _⟩
        · exact .inl (by rw [h0]; rfl)
        · refine .inr (fun e' => ?_)
          have h5 : (hdr i).ownBlock = some g' := by rw [h0]; rfl
          rw [h5] at e'
          exact h4 i x hi hx e g' h5 e'.symm)
      exact hi2.kept (grownBy_setCell w1 ⟨ge, x, none⟩ v') (.inr (own_ne_row hi2 h1w hTE))
  · have hlt : ∀ i, i < n → ∀ b, (hdr i).ownBlock = some b → b < w.heap.size := fun i hi b hb => by
      rcases (h3 i hi).2 with ⟨h0, _⟩ | ⟨g', cap, cur, h0, _, hg', _⟩
      · rw [h0] at hb; simp [Value.ownBlock] at hb
      · rw [h0] at hb
        obtain rfl : g' = b := by simpa [Value.ownBlock] using hb
        exact (Array.getElem?_eq_some_iff.1 hg').1
    dsimp only at hb ⊢
    by_cases e1 : i = x
    · subst e1
      rw [if_pos rfl] at hb
      rw [if_neg (fun e => hij e.symm)]
      intro hb2
      rcases hat b hb with h | h
      · exact h4 i j hi hj hij b h hb2
      · have := hlt j hj b hb2; omega
    · rw [if_neg e1] at hb
      by_cases e2 : j = x
      · subst e2
        rw [if_pos rfl]
        intro hb2
        rcases hat b hb2 with h | h
        · exact h4 i j hi hj hij b hb h
        · have := hlt i hi b hb; omega
      · rw [if_neg e2]
        exact h4 i j hi hj hij b hb
theorem Ends.rd {T E : TypeId} {w : World} {base ge n : Nat} {f : Nat → List Int} (h : Ends T E w base ge n f) (hn : n ≤ 1048576) (hf : ∀ i, i < n → (f i).length ≤ 1152921504606846976 ∧ ∀ k, -9223372036854775808 ≤ zd (f i) k ∧ zd (f i) k ≤ 9223372036854775807) :
    RdII w w.heap.size (some ⟨ge, 0, none⟩) ((List.range n).map f) := by
  obtain ⟨hdr, h1, h2, h3, h4⟩ := h
  have h5 : ∀ i, ∃ Ac : Option Addr × Nat, i < n → hdr i = .slice Ac.1 (f i).length Ac.2 ∧ RdI w w.heap.size Ac.1 (f i) := fun i => by
    by_cases hi : i < n
    · obtain ⟨A, c, hv, hr⟩ := own_rdI (h3 i hi) (fun k => ((hf i hi).2 k).1) (fun k => ((hf i hi).2 k).2) (hf i hi).1
      exact ⟨(A, c), fun _ => ⟨hv, hr⟩⟩
    · exact ⟨(none, 0), fun h => absurd h hi⟩
  have hget : ∀ k, k < n → ((List.range n).map f).getD k [] = f k := fun k hk => by simp [List.getD, hk]
  refine ⟨by simpa using hn, fun i => (h5 i).choose.1, fun i => (h5 i).choose.2, fun hlen => ⟨ge, 0, rfl, h1.lt, fun k hk => ?_⟩, fun k hk => ?_⟩
  · simp at hk
    dsimp only
    rw [Nat.zero_add, h1.cell hk, hget k hk]
    exact congrArg some ((h5 k).choose_spec hk).1
  · simp at hk
    rw [hget k hk]
    exact ((h5 k).choose_spec hk).2

theorem RdII.at0 {w : World} {B g : Nat} {zss : List (List Int)} (h : RdII w B (some ⟨g, 0, none⟩) zss) {k : Nat} (hk : k < zss.length) : ∃ A c, g < B ∧ w.cell? ⟨g, k, none⟩ = some (.slice A (zss.getD k []).length c) ∧ RdI w B A (zss.getD k []) := by
  obtain ⟨h1, a, c, h2, h3⟩ := h
  obtain ⟨b, off, hA, hb, hc⟩ := h2 (by omega)
  injection hA with hA
  injection hA with e1 e2
  subst e1
  subst e2
  have := hc k hk
  rw [Nat.zero_add] at this
  exact ⟨a k, c k, hb, this, h3 k hk⟩
/-- set k of a slice of sets -/
def st (xss : List (List Nat)) (k : Nat) : List Nat := xss.getD k []
theorem st_map (f : Nat → List Nat) (n k : Nat) (h : k < n) : st ((List.range n).map f) k = f k := by unfold st; simp [List.getD, h]
theorem RdUU.at_ {w : World} {B : Nat} {A : Option Addr} {xss : List (List Nat)} (h : RdUU w B A xss) {k : Nat} (hk : k < xss.length) : ∃ b off A' c, A = some ⟨b, off, none⟩ ∧ b < B ∧ w.cell? ⟨b, off + k, none⟩ = some (.slice A' (st xss k).length c) ∧ RdU w B A' (st xss k) := by
  obtain ⟨h1, a, c, h2, h3⟩ := h
  obtain ⟨b, off, hA, hb, hc⟩ := h2 (by omega)
  exact ⟨b, off, a k, c k, hA, hb, hc k hk, h3 k hk⟩

/-- a slice of words whose block p names -/
structure RdUp (w : World) (p : Nat → Prop) (A : Option Addr) (xs : List Nat) : Prop where
  lt : ∀ k, wd xs k < 18446744073709551616
  room : xs.length ≤ 1152921504606846976
  rd : 0 < xs.length → ∃ b off, A = some ⟨b, off, none⟩ ∧ p b ∧ ∀ k, k < xs.length → w.cell? ⟨b, off + k, none⟩ = some (.int .u64 (wd xs k : Int))
theorem RdU.toP {w : World} {B : Nat} {A : Option Addr} {xs : List Nat} (h : RdU w B A xs) : RdUp w (fun b => b < B) A xs := ⟨h.lt, h.room, h.rd⟩
theorem RdUp.toU {w : World} {p : Nat → Prop} {A : Option Addr} {xs : List Nat} (h : RdUp w p A xs) : RdU w w.heap.size A xs := ⟨h.lt, h.room, fun hn => by
  obtain ⟨b, off, hA, hp, hc⟩ := h.rd hn
  exact ⟨b, off, hA, World.block_lt_of_cell? w _ (hc 0 hn), hc⟩⟩
theorem RdUp.keeps {w w' : World} {p q : Nat → Prop} {A : Option Addr} {xs : List Nat} (h : RdUp w p A xs) (hk : Keeps q w w') (hq : ∀ b, p b → q b) : RdUp w' p A xs := ⟨h.lt, h.room, fun hn => by
  obtain ⟨b, off, hA, hp, hc⟩ := h.rd hn
  have hlt : b < w.heap.size := World.block_lt_of_cell? w _ (hc 0 hn)
  exact ⟨b, off, hA, hp, fun k hk' => (World.cell?_of_block (hk.block b hlt (hq b hp))).trans (hc k hk')⟩⟩
theorem RdUp.imp {w : World} {p q : Nat → Prop} {A : Option Addr} {xs : List Nat} (h : RdUp w p A xs) (hq : ∀ b, p b → q b) : RdUp w q A xs := ⟨h.lt, h.room, fun hn => by
  obtain ⟨b, off, hA, hp, hc⟩ := h.rd hn
  exact ⟨b, off, hA, hq b hp, hc⟩⟩
/-- a slice of sets whose blocks p names -/
structure RdUUp (w : World) (p : Nat → Prop) (A : Option Addr) (xss : List (List Nat)) : Prop where
  room : xss.length ≤ 1048576
  rd : ∃ (a : Nat → Option Addr) (c : Nat → Nat), (0 < xss.length → ∃ b off, A = some ⟨b, off, none⟩ ∧ p b ∧ ∀ k, k < xss.length → w.cell? ⟨b, off + k, none⟩ = some (.slice (a k) (st xss k).length (c k))) ∧ ∀ k, k < xss.length → RdUp w p (a k) (st xss k)
theorem RdUU.toP {w : World} {B : Nat} {A : Option Addr} {xss : List (List Nat)} (h : RdUU w B A xss) : RdUUp w (fun b => b < B) A xss := by
  obtain ⟨h1, a, c, h2, h3⟩ := h
  exact ⟨h1, a, c, h2, fun k hk => (h3 k hk).toP⟩
theorem RdUUp.toUU {w : World} {p : Nat → Prop} {A : Option Addr} {xss : List (List Nat)} (h : RdUUp w p A xss) : RdUU w w.heap.size A xss := by
  obtain ⟨h1, a, c, h2, h3⟩ := h
  refine ⟨h1, a, c, fun hn => ?_, fun k hk => (h3 k hk).toU⟩
  obtain ⟨b, off, hA, hp, hc⟩ := h2 hn
  exact ⟨b, off, hA, World.block_lt_of_cell? w _ (hc 0 hn), hc⟩
theorem RdUUp.keeps {w w' : World} {p q : Nat → Prop} {A : Option Addr} {xss : List (List Nat)} (h : RdUUp w p A xss) (hk : Keeps q w w') (hq : ∀ b, p b → q b) : RdUUp w' p A xss := by
  obtain ⟨h1, a, c, h2, h3⟩ := h
  refine ⟨h1, a, c, fun hn => ?_, fun k hk' => (h3 k hk').keeps hk hq⟩
  obtain ⟨b, off, hA, hp, hc⟩ := h2 hn
  have hlt : b < w.heap.size := World.block_lt_of_cell? w _ (hc 0 hn)
  exact ⟨b, off, hA, hp, fun k hk' => (World.cell?_of_block (hk.block b hlt (hq b hp))).trans (hc k hk')⟩
theorem RdUUp.imp {w : World} {p q : Nat → Prop} {A : Option Addr} {xss : List (List Nat)} (h : RdUUp w p A xss) (hq : ∀ b, p b → q b) : RdUUp w q A xss := by
  obtain ⟨h1, a, c, h2, h3⟩ := h
  refine ⟨h1, a, c, fun hn => ?_, fun k hk' => (h3 k hk').imp hq⟩
  obtain ⟨b, off, hA, hp, hc⟩ := h2 hn
  exact ⟨b, off, hA, hq b hp, hc⟩
theorem RdUUp.at_ {w : World} {p : Nat → Prop} {A : Option Addr} {xss : List (List Nat)} (h : RdUUp w p A xss) {k : Nat} (hk : k < xss.length) : ∃ b off A' c, A = some ⟨b, off, none⟩ ∧ p b ∧ w.cell? ⟨b, off + k, none⟩ = some (.slice A' (st xss k).length c) ∧ RdUp w p A' (st xss k) := by
  obtain ⟨h1, a, c, h2, h3⟩ := h
  obtain ⟨b, off, hA, hp, hc⟩ := h2 (by omega)
  exact ⟨b, off, a k, c k, hA, hp, hc k hk, h3 k hk⟩

theorem RdUp.lt' {w : World} {p : Nat → Prop} {A : Option Addr} {xs : List Nat} (h : RdUp w p A xs) : RdUp w (fun b => p b ∧ b < w.heap.size) A xs := ⟨h.lt, h.room, fun hn => by
  obtain ⟨b, off, hA, hp, hc⟩ := h.rd hn
  exact ⟨b, off, hA, ⟨hp, World.block_lt_of_cell? w _ (hc 0 hn)⟩, hc⟩⟩
theorem RdUUp.lt' {w : World} {p : Nat → Prop} {A : Option Addr} {xss : List (List Nat)} (h : RdUUp w p A xss) : RdUUp w (fun b => p b ∧ b < w.heap.size) A xss := by
  obtain ⟨h1, a, c, h2, h3⟩ := h
  refine ⟨h1, a, c, fun hn => ?_, fun k hk => (h3 k hk).lt'⟩
  obtain ⟨b, off, hA, hp, hc⟩ := h2 hn
  exact ⟨b, off, hA, ⟨hp, World.block_lt_of_cell? w _ (hc 0 hn)⟩, hc⟩

/-- a row of sets of the call's own, in blocks from base on -/
def OwnUU (T : TypeId) (w : World) (base g n : Nat) (xs : Nat → List Nat) : Prop := base ≤ g ∧ ∃ (a : Nat → Option Addr) (c : Nat → Nat), w.rowIs g T n (fun i => .slice (a i) (xs i).length (c i)) ∧ ∀ i, i < n → RdUp w (fun b => base ≤ b) (a i) (xs i)
theorem rdUp_nil (w : World) (p : Nat → Prop) (A : Option Addr) : RdUp w p A [] := ⟨fun k => by simp [wd], by simp, fun h => by simp at h⟩
theorem OwnUU.new (T : TypeId) (w : World) (base n : Nat) (hb : base ≤ w.heap.size) : OwnUU T (w.alloc (.cells (madeCells #[.slice none 0 0] n) T)) base w.heap.size n (fun _ => []) :=
  ⟨hb, fun _ => none, fun _ => 0, World.rowIs_made _ _ _ _, fun _ _ => rdUp_nil _ _ _⟩
theorem OwnUU.step {T : TypeId} {w w' : World} {base g n : Nat} {xs : Nat → List Nat} (h : OwnUU T w base g n xs) (hb : Below w.heap.size w w') : OwnUU T w' base g n xs := by
  obtain ⟨h0, a, c, h1, h2⟩ := h
  exact ⟨h0, a, c, rowIs_step h1 hb, fun i hi => by
    have := (h2 i hi)
    refine ⟨this.lt, this.room, fun hn => ?_⟩
    obtain ⟨b, off, hA, hp, hc⟩ := this.rd hn
    exact ⟨b, off, hA, hp, fun k hk => (hb.cell (p := ⟨b, off + k, none⟩) (World.block_lt_of_cell? w _ (hc k hk))).trans (hc k hk)⟩⟩
theorem OwnUU.keeps {T : TypeId} {w w' : World} {base g n : Nat} {xs : Nat → List Nat} {p : Nat → Prop} (h : OwnUU T w base g n xs) (hk : Keeps p w w') (hp : ∀ b, base ≤ b → p b) : OwnUU T w' base g n xs := by
  obtain ⟨h0, a, c, h1, h2⟩ := h
  exact ⟨h0, a, c, h1.of_block (hk.block g h1.lt (hp g h0)), fun i hi => (h2 i hi).keeps hk hp⟩
theorem OwnUU.lt {T : TypeId} {w : World} {base g n : Nat} {xs : Nat → List Nat} (h : OwnUU T w base g n xs) : g < w.heap.size := by obtain ⟨h0, a, c, h1, _⟩ := h; exact h1.lt
/-- a store into a row of slices turns no slice of words -/
theorem RdUp.setRow {T : TypeId} {w : World} {g n i : Nat} {p : Nat → Prop} {A : Option Addr} {xs : List Nat} {a : Nat → Option Addr} {l c : Nat → Nat} (h : RdUp w p A xs) (hr : w.rowIs g T n (fun i => .slice (a i) (l i) (c i))) (v : Value) : RdUp (w.setCell ⟨g, i, none⟩ v) p A xs :=
  ⟨h.lt, h.room, fun hn => by
    obtain ⟨b, off, hA, hb, hc⟩ := h.rd hn
    refine ⟨b, off, hA, hb, fun k hk => ?_⟩
    have hck := hc k hk
    by_cases e : b = g
    · subst e
      obtain ⟨cs, hh, hsz, hcs⟩ := hr
      have h1 : cs[off + k]? = some (.int .u64 (wd xs k : Int)) := by
        have := hck
        simp only [World.cell?, hh] at this
        exact this
      have h2 := (Array.getElem?_eq_some_iff.1 h1).1
      rw [hcs _ (by omega)] at h1
      cases h1
    · exact (World.cell?_of_block (Below.heap_setCell w ⟨g, i, none⟩ v b e)).trans hck⟩
theorem OwnUU.set {T : TypeId} {w : World} {base g n i : Nat} {xs : Nat → List Nat} (h : OwnUU T w base g n xs) {A : Option Addr} {c' : Nat} {l : List Nat} (hl : RdUp w (fun b => base ≤ b) A l) : OwnUU T (w.setCell ⟨g, i, none⟩ (.slice A l.length c')) base g n (fun j => if j = i then l else xs j) := by
  obtain ⟨h0, a, c, h1, h2⟩ := h
  refine ⟨h0, fun j => if j = i then A else a j, fun j => if j = i then c' else c j, (h1.set i (.slice A l.length c')).congr fun j hj => ?_, fun j hj => ?_⟩
  · by_cases e : j = i
    · simp [e]
    · simp [e]
  · by_cases e : j = i
    · simp only [if_pos e]; exact hl.setRow h1 _
    · simp only [if_neg e]; exact (h2 j hj).setRow h1 _
theorem OwnUU.cell {T : TypeId} {w : World} {base g n : Nat} {xs : Nat → List Nat} (h : OwnUU T w base g n xs) {i : Nat} (hi : i < n) : ∃ A c, w.cell? ⟨g, i, none⟩ = some (.slice A (xs i).length c) ∧ w.frozen? ⟨g, i, none⟩ = false ∧ RdU w w.heap.size A (xs i) := by
  obtain ⟨h0, a, c, h1, h2⟩ := h
  exact ⟨a i, c i, h1.cell hi, h1.frozen i, (h2 i hi).toU⟩
theorem OwnUU.rd {T : TypeId} {w : World} {base g n : Nat} {xs : Nat → List Nat} (h : OwnUU T w base g n xs) (hn : n ≤ 1048576) : RdUUp w (fun b => base ≤ b) (some ⟨g, 0, none⟩) ((List.range n).map xs) := by
  obtain ⟨h0, a, c, h1, h2⟩ := h
  refine ⟨by simpa using hn, a, c, fun hlen => ⟨g, 0, rfl, h0, fun k hk => ?_⟩, fun k hk => ?_⟩
  · simp at hk
    rw [Nat.zero_add, h1.cell hk, st_map xs n k hk]
  · simp at hk
    rw [st_map xs n k hk]
    exact h2 k hk
end Go.Proofs.YtipihchlhkjdjaaDoor

namespace Go.Proofs.YtipihchlhkjdjaaDoor
open Go.RowKit
set_option maxRecDepth 100000

/-- is n a node of N? -/
def nodeB (N n : Int) : Bool := decide (0 ≤ n) && decide (n < N)
theorem nodeB_true {N n : Int} (h : nodeB N n = true) : 0 ≤ n ∧ n < N := by unfold nodeB at h; simpa using h
theorem nodeB_mk {N n : Int} (h0 : 0 ≤ n) (h1 : n < N) : nodeB N n = true := by unfold nodeB; simp [h0, h1]
theorem nodeB_no1 {N n : Int} (h0 : n < 0) : nodeB N n = false := by unfold nodeB; simp; omega
theorem nodeB_no2 {N n : Int} (h0 : N ≤ n) : nodeB N n = false := by unfold nodeB; simp; omega

theorem isNode_any (A : Option Addr) (l c : Nat) (N n : Int) (w : World) :
    Calls Tryd.prog 49 #[.agg #[.int .i64 N, .slice A l c], .int .i64 n] w fun e w' => e = .returned (.bool (nodeB N n)) ∧ Below w.heap.size w w' := by
  by_cases h0 : 0 ≤ n
  · by_cases h1 : n < N
    · rw [nodeB_mk h0 h1]
      go_enter Tryd.func49, Tryd.ntmps49
      go_wp2
      go_ret
      exact ⟨rfl, (Below.refl _ _).alloc (Nat.le_refl _) _⟩
    · rw [nodeB_no2 (by omega)]
      go_enter Tryd.func49, Tryd.ntmps49
      go_wp2
      go_ret
      exact ⟨rfl, (Below.refl _ _).alloc (Nat.le_refl _) _⟩
  · rw [nodeB_no1 (by omega)]
    go_enter Tryd.func49, Tryd.ntmps49
    go_wp2
    go_ret
    exact ⟨rfl, (Below.refl _ _).alloc (Nat.le_refl _) _⟩

/-- the edge lies in a graph of N nodes -/
def okE (N : Int) (e : Int × Int) : Bool := nodeB N e.1 && nodeB N e.2
def okN200 (N : Int) : Bool := decide (0 ≤ N) && decide (N ≤ 200)
def inR (N : Int) (es : List (Int × Int)) : Bool := okN200 N && es.all (okE N)
theorem inR_no (N : Int) (es : List (Int × Int)) (h : okN200 N = false) : inR N es = false := by unfold inR; rw [h]; rfl
theorem ed_mem (es : List (Int × Int)) (k : Nat) (h : k < es.length) : ed es k ∈ es := by unfold ed; simp [List.getD, h]
theorem mem_ed {es : List (Int × Int)} {e : Int × Int} (h : e ∈ es) : ∃ k, k < es.length ∧ ed es k = e := by
  obtain ⟨k, hk, rfl⟩ := List.getElem_of_mem h
  exact ⟨k, hk, by unfold ed; simp [List.getD, hk]⟩
theorem inR_bad (N : Int) (es : List (Int × Int)) (k : Nat) (h : k < es.length) (h0 : okE N (ed es k) = false) : inR N es = false := by
  unfold inR
  rw [Bool.and_eq_false_iff]
  right
  rw [List.all_eq_false]
  exact ⟨_, ed_mem es k h, by simp [h0]⟩
theorem inR_yes (N : Int) (es : List (Int × Int)) (h0 : okN200 N = true) (h : ∀ k, k < es.length → okE N (ed es k) = true) : inR N es = true := by
  unfold inR
  rw [h0, Bool.true_and, List.all_eq_true]
  intro e he
  obtain ⟨k, hk, rfl⟩ := mem_ed he
  exact h k hk

/-- block B holds a graph -/
structure GBox (w : World) (B : Nat) (N : Int) (A : Option Addr) (l c : Nat) : Prop where
  n : w.cell? ⟨B, 0, none⟩ = some (.int .i64 N)
  e : w.cell? ⟨B, 1, none⟩ = some (.slice A l c)
theorem GBox.new (w : World) (N : Int) (A : Option Addr) (l c : Nat) (t : TypeId) : GBox (w.alloc (.cells #[.int .i64 N, .slice A l c] t)) w.heap.size N A l c := by
  have h := World.alloc_heap_new w (.cells #[.int .i64 N, .slice A l c] t)
  constructor <;> simp only [World.cell?, h] <;> rfl
theorem GBox.below {w w' : World} {B m : Nat} {N : Int} {A : Option Addr} {l c : Nat} (h : GBox w B N A l c) (hb : Below m w w') (hm : B < m) : GBox w' B N A l c :=
  ⟨(hb.cell (p := ⟨B, 0, none⟩) hm).trans h.n, (hb.cell (p := ⟨B, 1, none⟩) hm).trans h.e⟩

/-- block B holds an edge -/
structure EBox (w : World) (B : Nat) (x y : Int) : Prop where
  x : w.cell? ⟨B, 0, none⟩ = some (.int .i64 x)
  y : w.cell? ⟨B, 1, none⟩ = some (.int .i64 y)
theorem EBox.new (w : World) (x y : Int) (t : TypeId) : EBox (w.alloc (.cells #[.int .i64 x, .int .i64 y] t)) w.heap.size x y := by
  have h := World.alloc_heap_new w (.cells #[.int .i64 x, .int .i64 y] t)
  constructor <;> simp only [World.cell?, h] <;> rfl
theorem EBox.below {w w' : World} {B m : Nat} {x y : Int} (h : EBox w B x y) (hb : Below m w w') (hm : B < m) : EBox w' B x y :=
  ⟨(hb.cell (p := ⟨B, 0, none⟩) hm).trans h.x, (hb.cell (p := ⟨B, 1, none⟩) hm).trans h.y⟩

theorem inRange_any (A : Option Addr) (c : Nat) (N : Int) (es : List (Int × Int)) (w : World) (he : RdE w w.heap.size A es) :
    Calls Tryd.prog 34 #[.agg #[.int .i64 N, .slice A es.length c]] w fun e w' => e = .returned (.bool (inR N es)) ∧ Below w.heap.size w w' := by
  have hroom := he.room
  by_cases hN : 0 ≤ N ∧ N ≤ 200
  · obtain ⟨hN0, hN1⟩ := hN
    have hok : okN200 N = true := by unfold okN200; simp [hN0, hN1]
    go_enter Tryd.func34, Tryd.ntmps34
    go_wp2
    have hG := GBox.new w N A es.length c 24
    obtain ⟨w1, hw1⟩ : ∃ w1, w1 = w.alloc (.cells #[.int .i64 N, .slice A es.length c] 24) := ⟨_, rfl⟩
    have hb1 : Below w.heap.size w w1 := by rw [hw1]; exact (Below.refl _ _).alloc (Nat.le_refl _) _
    have hs1 : w.heap.size < w1.heap.size := by rw [hw1]; simp
    rw [← hw1] at hG ⊢
    have he1 : RdE w1 w1.heap.size A es := he.step hb1
    obtain ⟨B, hB⟩ : ∃ B, B = w.heap.size := ⟨_, rfl⟩
    rw [← hB] at hG hs1 ⊢
    clear hw1 he
    have HOK := Lib.hid hok
    clear hok hB
    go_loopw [16] (fun i wr => ∃ k : Nat, k ≤ es.length ∧ i = .int .i64 k ∧ Hid (∀ j, j < k → okE N (ed es j) = true) ∧ Below w1.heap.size w1 wr) (fun i _ => es.length - (intOf i).toNat)
    case atStart => exact ⟨0, Nat.zero_le _, rfl, fun j hj => by omega, Below.refl _ _⟩
    case round =>
      obtain ⟨k, hk, rfl, hall, hbr⟩ := hrel
      by_cases hlt : k < es.length
      · obtain ⟨b, off, rfl, hb, hc⟩ := he1.rd (by omega)
        have hGr := hG.below hbr hs1
        have hgn := hGr.n
        have hge := hGr.e
        have hc1 := (hbr.cell (p := ⟨b, off + k * 2, none⟩) hb).trans (hc k hlt).1
        have hc2 := (hbr.cell (p := ⟨b, off + k * 2 + 1, none⟩) hb).trans (hc k hlt).2
        clear hc hGr
        have hBw : B < wr.heap.size := Nat.lt_of_lt_of_le hs1 hbr.size
        go_wp2_with fail
        have hE := EBox.new wr (ed es k).1 (ed es k).2 36
        obtain ⟨w2, hw2⟩ : ∃ w2, w2 = wr.alloc (.cells #[.int .i64 (ed es k).1, .int .i64 (ed es k).2] 36) := ⟨_, rfl⟩
        have hb2 : Below w1.heap.size w1 w2 := by rw [hw2]; exact hbr.alloc hbr.size _
        have hs2 : wr.heap.size < w2.heap.size := by rw [hw2]; simp
        rw [← hw2] at hE ⊢
        clear hw2 hgn hge hc1 hc2
        refine (isNode_any _ _ _ _ _ _).mono ?_
        rintro e w3 ⟨rfl, hb3⟩
        have hG3 := (hG.below hb2 hs1).below hb3 (by omega)
        have hE3 := hE.below hb3 hs2
        have hB3 : Below w1.heap.size w1 w3 := hb2.trans (hb3.mono hb2.size)
        clear hb3 hE hb2
        have hgn := hG3.n
        have hge := hG3.e
        have hex := hE3.x
        have hey := hE3.y
        cases h1 : nodeB N (ed es k).1 with
        | false =>
          have hbad := inR_bad N es k hlt (by unfold okE; rw [h1]; rfl)
          have HB := Lib.hid hbad
          clear hbad
          go_wp2
          go_ret
          exact ⟨ret_b HB.out.symm, hb1.trans (hB3.mono hb1.size)⟩
        | true =>
          go_wp2_with fail
          refine (isNode_any _ _ _ _ _ _).mono ?_
          rintro e w4 ⟨rfl, hb4⟩
          have hB4 : Below w1.heap.size w1 w4 := hB3.trans (hb4.mono hB3.size)
          clear hb4 hgn hge hex hey
          cases h2 : nodeB N (ed es k).2 with
          | false =>
            have hbad := inR_bad N es k hlt (by unfold okE; rw [h1, h2]; rfl)
            have HB := Lib.hid hbad
            clear hbad
            go_wp2
            go_ret
            exact ⟨ret_b HB.out.symm, hb1.trans (hB4.mono hb1.size)⟩
          | true =>
            have HY : Hid (okE N (ed es k) = true) := Lib.hid (by unfold okE; rw [h1, h2]; rfl)
            clear h1 h2
            go_wp2
            go_roundw
            case rel => exact ⟨k + 1, by omega, by go_num, fun j hj => by
              rcases Nat.lt_succ_iff_lt_or_eq.1 hj with h | h
              · exact hall.out j h
              · subst h; exact HY.out, hB4⟩
            case measure => simp [intOf]; omega
      · go_wp2
        go_ret
        exact ⟨ret_b (by symm; exact inR_yes N es HOK.out fun j hj => hall.out j (by omega)), hb1.trans (hbr.mono hb1.size)⟩
  · have hno := inR_no N es (by unfold okN200; simp; omega)
    rw [hno]
    clear hno
    have h3 : N < 0 ∨ 0 ≤ N ∧ 200 < N := by omega
    rcases h3 with h | ⟨h, h'⟩
    · go_enter Tryd.func34, Tryd.ntmps34
      go_wp2
      go_ret
      exact ⟨rfl, (Below.refl _ _).alloc (Nat.le_refl _) _⟩
    · go_enter Tryd.func34, Tryd.ntmps34
      go_wp2
      go_ret
      exact ⟨rfl, (Below.refl _ _).alloc (Nat.le_refl _) _⟩
end Go.Proofs.YtipihchlhkjdjaaDoor
