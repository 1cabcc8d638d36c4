/-
  A loop over an iterator that keeps memory of its own between two rounds: the loop's body owns a set of blocks, the iterator turns none of these, and the body turns none but these and new ones. The contract of such an iterator, and the law of the loop over it. No condition.
-/
import Derived.RangeFuncBox
import Derived.RangeFuncBound
import Derived.RangeFuncCalls
import Derived.RangeFuncLeaves
import Derived.Deep.Draws
namespace Go.Proofs.YtfekcbkafiiieaaDoor
open Go.RowKit

/-- every block of W that p names lies in W' as it lay; nothing has gone -/
structure Keeps (p : Nat → Prop) (W W' : World) : Prop where
  os : W'.os = W.os
  tape : W'.tape = W.tape
  output : W'.output = W.output
  size : W.heap.size ≤ W'.heap.size
  block : ∀ k, k < W.heap.size → p k → W'.heap[k]? = W.heap[k]?

theorem Keeps.refl (p : Nat → Prop) (W : World) : Keeps p W W := ⟨rfl, rfl, rfl, Nat.le_refl _, fun _ _ _ => rfl⟩
theorem Keeps.trans {p : Nat → Prop} {A B C : World} (h : Keeps p A B) (k : Keeps p B C) : Keeps p A C :=
  ⟨k.os.trans h.os, k.tape.trans h.tape, k.output.trans h.output, Nat.le_trans h.size k.size, fun i hi hp => (k.block i (Nat.lt_of_lt_of_le hi h.size) hp).trans (h.block i hi hp)⟩
theorem Keeps.mono {p q : Nat → Prop} {A B : World} (h : Keeps p A B) (hq : ∀ k, k < A.heap.size → q k → p k) : Keeps q A B := ⟨h.os, h.tape, h.output, h.size, fun k hk hp => h.block k hk (hq k hk hp)⟩
theorem Keeps.grown {p : Nat → Prop} {A B C : World} {row : Option Nat} (h : Keeps p A B) (hg : B.grownBy C row) (hr : ∀ r, row = some r → r < A.heap.size → ¬ p r) : Keeps p A C :=
  ⟨hg.os.trans h.os, hg.tape.trans h.tape, hg.output.trans h.output, Nat.le_trans h.size hg.size, fun k hk hp => (hg.block k (Nat.lt_of_lt_of_le hk h.size) (fun e => hr k e.symm hk hp)).trans (h.block k hk hp)⟩
theorem Keeps.alloc {p : Nat → Prop} {A B : World} (h : Keeps p A B) (o : Obj) : Keeps p A (B.alloc o) := h.grown (World.grownBy_alloc B o none) (fun _ e => by cases e)
theorem Keeps.setCell {p : Nat → Prop} {A B : World} (h : Keeps p A B) {q : Addr} (hq : q.block < A.heap.size → ¬ p q.block) (v : Value) : Keeps p A (B.setCell q v) :=
  ⟨h.os, h.tape, h.output, Nat.le_trans h.size (KeepsWalks.setCell B q v).size, fun k hk hp => (Below.heap_setCell B q v k (fun e => hq (e ▸ hk) (e ▸ hp))).trans (h.block k hk hp)⟩
theorem Keeps.putObj {p : Nat → Prop} {A B : World} (h : Keeps p A B) {l : Nat} (hl : l < A.heap.size → ¬ p l) (o : Obj) : Keeps p A (B.putObj l o) :=
  h.grown (grownBy_putObj' B l o) (fun r e hr => by cases e; exact hl hr)
theorem Keeps.drew {p : Nat → Prop} {A B : World} (h : Keeps p A B) : Keeps p A B.drew := ⟨h.os, h.tape, h.output, h.size, h.block⟩
theorem Keeps.drewN {p : Nat → Prop} {A B : World} (h : Keeps p A B) (n : Nat) : Keeps p A (B.drewN n) := ⟨h.os, h.tape, h.output, h.size, h.block⟩
theorem Keeps.of_below {p : Nat → Prop} {A B : World} {n : Nat} (h : Below n A B) (hp : ∀ k, k < A.heap.size → p k → k < n) : Keeps p A B := ⟨h.os, h.tape, h.output, h.size, fun k hk hpk => h.block k (hp k hk hpk)⟩
theorem Keeps.below {p : Nat → Prop} {A B : World} (h : Keeps p A B) {n : Nat} (hn : n ≤ A.heap.size) (hp : ∀ k, k < n → p k) : Below n A B := ⟨h.os, h.tape, h.output, h.size, fun k hk => h.block k (by omega) (hp k hk)⟩

theorem Keeps.cell {p : Nat → Prop} {A B : World} (hk : Keeps p A B) {q : Addr} (hq : q.block < A.heap.size) (hp : p q.block) (h0 : q.spot = none) : B.cell? q = A.cell? q := by
  obtain ⟨b, o, s⟩ := q
  subst h0
  simp only [World.cell?]
  rw [hk.block b hq hp]

/-- the body's step: it turns blocks of O and new ones alone; what it owns behind it, it owned, or it is new -/
structure StepO (O O' : Nat → Prop) (W W' : World) : Prop where
  keeps : Keeps (fun k => ¬ O k) W W'
  own : ∀ k, O' k → O k ∨ W.heap.size ≤ k
  top : ∀ k, O' k → k < W'.heap.size
theorem StepO.refl {O : Nat → Prop} {W : World} (h : ∀ k, O k → k < W.heap.size) : StepO O O W W := ⟨Keeps.refl _ W, fun _ h => .inl h, h⟩
theorem StepO.trans {O O' O'' : Nat → Prop} {A B C : World} (h : StepO O O' A B) (k : StepO O' O'' B C) : StepO O O'' A C := by
  refine ⟨⟨k.keeps.os.trans h.keeps.os, k.keeps.tape.trans h.keeps.tape, k.keeps.output.trans h.keeps.output, Nat.le_trans h.keeps.size k.keeps.size, fun i hi hp => ?_⟩, fun i hi => ?_, k.top⟩
  · refine (k.keeps.block i (Nat.lt_of_lt_of_le hi h.keeps.size) (fun ho => ?_)).trans (h.keeps.block i hi hp)
    rcases h.own i ho with h1 | h1
    · exact hp h1
    · omega
  · rcases k.own i hi with h1 | h1
    · exact h.own i h1
    · exact .inr (Nat.le_trans h.keeps.size h1)
theorem StepO.not {O O' : Nat → Prop} {W W' : World} (h : StepO O O' W W') {k : Nat} (hk : k < W.heap.size) (ho : ¬ O k) : ¬ O' k := fun h' => by
  rcases h.own k h' with h1 | h1
  · exact ho h1
  · omega

/-- what is said of blocks below B and of owned ones alone -/
def Stable {β : Type} (B : Nat) (I : β → (Nat → Prop) → World → Prop) : Prop := ∀ s O W W', I s O W → Keeps (fun k => k < B ∨ O k) W W' → I s O W'

/-- THE CONTRACT OF AN ITERATOR VALUE, made in w: it reads the blocks that Fp names. -/
def SeqO {α : Type} (F : Fence) (n : Nat) (P : Program) (g : Nat) (lb : Array Value) (encs : α → Array Value) (Fp : Nat → Prop) (S Sp : List α → Prop) (Nx : List α → α → Prop) (w : World) : Prop :=
  ∀ (l : Nat) (J Jx : List α → (Nat → Prop) → World → Prop) (O : Nat → Prop) (W : World), Keeps Fp w W → (∀ k, O k → k < W.heap.size ∧ ¬ Fp k) → Stable W.heap.size J → Stable W.heap.size Jx →
    (∀ pre x O1 W1, J pre O1 W1 → Nx pre x → YieldAt F (n - 1) P l (encs x) W1 fun e W' => ∃ O2, StepO O1 O2 W1 W' ∧
      ((e = .returned (.bool true) ∧ J (pre ++ [x]) O2 W') ∨ (e = .returned (.bool false) ∧ Jx (pre ++ [x]) O2 W'))) →
    J [] O W →
    CallsIn F n P g (#[.func (.yield l) #[] #[]] ++ lb) W fun e W' => (∃ v, e = .returned v) ∧ ((∃ xs O2, S xs ∧ J xs O2 W') ∨ (∃ pre O2, Sp pre ∧ Jx pre O2 W'))

/-- how the body of a round may be left -/
def postO {α : Type} (I : List α → (Nat → Prop) → World → Prop) (Ix : Code → List α → (Nat → Prop) → World → Prop) (xs : List α) (O : Nat → Prop) (W : World) : Exit → Act → World → Prop
  | .normal, _, W' => ∃ O', StepO O O' W W' ∧ I xs O' W'
  | .ret, _, W' => ∃ O', StepO O O' W W' ∧ Ix .ret xs O' W'
  | .exit id, _, W' => ∃ O', StepO O O' W W' ∧ Ix (.exit id) xs O' W'
  | .goto t, _, W' => ∃ O', StepO O O' W W' ∧ Ix (.goto t) xs O' W'
  | .panic _, _, _ => False
  | .outgrown, _, _ => False

variable {F : Fence} {n : Nat} {P : Program}

/-- THE LAW OF THE LOOP. -/
theorem wpIn_rangeFunc_O {α : Type} {g : Operand} {ps : Array Tmp} {assign body : Code} {Q : Exit → Act → World → Prop} {a : Act} {w : World}
    (hro : F.round = none) (h1 : 1 ≤ n) {gf : Nat} {lb : Array Value} (hg : a.eval g = .func (.func gf) #[] lb) (hFg : F.fn gf) (eg : ∀ args w, (callFunc gf args).run P w = .ok (.enter gf args) w)
    {encs : α → Array Value} {Fp : Nat → Prop} {S Sp : List α → Prop} {Nx : List α → α → Prop} {w0 : World} (hseq : SeqO F (n - 1) P gf lb encs Fp S Sp Nx w0) (hk0 : Keeps Fp w0 w) (hps : ∀ x, (encs x).size = ps.size)
    (I : List α → (Nat → Prop) → World → Prop) (Ix : Code → List α → (Nat → Prop) → World → Prop) (hI : Stable w.heap.size I) (hIx : ∀ c, Stable w.heap.size (Ix c))
    (O : Nat → Prop) (hO : ∀ k, O k → k < w.heap.size ∧ ¬ Fp k) (hFp : ∀ k, Fp k → k < w.heap.size) (h0 : I [] O w)
    (Ax : List α → α → Act → (Nat → Prop) → World → Prop) (hAx : ∀ pre x a', Stable w.heap.size (fun (_ : Unit) O W => Ax pre x a' O W))
    (hassign : ∀ (l : Nat) (pre : List α) (x : α) (O : Nat → Prop) (W : World) (K : Act → World → Prop), I pre O W → Nx pre x → w.heap.size ≤ W.heap.size → (∀ k, O k → k < W.heap.size) →
      (∀ a' O' W', StepO O O' W W' → Ax pre x a' O' W' → K a' W') →
      assign.wpIn (F.inRound l) (n - 1 - 1) P (Exit.then K (fun _ _ _ => False)) { tmps := (ps.zip (encs x)).foldl (fun t (p, v) => t.setIfInBounds p v) a.tmps, defers := [] } W)
    (hbody : ∀ (l : Nat) (pre : List α) (x : α) (a' : Act) (O : Nat → Prop) (W : World), Ax pre x a' O W → Nx pre x → w.heap.size ≤ W.heap.size → (∀ k, O k → k < W.heap.size) → body.wpIn (F.inRound l) (n - 1 - 1) P (postO I Ix (pre ++ [x]) O W) a' W)
    (hdone : ∀ (D : Nat) (O : Nat → Prop) (xs : List α) (W : World), w.heap.size ≤ D → ¬ O D → S xs → I xs O W → W.heap[D]? = some (.deferred (some [])) → Q .normal { a with defers := { target := .collected D, args := #[] } :: a.defers } W)
    (hstop : ∀ (D : Nat) (c : Code) (O : Nat → Prop) (pre : List α) (W : World), w.heap.size ≤ D → ¬ O D → Sp pre → Ix c pre O W → W.heap[D]? = some (.deferred (some [])) → c.wpIn F n P Q { a with defers := { target := .collected D, args := #[] } :: a.defers } W) :
    (Code.rangeFunc g ps assign body).wpIn F n P Q a w := by
  refine wpIn_rangeFunc ?_
  intro fn hfn
  rw [hro]
  obtain ⟨d, hd⟩ : ∃ d, d = w.heap.size := ⟨_, rfl⟩
  obtain ⟨rec, hrec⟩ : ∃ rec : LoopState → Option Code → Loop, rec = fun st pe => { state := st, pending := pe, fn, tmps := a.tmps, params := ps, assign, body, defers := w.heap.size } := ⟨_, rfl⟩
  obtain ⟨W1, hW1⟩ : ∃ W1, (w.alloc (.deferred (some []))).alloc (.loop (rec .ready none)) = W1 := ⟨_, rfl⟩
  have hL1 : W1.heap[d + 1]? = some (.loop (rec .ready none)) := by
    rw [← hW1, hd]; have := World.alloc_heap_new (w.alloc (.deferred (some []))) (.loop (rec .ready none)); rwa [World.size_alloc] at this
  have hK1 : W1.heap[d]? = some (.deferred (some [])) := by
    rw [← hW1, hd]; exact (Below.heap_alloc _ _ _ (by simp)).trans (World.alloc_heap_new w _)
  have hsz1 : W1.heap.size = d + 2 := by rw [← hW1, hd]; simp
  have hkp : ∀ p : Nat → Prop, Keeps p w W1 := fun p => by rw [← hW1]; exact ((Keeps.refl p w).alloc _).alloc _
  have hI1 : I [] O W1 := hI _ _ _ _ h0 (hkp _)
  have hB1 : w.heap.size ≤ W1.heap.size := (hkp (fun _ => True)).size
  -- the two blocks of book-keeping
  have hstab : ∀ {β : Type} {I' : β → (Nat → Prop) → World → Prop} (s : β) (O1 : Nat → Prop) (W W' : World) (o : Obj), Stable w.heap.size I' → ¬ O1 (d + 1) → I' s O1 W → W' = W.putObj (d + 1) o → I' s O1 W' := fun s O1 W W' o hst hno hi he => by
    rw [he]
    refine hst s O1 W _ hi ((Keeps.refl _ W).putObj (fun _ hp => ?_) o)
    rcases hp with hp | hp
    · omega
    · exact hno hp
  refine ⟨d + 1, [{ target := .collected d, args := #[] }], W1, { target := .fn (.func gf) lb, args := #[.func (.yield (d + 1)) #[] #[]] }, W1, gf,
    #[.func (.yield (d + 1)) #[] #[]] ++ lb, W1, ?_, ?_, ?_, ?_, fun _ => h1, ?_⟩
  · rw [← hW1, hrec, hd]; exact run_enterLoop_outer _ _ _ _ _
  · simp only [resolve, hg]
    simp [go_sem]
  · intro f' hf'; simp [Target.leads] at hf'; subst hf'; exact hFg
  · simp [invoke, go_sem, eg]
  · refine (hseq (d + 1)
      (fun pre O2 W => ∃ Oc, (∀ k, O2 k ↔ Oc k ∨ k = d ∨ k = d + 1) ∧ ¬ Oc d ∧ ¬ Oc (d + 1) ∧ (∀ k, Oc k → k < W.heap.size) ∧ I pre Oc W ∧ d + 2 ≤ W.heap.size ∧ W.heap[d + 1]? = some (.loop (rec .ready none)) ∧ W.heap[d]? = some (.deferred (some [])))
      (fun pre O2 W => ∃ Oc c, (∀ k, O2 k ↔ Oc k ∨ k = d ∨ k = d + 1) ∧ ¬ Oc d ∧ ¬ Oc (d + 1) ∧ Ix c pre Oc W ∧ d + 2 ≤ W.heap.size ∧ W.heap[d + 1]? = some (.loop (rec .done (some c))) ∧ W.heap[d]? = some (.deferred (some [])))
      (fun k => O k ∨ k = d ∨ k = d + 1) W1 (hk0.trans (hkp _)) (fun k hk => ?_) ?_ ?_ ?_ ?_).mono ?_
    · rcases hk with hk | hk | hk
      · exact ⟨by have := (hO k hk).1; omega, (hO k hk).2⟩
      · exact ⟨by omega, fun h => by have := hFp k h; omega⟩
      · exact ⟨by omega, fun h => by have := hFp k h; omega⟩
    · rintro s O2 A B ⟨Oc, ho, hn1, hn2, ht, hi, hs, hl, hk⟩ hkk
      refine ⟨Oc, ho, hn1, hn2, fun k hk => Nat.lt_of_lt_of_le (ht k hk) hkk.size, hI _ _ _ _ hi (hkk.mono fun k _ hp => ?_), Nat.le_trans hs hkk.size, (hkk.block _ (by omega) (.inr ((ho _).2 (.inr (.inr rfl))))).trans hl, (hkk.block _ (by omega) (.inr ((ho _).2 (.inr (.inl rfl))))).trans hk⟩
      rcases hp with hp | hp
      · exact .inl (Nat.lt_of_lt_of_le hp hB1)
      · exact .inr ((ho _).2 (.inl hp))
    · rintro s O2 A B ⟨Oc, c, ho, hn1, hn2, hi, hs, hl, hk⟩ hkk
      refine ⟨Oc, c, ho, hn1, hn2, hIx c _ _ _ _ hi (hkk.mono fun k _ hp => ?_), Nat.le_trans hs hkk.size, (hkk.block _ (by omega) (.inr ((ho _).2 (.inr (.inr rfl))))).trans hl, (hkk.block _ (by omega) (.inr ((ho _).2 (.inr (.inl rfl))))).trans hk⟩
      rcases hp with hp | hp
      · exact .inl (Nat.lt_of_lt_of_le hp hB1)
      · exact .inr ((ho _).2 (.inl hp))
    · -- one round
      rintro pre x O2 W ⟨Oc, ho, hn1, hn2, ht, hi, hs, hl, hk⟩ hlen
      have hy := run_yield (P := P) (args := encs x) hl (by rw [hrec]; exact hps x)
      rw [hrec] at hy
      refine ⟨fn, _, assign, body, hy, roundIn_of_wpIn hfn (hassign _ pre x Oc W _ hi hlen (by omega) ht ?_)⟩
      clear hy
      intro a' Oa Wa hsa hax
      have hla : Wa.heap[d + 1]? = some (.loop (rec .ready none)) := (hsa.keeps.block _ (by omega) hn2).trans hl
      have hka : Wa.heap[d]? = some (.deferred (some [])) := (hsa.keeps.block _ (by omega) hn1).trans hk
      have hna1 := hsa.not (by omega) hn1
      have hna2 := hsa.not (by omega) hn2
      have hsza := hsa.keeps.size
      refine ⟨_, run_beginRound hla (by rw [hrec]), ?_⟩
      obtain ⟨Wb, hWb⟩ : ∃ Wb, Wb = Wa.putObj (d + 1) (.loop { rec .ready none with state := .busy }) := ⟨_, rfl⟩
      have hlb : Wb.heap[d + 1]? = some (.loop { rec .ready none with state := .busy }) := by rw [hWb]; exact World.putObj_heap_same (by omega)
      have hkb : Wb.heap[d]? = some (.deferred (some [])) := by rw [hWb]; exact (World.putObj_heap_other (by omega)).trans hka
      have hszb : Wb.heap.size = Wa.heap.size := by rw [hWb]; simp
      have haxb : Ax pre x a' Oa Wb := hstab () Oa Wa Wb _ (hAx pre x a') hna2 hax hWb
      have hsb : StepO O2 (fun k => Oa k ∨ k = d ∨ k = d + 1) W Wb := by
        refine ⟨?_, fun k hk' => ?_, fun k hk' => ?_⟩
        · rw [hWb]
          refine (hsa.keeps.mono fun k _ hp => fun hoc => hp ((ho k).2 (.inl hoc))).putObj (fun _ hp => hp ((ho _).2 (.inr (.inr rfl)))) _
        · rcases hk' with hk' | hk'
          · rcases hsa.own k hk' with h | h
            · exact .inl ((ho k).2 (.inl h))
            · exact .inr h
          · exact .inl ((ho k).2 (.inr hk'))
        · rcases hk' with hk' | hk' | hk'
          · have := hsa.top k hk'; omega
          · omega
          · omega
      have hbo := hbody (d + 1) pre x a' Oa Wb haxb hlen (by omega) (fun k hk' => by rw [hszb]; exact hsa.top k hk')
      rw [hWb] at hbo
      refine wpIn_mono hbo ?_
      rw [← hWb]
      have fin : ∀ (jump : Option Code) (O3 : Nat → Prop) (W3 : World), StepO Oa O3 Wb W3 →
          (Instr.endRound (d + 1) jump).run P W3 = .ok (.bool jump.isNone) (W3.putObj (d + 1) (.loop (rec (if jump.isNone then .ready else .done) jump))) ∧
          StepO O2 (fun k => O3 k ∨ k = d ∨ k = d + 1) W (W3.putObj (d + 1) (.loop (rec (if jump.isNone then .ready else .done) jump))) ∧ ¬ O3 d ∧ ¬ O3 (d + 1) ∧
          d + 2 ≤ (W3.putObj (d + 1) (.loop (rec (if jump.isNone then .ready else .done) jump))).heap.size ∧
          (W3.putObj (d + 1) (.loop (rec (if jump.isNone then .ready else .done) jump))).heap[d + 1]? = some (.loop (rec (if jump.isNone then .ready else .done) jump)) ∧
          (W3.putObj (d + 1) (.loop (rec (if jump.isNone then .ready else .done) jump))).heap[d]? = some (.deferred (some [])) := fun jump O3 W3 hs3 => by
        have hl3 := (hs3.keeps.block _ (by omega) hna2).trans hlb
        have hk3 := (hs3.keeps.block _ (by omega) hna1).trans hkb
        have hz3 := hs3.keeps.size
        have hr := run_endRound (P := P) jump hl3
        rw [hrec] at hr ⊢
        refine ⟨hr, ?_, hs3.not (by omega) hna1, hs3.not (by omega) hna2, by simp; omega, World.putObj_heap_same (by omega), (World.putObj_heap_other (by omega)).trans hk3⟩
        refine hsb.trans ⟨?_, fun k hk' => ?_, fun k hk' => ?_⟩
        · refine (hs3.keeps.mono fun k _ hp => fun hoc => hp (.inl hoc)).putObj (fun _ hp => hp (.inr (.inr rfl))) _
        · rcases hk' with hk' | hk'
          · rcases hs3.own k hk' with h | h
            · exact .inl (.inl h)
            · exact .inr h
          · exact .inl (.inr hk')
        · have h9 : ∀ o : Obj, (W3.putObj (d + 1) o).heap.size = W3.heap.size := fun o => by simp
          rw [h9]
          rcases hk' with hk' | hk' | hk'
          · exact hs3.top k hk'
          · omega
          · omega
      rintro e a3 W3 hp
      cases e with
      | normal =>
        obtain ⟨O3, hs3, hi3⟩ := hp
        obtain ⟨hr, h2, h3, h4, h5, h6, h7⟩ := fin none O3 W3 hs3
        exact ⟨_, _, hr, _, h2, .inl ⟨rfl, O3, fun _ => Iff.rfl, h3, h4, fun k hk' => h2.top k (.inl hk'), hstab _ O3 W3 _ _ hI h4 hi3 rfl, h5, h6, h7⟩⟩
      | ret =>
        obtain ⟨O3, hs3, hi3⟩ := hp
        obtain ⟨hr, h2, h3, h4, h5, h6, h7⟩ := fin (some .ret) O3 W3 hs3
        exact ⟨_, _, hr, _, h2, .inr ⟨rfl, O3, .ret, fun _ => Iff.rfl, h3, h4, hstab _ O3 W3 _ _ (hIx _) h4 hi3 rfl, h5, h6, h7⟩⟩
      | exit id =>
        obtain ⟨O3, hs3, hi3⟩ := hp
        obtain ⟨hr, h2, h3, h4, h5, h6, h7⟩ := fin (some (.exit id)) O3 W3 hs3
        exact ⟨_, _, hr, _, h2, .inr ⟨rfl, O3, .exit id, fun _ => Iff.rfl, h3, h4, hstab _ O3 W3 _ _ (hIx _) h4 hi3 rfl, h5, h6, h7⟩⟩
      | goto t =>
        obtain ⟨O3, hs3, hi3⟩ := hp
        obtain ⟨hr, h2, h3, h4, h5, h6, h7⟩ := fin (some (.goto t)) O3 W3 hs3
        exact ⟨_, _, hr, _, h2, .inr ⟨rfl, O3, .goto t, fun _ => Iff.rfl, h3, h4, hstab _ O3 W3 _ _ (hIx _) h4 hi3 rfl, h5, h6, h7⟩⟩
      | panic ch => exact hp.elim
      | outgrown => exact hp.elim
    · exact ⟨O, fun _ => Iff.rfl, fun h => by have := (hO _ h).1; omega, fun h => by have := (hO _ h).1; omega, fun k hk' => Nat.lt_of_lt_of_le (hO k hk').1 hB1, hI1, by omega, hL1, hK1⟩
    · -- behind the iterator
      rintro e W2 ⟨⟨v, rfl⟩, (⟨xs, O2, hS, Oc, ho, hn1, hn2, _, hi, hs, hl, hk⟩ | ⟨pre, O2, hSp, Oc, c, ho, hn1, hn2, hi, hs, hl, hk⟩)⟩
      · exact ⟨none, _, by have := run_endLoop (P := P) hl (by rw [hrec]; simp); rw [hrec] at this; exact this, hdone d Oc xs _ (by omega) hn1 hS (hstab _ Oc W2 _ _ hI hn2 hi rfl) ((World.putObj_heap_other (by omega)).trans hk)⟩
      · exact ⟨some c, _, by have := run_endLoop (P := P) hl (by rw [hrec]; simp); rw [hrec] at this; exact this, hstop d c Oc pre _ (by omega) hn1 hSp (hstab _ Oc W2 _ _ (hIx c) hn2 hi rfl) ((World.putObj_heap_other (by omega)).trans hk)⟩
end Go.Proofs.YtfekcbkafiiieaaDoor
