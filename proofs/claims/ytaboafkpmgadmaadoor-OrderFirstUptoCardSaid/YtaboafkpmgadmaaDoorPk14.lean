/-
  A loop over an iterator that reads what the loop's body owns and turns: the contract of such an iterator, the law of the loop over it, and slices.Backward's. No condition.
  Contract of order.Chain.
  Contracts of slices.Contains at an edge that is none, and of the reference's CChain.
  Contract of order.Chain, whole; the law OrderLevels.
  OrderApart: a list's set has as many members as the list numbers if none comes twice; when all of a list are apart. Plain lemmas.
  Contracts of order.Apart and its closures, of slices.ContainsFunc at them.
-/
import Derived.Test.YtaboafkpmgadmaaDoorPk07
import Derived.Test.YtaboafkpmgadmaaDoorPk12
import Derived.Laws.AppendOwnNone
import Derived.Deep.CutRange
import Derived.Lib.SliceRun
import Derived.Test.YtaboafkpmgadmaaDoorPk09
namespace Go.Proofs.YtaboafkpmgadmaaDoor
open Go.RowKit
variable {F : Fence} {n : Nat} {P : Program}

/-- The same of an iterator that besides reads what the body's condition says of each world (C). -/
def SeqC {α : Type} (F : Fence) (n : Nat) (P : Program) (g : Nat) (lb : Array Value) (encs : α → Array Value) (Fp : Nat → Prop) (S Sp : List α → Prop) (Nx : List α → α → Prop) (C : List α → World → Prop) (w : World) : Prop :=
  ∀ (l : Nat) (J Jx : List α → (Nat → Prop) → World → Prop) (O : Nat → Prop) (W : World), Keeps Fp w W → (∀ k, O k → k < W.heap.size ∧ ¬ Fp k) → Stable W.heap.size J → Stable W.heap.size Jx → (∀ pre O1 W1, J pre O1 W1 → C pre W1) →
    (∀ pre x O1 W1, J pre O1 W1 → Nx pre x → YieldAt F (n - 1) P l (encs x) W1 fun e W' => ∃ O2, StepO O1 O2 W1 W' ∧
      ((e = .returned (.bool true) ∧ J (pre ++ [x]) O2 W') ∨ (e = .returned (.bool false) ∧ Jx (pre ++ [x]) O2 W'))) →
    J [] O W →
    CallsIn F n P g (#[.func (.yield l) #[] #[]] ++ lb) W fun e W' => (∃ v, e = .returned v) ∧ ((∃ xs O2, S xs ∧ J xs O2 W') ∨ (∃ pre O2, Sp pre ∧ Jx pre O2 W'))

/-- THE LAW OF THE LOOP. -/
theorem wpIn_rangeFunc_C {α : Type} {g : Operand} {ps : Array Tmp} {assign body : Code} {Q : Exit → Act → World → Prop} {a : Act} {w : World}
    (hro : F.round = none) (h1 : 1 ≤ n) {gf : Nat} {lb : Array Value} (hg : a.eval g = .func (.func gf) #[] lb) (hFg : F.fn gf) (eg : ∀ args w, (callFunc gf args).run P w = .ok (.enter gf args) w)
    {encs : α → Array Value} {Fp : Nat → Prop} {S Sp : List α → Prop} {Nx : List α → α → Prop} {C : List α → World → Prop} {w0 : World} (hseq : SeqC F (n - 1) P gf lb encs Fp S Sp Nx C w0) (hk0 : Keeps Fp w0 w) (hps : ∀ x, (encs x).size = ps.size)
    (I : List α → (Nat → Prop) → World → Prop) (Ix : Code → List α → (Nat → Prop) → World → Prop) (hC : ∀ pre O W, I pre O W → C pre W) (hI : Stable w.heap.size I) (hIx : ∀ c, Stable w.heap.size (Ix c))
    (O : Nat → Prop) (hO : ∀ k, O k → k < w.heap.size ∧ ¬ Fp k) (hFp : ∀ k, Fp k → k < w.heap.size) (h0 : I [] O w)
    (Ax : List α → α → Act → (Nat → Prop) → World → Prop) (hAx : ∀ pre x a', Stable w.heap.size (fun (_ : Unit) O W => Ax pre x a' O W))
    (hassign : ∀ (l : Nat) (pre : List α) (x : α) (O : Nat → Prop) (W : World) (K : Act → World → Prop), I pre O W → Nx pre x → w.heap.size ≤ W.heap.size → (∀ k, O k → k < W.heap.size) →
      (∀ a' O' W', StepO O O' W W' → Ax pre x a' O' W' → K a' W') →
      assign.wpIn (F.inRound l) (n - 1 - 1) P (Exit.then K (fun _ _ _ => False)) { tmps := (ps.zip (encs x)).foldl (fun t (p, v) => t.setIfInBounds p v) a.tmps, defers := [] } W)
    (hbody : ∀ (l : Nat) (pre : List α) (x : α) (a' : Act) (O : Nat → Prop) (W : World), Ax pre x a' O W → Nx pre x → w.heap.size ≤ W.heap.size → (∀ k, O k → k < W.heap.size) → body.wpIn (F.inRound l) (n - 1 - 1) P (postO I Ix (pre ++ [x]) O W) a' W)
    (hdone : ∀ (D : Nat) (O : Nat → Prop) (xs : List α) (W : World), w.heap.size ≤ D → ¬ O D → S xs → I xs O W → W.heap[D]? = some (.deferred (some [])) → Q .normal { a with defers := { target := .collected D, args := #[] } :: a.defers } W)
    (hstop : ∀ (D : Nat) (c : Code) (O : Nat → Prop) (pre : List α) (W : World), w.heap.size ≤ D → ¬ O D → Sp pre → Ix c pre O W → W.heap[D]? = some (.deferred (some [])) → c.wpIn F n P Q { a with defers := { target := .collected D, args := #[] } :: a.defers } W) :
    (Code.rangeFunc g ps assign body).wpIn F n P Q a w := by
  refine wpIn_rangeFunc ?_
  intro fn hfn
  rw [hro]
  obtain ⟨d, hd⟩ : ∃ d, d = w.heap.size := ⟨_, rfl⟩
  obtain ⟨rec, hrec⟩ : ∃ rec : LoopState → Option Code → Loop, rec = fun st pe => { state := st, pending := pe, fn, tmps := a.tmps, params := ps, assign, body, defers := w.heap.size } := ⟨_, rfl⟩
  obtain ⟨W1, hW1⟩ : ∃ W1, (w.alloc (.deferred (some []))).alloc (.loop (rec .ready none)) = W1 := ⟨_, rfl⟩
  have hL1 : W1.heap[d + 1]? = some (.loop (rec .ready none)) := by
    rw [← hW1, hd]; have := World.alloc_heap_new (w.alloc (.deferred (some []))) (.loop (rec .ready none)); rwa [World.size_alloc] at this
  have hK1 : W1.heap[d]? = some (.deferred (some [])) := by
    rw [← hW1, hd]; exact (Below.heap_alloc _ _ _ (by simp)).trans (World.alloc_heap_new w _)
  have hsz1 : W1.heap.size = d + 2 := by rw [← hW1, hd]; simp
  have hkp : ∀ p : Nat → Prop, Keeps p w W1 := fun p => by rw [← hW1]; exact ((Keeps.refl p w).alloc _).alloc _
  have hI1 : I [] O W1 := hI _ _ _ _ h0 (hkp _)
  have hB1 : w.heap.size ≤ W1.heap.size := (hkp (fun _ => True)).size
  -- the two blocks of book-keeping
  have hstab : ∀ {β : Type} {I' : β → (Nat → Prop) → World → Prop} (s : β) (O1 : Nat → Prop) (W W' : World) (o : Obj), Stable w.heap.size I' → ¬ O1 (d + 1) → I' s O1 W → W' = W.putObj (d + 1) o → I' s O1 W' := fun s O1 W W' o hst hno hi he => by
    rw [he]
    refine hst s O1 W _ hi ((Keeps.refl _ W).putObj (fun _ hp => ?_) o)
    rcases hp with hp | hp
    · omega
    · exact hno hp
  refine ⟨d + 1, [{ target := .collected d, args := #[] }], W1, { target := .fn (.func gf) lb, args := #[.func (.yield (d + 1)) #[] #[]] }, W1, gf,
    #[.func (.yield (d + 1)) #[] #[]] ++ lb, W1, ?_, ?_, ?_, ?_, fun _ => h1, ?_⟩
  · rw [← hW1, hrec, hd]; exact run_enterLoop_outer _ _ _ _ _
  · simp only [resolve, hg]
    simp [go_sem]
  · intro f' hf'; simp [Target.leads] at hf'; subst hf'; exact hFg
  · simp [invoke, go_sem, eg]
  · refine (hseq (d + 1)
      (fun pre O2 W => ∃ Oc, (∀ k, O2 k ↔ Oc k ∨ k = d ∨ k = d + 1) ∧ ¬ Oc d ∧ ¬ Oc (d + 1) ∧ (∀ k, Oc k → k < W.heap.size) ∧ I pre Oc W ∧ d + 2 ≤ W.heap.size ∧ W.heap[d + 1]? = some (.loop (rec .ready none)) ∧ W.heap[d]? = some (.deferred (some [])))
      (fun pre O2 W => ∃ Oc c, (∀ k, O2 k ↔ Oc k ∨ k = d ∨ k = d + 1) ∧ ¬ Oc d ∧ ¬ Oc (d + 1) ∧ Ix c pre Oc W ∧ d + 2 ≤ W.heap.size ∧ W.heap[d + 1]? = some (.loop (rec .done (some c))) ∧ W.heap[d]? = some (.deferred (some [])))
      (fun k => O k ∨ k = d ∨ k = d + 1) W1 (hk0.trans (hkp _)) (fun k hk => ?_) ?_ ?_ ?_ ?_ ?_).mono ?_
    · rcases hk with hk | hk | hk
      · exact ⟨by have := (hO k hk).1; omega, (hO k hk).2⟩
      · exact ⟨by omega, fun h => by have := hFp k h; omega⟩
      · exact ⟨by omega, fun h => by have := hFp k h; omega⟩
    · rintro s O2 A B ⟨Oc, ho, hn1, hn2, ht, hi, hs, hl, hk⟩ hkk
      refine ⟨Oc, ho, hn1, hn2, fun k hk => Nat.lt_of_lt_of_le (ht k hk) hkk.size, hI _ _ _ _ hi (hkk.mono fun k _ hp => ?_), Nat.le_trans hs hkk.size, (hkk.block _ (by omega) (.inr ((ho _).2 (.inr (.inr rfl))))).trans hl, (hkk.block _ (by omega) (.inr ((ho _).2 (.inr (.inl rfl))))).trans hk⟩
      rcases hp with hp | hp
      · exact .inl (Nat.lt_of_lt_of_le hp hB1)
      · exact .inr ((ho _).2 (.inl hp))
    · rintro s O2 A B ⟨Oc, c, ho, hn1, hn2, hi, hs, hl, hk⟩ hkk
      refine ⟨Oc, c, ho, hn1, hn2, hIx c _ _ _ _ hi (hkk.mono fun k _ hp => ?_), Nat.le_trans hs hkk.size, (hkk.block _ (by omega) (.inr ((ho _).2 (.inr (.inr rfl))))).trans hl, (hkk.block _ (by omega) (.inr ((ho _).2 (.inr (.inl rfl))))).trans hk⟩
      rcases hp with hp | hp
      · exact .inl (Nat.lt_of_lt_of_le hp hB1)
      · exact .inr ((ho _).2 (.inl hp))
    · rintro pre O2 W ⟨Oc, _, _, _, _, hi, _⟩
      exact hC _ _ _ hi
    · -- one round
      rintro pre x O2 W ⟨Oc, ho, hn1, hn2, ht, hi, hs, hl, hk⟩ hlen
      have hy := run_yield (P := P) (args := encs x) hl (by rw [hrec]; exact hps x)
      rw [hrec] at hy
      refine ⟨fn, _, assign, body, hy, roundIn_of_wpIn hfn (hassign _ pre x Oc W _ hi hlen (by omega) ht ?_)⟩
      clear hy
      intro a' Oa Wa hsa hax
      have hla : Wa.heap[d + 1]? = some (.loop (rec .ready none)) := (hsa.keeps.block _ (by omega) hn2).trans hl
      have hka : Wa.heap[d]? = some (.deferred (some [])) := (hsa.keeps.block _ (by omega) hn1).trans hk
      have hna1 := hsa.not (by omega) hn1
      have hna2 := hsa.not (by omega) hn2
      have hsza := hsa.keeps.size
      refine ⟨_, run_beginRound hla (by rw [hrec]), ?_⟩
      obtain ⟨Wb, hWb⟩ : ∃ Wb, Wb = Wa.putObj (d + 1) (.loop { rec .ready none with state := .busy }) := ⟨_, rfl⟩
      have hlb : Wb.heap[d + 1]? = some (.loop { rec .ready none with state := .busy }) := by rw [hWb]; exact World.putObj_heap_same (by omega)
      have hkb : Wb.heap[d]? = some (.deferred (some [])) := by rw [hWb]; exact (World.putObj_heap_other (by omega)).trans hka
      have hszb : Wb.heap.size = Wa.heap.size := by rw [hWb]; simp
      have haxb : Ax pre x a' Oa Wb := hstab () Oa Wa Wb _ (hAx pre x a') hna2 hax hWb
      have hsb : StepO O2 (fun k => Oa k ∨ k = d ∨ k = d + 1) W Wb := by
        refine ⟨?_, fun k hk' => ?_, fun k hk' => ?_⟩
        · rw [hWb]
          refine (hsa.keeps.mono fun k _ hp => fun hoc => hp ((ho k).2 (.inl hoc))).putObj (fun _ hp => hp ((ho _).2 (.inr (.inr rfl)))) _
        · rcases hk' with hk' | hk'
          · rcases hsa.own k hk' with h | h
            · exact .inl ((ho k).2 (.inl h))
            · exact .inr h
          · exact .inl ((ho k).2 (.inr hk'))
        · rcases hk' with hk' | hk' | hk'
          · have := hsa.top k hk'; omega
          · omega
          · omega
      have hbo := hbody (d + 1) pre x a' Oa Wb haxb hlen (by omega) (fun k hk' => by rw [hszb]; exact hsa.top k hk')
      rw [hWb] at hbo
      refine wpIn_mono hbo ?_
      rw [← hWb]
      have fin : ∀ (jump : Option Code) (O3 : Nat → Prop) (W3 : World), StepO Oa O3 Wb W3 →
          (Instr.endRound (d + 1) jump).run P W3 = .ok (.bool jump.isNone) (W3.putObj (d + 1) (.loop (rec (if jump.isNone then .ready else .done) jump))) ∧
          StepO O2 (fun k => O3 k ∨ k = d ∨ k = d + 1) W (W3.putObj (d + 1) (.loop (rec (if jump.isNone then .ready else .done) jump))) ∧ ¬ O3 d ∧ ¬ O3 (d + 1) ∧
          d + 2 ≤ (W3.putObj (d + 1) (.loop (rec (if jump.isNone then .ready else .done) jump))).heap.size ∧
          (W3.putObj (d + 1) (.loop (rec (if jump.isNone then .ready else .done) jump))).heap[d + 1]? = some (.loop (rec (if jump.isNone then .ready else .done) jump)) ∧
          (W3.putObj (d + 1) (.loop (rec (if jump.isNone then .ready else .done) jump))).heap[d]? = some (.deferred (some [])) := fun jump O3 W3 hs3 => by
        have hl3 := (hs3.keeps.block _ (by omega) hna2).trans hlb
        have hk3 := (hs3.keeps.block _ (by omega) hna1).trans hkb
        have hz3 := hs3.keeps.size
        have hr := run_endRound (P := P) jump hl3
        rw [hrec] at hr ⊢
        refine ⟨hr, ?_, hs3.not (by omega) hna1, hs3.not (by omega) hna2, by simp; omega, World.putObj_heap_same (by omega), (World.putObj_heap_other (by omega)).trans hk3⟩
        refine hsb.trans ⟨?_, fun k hk' => ?_, fun k hk' => ?_⟩
        · refine (hs3.keeps.mono fun k _ hp => fun hoc => hp (.inl hoc)).putObj (fun _ hp => hp (.inr (.inr rfl))) _
        · rcases hk' with hk' | hk'
          · rcases hs3.own k hk' with h | h
            · exact .inl (.inl h)
            · exact .inr h
          · exact .inl (.inr hk')
        · have h9 : ∀ o : Obj, (W3.putObj (d + 1) o).heap.size = W3.heap.size := fun o => by simp
          rw [h9]
          rcases hk' with hk' | hk' | hk'
          · exact hs3.top k hk'
          · omega
          · omega
      rintro e a3 W3 hp
      cases e with
      | normal =>
        obtain ⟨O3, hs3, hi3⟩ := hp
        obtain ⟨hr, h2, h3, h4, h5, h6, h7⟩ := fin none O3 W3 hs3
        exact ⟨_, _, hr, _, h2, .inl ⟨rfl, O3, fun _ => Iff.rfl, h3, h4, fun k hk' => h2.top k (.inl hk'), hstab _ O3 W3 _ _ hI h4 hi3 rfl, h5, h6, h7⟩⟩
      | ret =>
        obtain ⟨O3, hs3, hi3⟩ := hp
        obtain ⟨hr, h2, h3, h4, h5, h6, h7⟩ := fin (some .ret) O3 W3 hs3
        exact ⟨_, _, hr, _, h2, .inr ⟨rfl, O3, .ret, fun _ => Iff.rfl, h3, h4, hstab _ O3 W3 _ _ (hIx _) h4 hi3 rfl, h5, h6, h7⟩⟩
      | exit id =>
        obtain ⟨O3, hs3, hi3⟩ := hp
        obtain ⟨hr, h2, h3, h4, h5, h6, h7⟩ := fin (some (.exit id)) O3 W3 hs3
        exact ⟨_, _, hr, _, h2, .inr ⟨rfl, O3, .exit id, fun _ => Iff.rfl, h3, h4, hstab _ O3 W3 _ _ (hIx _) h4 hi3 rfl, h5, h6, h7⟩⟩
      | goto t =>
        obtain ⟨O3, hs3, hi3⟩ := hp
        obtain ⟨hr, h2, h3, h4, h5, h6, h7⟩ := fin (some (.goto t)) O3 W3 hs3
        exact ⟨_, _, hr, _, h2, .inr ⟨rfl, O3, .goto t, fun _ => Iff.rfl, h3, h4, hstab _ O3 W3 _ _ (hIx _) h4 hi3 rfl, h5, h6, h7⟩⟩
      | panic ch => exact hp.elim
      | outgrown => exact hp.elim
    · exact ⟨O, fun _ => Iff.rfl, fun h => by have := (hO _ h).1; omega, fun h => by have := (hO _ h).1; omega, fun k hk' => Nat.lt_of_lt_of_le (hO k hk').1 hB1, hI1, by omega, hL1, hK1⟩
    · -- behind the iterator
      rintro e W2 ⟨⟨v, rfl⟩, (⟨xs, O2, hS, Oc, ho, hn1, hn2, _, hi, hs, hl, hk⟩ | ⟨pre, O2, hSp, Oc, c, ho, hn1, hn2, hi, hs, hl, hk⟩)⟩
      · exact ⟨none, _, by have := run_endLoop (P := P) hl (by rw [hrec]; simp); rw [hrec] at this; exact this, hdone d Oc xs _ (by omega) hn1 hS (hstab _ Oc W2 _ _ hI hn2 hi rfl) ((World.putObj_heap_other (by omega)).trans hk)⟩
      · exact ⟨some c, _, by have := run_endLoop (P := P) hl (by rw [hrec]; simp); rw [hrec] at this; exact this, hstop d c Oc pre _ (by omega) hn1 hSp (hstab _ Oc W2 _ _ (hIx c) hn2 hi rfl) ((World.putObj_heap_other (by omega)).trans hk)⟩

set_option maxHeartbeats 1000000 in
theorem backward1c_in (n : Nat) (hn : 2 ≤ n) (L Bs c g : Nat) (hL : L ≤ 1048576) (w : World) (hc : w.cell? ⟨Bs, 0, none⟩ = some (.slice (some ⟨g, 0, none⟩) L c)) (hBs : Bs < w.heap.size) :
    SeqC Fence.wide n Tryd.prog 83 #[.pointer (some ⟨Bs, 0, none⟩)] (fun x : Nat × Int => #[Value.int .i64 (x.1 : Int), Value.int .i64 x.2]) (fun b => b = Bs)
      (fun ys => ys.length = L) (fun _ => True) (fun pre x => pre.length < L ∧ x.1 + pre.length + 1 = L) (fun pre W => ∀ i, i + pre.length + 1 = L → ∃ v : Int, W.cell? ⟨g, i, none⟩ = some (.int .i64 v)) w := by
  have h1 : 1 ≤ n := by omega
  intro l J Jx O W hkW hO hJ hJx hC hY h0
  have hF : ∀ k, k = Bs → k < W.heap.size := fun k hk => by
    have := hkW.size
    omega
  have hcW : W.cell? ⟨Bs, 0, none⟩ = some (.slice (some ⟨g, 0, none⟩) L c) := (World.cell?_of_block (hkW.block Bs hBs rfl)).trans hc
  clear hc hkW
  refine callsIn_of_wp Tryd.func83 rfl trivial ?_ rfl
  simp only [Tryd.ntmps83, List.size_toArray, List.length_cons, List.length_nil, Nat.reduceAdd, Nat.reduceSub, Array.replicate_succ, Array.replicate_zero, List.push_toArray, List.append_toArray, List.nil_append, List.cons_append]
  gi_wp2
  gi_loopw [3] (fun i wr => ∃ (t : Nat) (ys : List (Nat × Int)) (O2 : Nat → Prop), t ≤ L ∧ i = .int .i64 ((L : Int) - 1 - t) ∧ ys.length = t ∧ J ys O2 wr ∧ ItInv (fun b => b = Bs) O W O2 wr) (fun i _ => (intOf i + 1).toNat)
  case atStart => exact ⟨0, [], O, Nat.zero_le _, by simp, rfl, h0, ItInv.start hO⟩
  case round =>
    obtain ⟨t, ys, O2, ht, rfl, hyl, hJ2, hI2⟩ := hrel
    have hcB : wr.cell? ⟨Bs, 0, none⟩ = some (.slice (some ⟨g, 0, none⟩) L c) := (World.cell?_of_block (hI2.keeps.block Bs (hF Bs rfl) rfl)).trans hcW
    by_cases htl : t < L
    · obtain ⟨i, hi⟩ : ∃ i : Nat, i + t + 1 = L := ⟨L - 1 - t, by omega⟩
      have hil : i < L := by omega
      have e1 : (L : Int) - 1 - t = (i : Int) := by omega
      obtain ⟨v, hci⟩ := hC ys O2 wr hJ2 i (by omega)
      rw [e1]
      clear e1
      obtain ⟨fn, tmps, assign, body, hy, hR⟩ := hY ys (i, v) O2 wr hJ2 ⟨by omega, by show i + ys.length + 1 = _; omega⟩
      have hi0 : (0 : Int) ≤ (i : Int) := Int.natCast_nonneg _
      have hi1 : (i : Int) < (L : Int) := by omega
      have HYL := Lib.hid hyl
      have HI := Lib.hid hi
      clear hyl hi
      gi_wp2
      refine hR.mono ?_
      rintro e W3 ⟨O3, hs3, (⟨rfl, hJ3⟩ | ⟨rfl, hJx3⟩)⟩
      · have hI3 := hI2.step hO hF hs3
        have e2 : (L : Int) - 1 - ((t + 1 : Nat) : Int) = (i : Int) - 1 := by have := HI.out; omega
        gi_wp2
        go_roundw
        case rel => exact ⟨t + 1, _, O3, by omega, by rw [e2], by rw [List.length_append, HYL.out]; simp, hJ3, hI3⟩
        case measure => first | (simp [intOf]; done) | (simp [intOf]; omega)
      · gi_wp2
        refine bodyPost_ret (results_none rfl _ _ _) rfl ?_
        exact ⟨⟨_, rfl⟩, .inr ⟨_, _, trivial, hJx3⟩⟩
    · obtain rfl : L = t := by omega
      have e1 : (L : Int) - 1 - (L : Int) = -1 := by omega
      rw [e1]
      gi_wp2
      first
        | go_end0
        | refine bodyPost_ret (results_none rfl _ _ _) rfl ?_
      exact ⟨⟨_, rfl⟩, .inl ⟨ys, O2, hyl, hJ2⟩⟩
end Go.Proofs.YtaboafkpmgadmaaDoor

namespace Go.Proofs.YtaboafkpmgadmaaDoor
open Go.RowKit
set_option maxRecDepth 100000
attribute [local go_sem] Oper.semAt_some

/-- the node that is placed after j of them, or none -/
def cI (R : Nat → Nat → Bool) (f : Nat → Nat) (m j : Nat) : Int := if j < hgt f m then ((chn R f m j : Nat) : Int) else -1
theorem cI_lt {R : Nat → Nat → Bool} {f : Nat → Nat} {m j : Nat} (h : j < hgt f m) : cI R f m j = ((chn R f m j : Nat) : Int) := if_pos h
theorem cI_next {R : Nat → Nat → Bool} {f : Nat → Nat} {m j : Nat} (hl : Lev R f) (hR : ∀ i j, R i j = true → i < m ∧ j < m) (h : j < hgt f m) : oI (prv R f m (chn R f m j)) = cI R f m (j + 1) := by
  obtain ⟨h1, h2⟩ := chn_at hl hR j h
  by_cases hj : j + 1 < hgt f m
  · rw [cI_lt hj]
    obtain ⟨a, h3, _⟩ := prv_some hl hR (b := chn R f m j) (by omega)
    show _ = (((prv R f m (chn R f m j)).getD 0 : Nat) : Int)
    rw [h3]
    rfl
  · unfold cI
    rw [if_neg hj]
    have : prv R f m (chn R f m j) = none := by
      unfold prv
      rw [List.find?_eq_none]
      intro a _
      unfold fit
      simp
      intro h4
      omega
    rw [this]
    rfl
/-- the chain's row after j -/
def cRow (R : Nat → Nat → Bool) (f : Nat → Nat) (m j i : Nat) : Value := .int .i64 (if hgt f m ≤ i + j then ((chn R f m (hgt f m - 1 - i) : Nat) : Int) else 0)
theorem cRow_zero {R : Nat → Nat → Bool} {f : Nat → Nat} {m i : Nat} (hi : i < hgt f m) : cRow R f m 0 i = .int .i64 0 := by unfold cRow; rw [if_neg (by omega)]
theorem cRow_next {R : Nat → Nat → Bool} {f : Nat → Nat} {m i j : Nat} (hij : i + j + 1 = hgt f m) : (fun k => if k = i then Value.int .i64 ((chn R f m j : Nat) : Int) else cRow R f m j k) = cRow R f m (j + 1) := by
  funext k
  unfold cRow
  by_cases e : k = i
  · subst e
    rw [if_pos rfl, if_pos (by omega), show hgt f m - 1 - k = j by omega]
  · rw [if_neg e]
    by_cases h : hgt f m ≤ k + j
    · rw [if_pos h, if_pos (by omega)]
    · rw [if_neg h, if_neg (by omega)]

def chnG (N : Int) (es : List (Int × Int)) : List Int := if errn N es = 0 then toI (chain (gR es) (lvs N.toNat es) N.toNat) else []

theorem chain_no (A : Option Addr) (c : Nat) (N : Int) (es : List (Int × Int)) (w : World) (he : RdE w w.heap.size A es) (hT : Tab w) (hE : errn N es ≠ 0) :
    Calls Tryd.prog 33 #[.agg #[.int .i64 N, .slice A es.length c]] w fun e w' => e = .returned (.tuple #[.slice none 0 0, .int .i64 (errn N es)]) ∧ Below w.heap.size w w' := by
  have hl0 := levG_no hE
  obtain ⟨E, hEE⟩ : ∃ E, E = errn N es := ⟨_, rfl⟩
  rw [← hEE] at hE
  have hb : (E != 0) = true := by simpa using hE
  have HE := Lib.hid hEE
  have HL := Lib.hid hl0
  clear hE hEE hl0
  go_enter Tryd.func33, Tryd.ntmps33
  go_wp2_with fail
  have hb1 := below_alloc w (.cells #[.int .i64 N, .slice A es.length c] 24)
  obtain ⟨w1, hw1⟩ : ∃ w1, w1 = w.alloc (.cells #[.int .i64 N, .slice A es.length c] 24) := ⟨_, rfl⟩
  rw [← hw1] at hb1 ⊢
  clear hw1
  refine (levels_any A c N es _ (he.step hb1) (hT.step hb1)).mono ?_
  rw [← HE.out]
  rintro e w2 ⟨A2, c2, rfl, _, hb2⟩
  have hbb := hb1.trans (hb2.mono hb1.size)
  clear hb1 hb2
  go_wp2
  go_ret2
  exact ⟨by rw [HE.out]; rfl, hbb⟩

set_option maxHeartbeats 4000000 in
theorem chain_in (n : Nat) (hn : 3 ≤ n) (A : Option Addr) (c m : Nat) (es : List (Int × Int)) (w : World) (he : RdE w w.heap.size A es) (hin : inR m es = true) (hfull : (ordr m es).length = m) (hT : Tab w) :
    CallsIn Fence.wide n Tryd.prog 33 #[.agg #[.int .i64 (m : Int), .slice A es.length c]] w fun e w' => ∃ g, e = .returned (.tuple #[.slice (some ⟨g, 0, none⟩) (hgt (lvs m es) m) (hgt (lvs m es) m), .int .i64 0]) ∧ w'.rowIs g 3 (hgt (lvs m es) m) (fun i => .int .i64 ((chn (gR es) (lvs m es) m (hgt (lvs m es) m - 1 - i) : Nat) : Int)) ∧ Below w.heap.size w w' := by
  have h1 : 1 ≤ n := by omega
  have hm := okN_of hin
  have hE := errn_ok hin hfull
  have hl := levG_len hE
  obtain ⟨hlg, hlt⟩ := levG_hgt hE hin hfull
  have hLev := lvs_lev hin hfull
  have hhm : hgt (lvs m es) m ≤ m := hgt_le _ hlt
  have hLv : ∀ W : World, RdE W W.heap.size A es → Tab W → Calls Tryd.prog 29 #[.agg #[.int .i64 (m : Int), .slice A es.length c]] W fun e w' => ∃ A1 c1, e = .returned (.tuple #[.slice A1 m c1, .int .i64 0]) ∧ RdI w' w'.heap.size A1 ((List.range m).map fun k => ((lvs m es k : Nat) : Int)) ∧ Below W.heap.size W w' := fun W h1 h2 => by
    have := levels_any A c m es W h1 h2
    rw [hl, hE, hlg] at this
    exact this
  have HLV := Lib.hid hLv
  obtain ⟨f, hf⟩ : ∃ f, f = lvs m es := ⟨_, rfl⟩
  rw [← hf] at hlt hLev hhm HLV ⊢
  obtain ⟨h, hh⟩ : ∃ h, h = hgt f m := ⟨_, rfl⟩
  rw [← hh] at hhm ⊢
  have hmk := run_make_row' (P := Tryd.prog) 25 3 (.int .i64 0) 8 Tryd.underlying25 Tryd.infoInt rfl .i64 .i64 h (by omega) (by omega)
  have HIN := Lib.hid hin
  have HLEV := Lib.hid hLev
  have HH := Lib.hid hh
  have HLT := Lib.hid hlt
  clear hl hlg hE hfull hLv hf hh hLev hlt
  refine callsIn_of_wp_marks Tryd.func33 rfl trivial ?_ rfl
  simp only [Tryd.ntmps33, List.size_toArray, List.length_cons, List.length_nil, Nat.reduceAdd, Nat.reduceSub, Array.replicate_succ, Array.replicate_zero, List.push_toArray, List.append_toArray, List.nil_append, List.cons_append]
  gi_wp2_with fail
  have hB := below_alloc w (.cells #[.int .i64 (m : Int), .slice A es.length c] 24)
  have g1 := GB.new w 24 m (.slice A es.length c)
  obtain ⟨w1, hw1⟩ : ∃ w1, w1 = w.alloc (.cells #[.int .i64 (m : Int), .slice A es.length c] 24) := ⟨_, rfl⟩
  rw [← hw1] at hB g1 ⊢
  have hs := hB.size
  replace he := he.step hB
  replace hT := hT.step hB
  clear hw1
  refine ⟨trivial, ?_⟩
  refine (callsIn_wide.2 (HLV.out _ he hT)).mono ?_
  rintro e w2 ⟨A2, c2, rfl, q2, hb⟩
  replace g1 := g1.step hb
  replace he := he.step hb
  replace hB := below_step hB hs hb
  replace hs := hB.size
  clear hb hT
  have n1 := g1.n
  have e1 := g1.e
  gi_wp2_with fail
  refine ⟨trivial, ?_⟩
  refine (callsIn_wide.2 (smallestBefore_any A c m es A2 c2 f _ he HIN.out HLT.out q2)).mono ?_
  rintro e w3 ⟨g3, rfl, R3, hg3, hb⟩
  replace q2 := q2.step hb
  replace hB := below_step hB hs hb
  replace hs := hB.size
  clear hb n1 e1 g1 he
  gi_wp2_with fail
  have bx6 := Boxed.new w3 25 (.slice (some ⟨g3, 0, none⟩) m m)
  have hb := below_alloc w3 (.cells #[.slice (some ⟨g3, 0, none⟩) m m] 25)
  obtain ⟨w4, hw4⟩ : ∃ w4, w4 = w3.alloc (.cells #[.slice (some ⟨g3, 0, none⟩) m m] 25) := ⟨_, rfl⟩
  obtain ⟨B6, hB6⟩ : ∃ B6, B6 = w3.heap.size := ⟨_, rfl⟩
  rw [← hw4] at bx6 hb ⊢
  rw [← hB6] at bx6 ⊢
  replace R3 := rowIs_step R3 hb
  replace q2 := q2.step hb
  replace hB := below_step hB hs hb
  replace hs := hB.size
  clear hb hw4 hB6
  refine ⟨trivial, ?_⟩
  refine (callsIn_wide.2 (height_any A2 c2 m f (by omega) HLT.out _ q2)).mono ?_
  rw [← HH.out]
  rintro e w5 ⟨rfl, rfl⟩
  gi_wp2_with fail
  have Rc := (World.rowIs_made w4 (.int .i64 0) h 3).alloc (.cells #[.slice (some ⟨w4.heap.size, 0, none⟩) h h] 25)
  have bx7 := Boxed.new (w4.alloc (.cells (madeCells #[.int .i64 0] h) 3)) 25 (.slice (some ⟨w4.heap.size, 0, none⟩) h h)
  have hb : Below w4.heap.size w4 ((w4.alloc (.cells (madeCells #[.int .i64 0] h) 3)).alloc (.cells #[.slice (some ⟨w4.heap.size, 0, none⟩) h h] 25)) := ((Below.refl _ _).alloc (Nat.le_refl _) _).alloc (by simp) _
  simp only [World.size_alloc] at bx7
  have lt6 := bx6.lt
  have lt3 := R3.lt
  obtain ⟨w5, hw5⟩ : ∃ w5, w5 = (w4.alloc (.cells (madeCells #[.int .i64 0] h) 3)).alloc (.cells #[.slice (some ⟨w4.heap.size, 0, none⟩) h h] 25) := ⟨_, rfl⟩
  have hs5 : w5.heap.size = w4.heap.size + 2 := by rw [hw5]; simp
  rw [← hw5] at Rc bx7 hb ⊢
  obtain ⟨s, hss⟩ : ∃ s, s = w4.heap.size := ⟨_, rfl⟩
  replace R3 := rowIs_step R3 hb
  replace bx6 : Boxed w5 B6 25 (.slice (some ⟨g3, 0, none⟩) m m) := (hb.block B6 lt6).trans bx6
  replace q2 := q2.step hb
  replace hB := below_step hB hs hb
  rw [← hss] at Rc bx7 hs5 lt6 lt3 hs ⊢
  clear hb hw5 hss
  refine ⟨trivial, ?_⟩
  have hIdx : Calls Tryd.prog 63 #[.slice A2 m c2, .int .i64 ((h : Int) - 1)] w5 fun e w' => e = .returned (.int .i64 (cI (gR es) f m 0)) ∧ w5 = w' := by
    have hzd : ∀ k, k < m → zd ((List.range m).map fun k => ((f k : Nat) : Int)) k = ((f k : Nat) : Int) := fun k hk => by unfold zd; simp [List.getD, hk]
    rcases Nat.eq_zero_or_pos m with h0 | h0
    · have hz : h = 0 := by omega
      refine (index_no_len A2 c2 m _ (by simp) _ w5 q2 (fun j hj => by simp at hj; omega)).mono ?_
      rintro e w' ⟨rfl, rfl⟩
      exact ⟨by unfold cI; rw [if_neg (by rw [← HH.out]; omega)], rfl⟩
    · obtain ⟨a, h2, h3, h4, h5⟩ := fst0_some (f := f) h0
      have hh0 : 0 < hgt f m := hgt_pos f h0
      have hc : cI (gR es) f m 0 = (a : Int) := by
        rw [cI_lt hh0]
        show (((fst0 f m).getD 0 : Nat) : Int) = _
        rw [h2]
        rfl
      rw [hc, HH.out]
      refine (index_yes_len A2 c2 m _ (by simp) _ a w5 q2 ⟨by simpa using h3, by rw [hzd a h3]; omega, fun j hj => by rw [hzd j (by omega)]; have := h5 j hj; omega⟩).mono ?_
      rintro e w' ⟨rfl, rfl⟩
      exact ⟨rfl, rfl⟩
  refine (callsIn_wide.2 hIdx).mono ?_
  rintro e w6 ⟨rfl, rfl⟩
  have c7 : ∀ o, (w5.alloc o).cell? ⟨s + 1, 0, none⟩ = some (.slice (some ⟨s, 0, none⟩) h h) := fun o => (World.cell?_alloc_lt w5 o ⟨s + 1, 0, none⟩ (by show s + 1 < _; omega)).trans bx7.cell
  clear hIdx q2
  gi_wp2_with (refine ⟨trivial, ?_⟩; refine (backward_in (n - 1) _ _ _ _).mono ?_; rintro e w' ⟨rfl, rfl⟩)
  have hb : Below w5.heap.size w5 ((w5.alloc (.cells #[.int .i64 (cI (gR es) f m 0)] 3)).alloc (.cells #[.slice (some ⟨s, 0, none⟩) h h] 25)) := ((Below.refl _ _).alloc (Nat.le_refl _) _).alloc (by simp) _
  have bx8 := (Boxed.new w5 3 (.int .i64 (cI (gR es) f m 0))).alloc (.cells #[.slice (some ⟨s, 0, none⟩) h h] 25)
  have bxs := Boxed.new (w5.alloc (.cells #[.int .i64 (cI (gR es) f m 0)] 3)) 25 (.slice (some ⟨s, 0, none⟩) h h)
  simp only [World.size_alloc, hs5] at bx8 bxs
  obtain ⟨w7, hw7⟩ : ∃ w7, w7 = (w5.alloc (.cells #[.int .i64 (cI (gR es) f m 0)] 3)).alloc (.cells #[.slice (some ⟨s, 0, none⟩) h h] 25) := ⟨_, rfl⟩
  have hs7 : w7.heap.size = s + 4 := by rw [hw7]; simp [hs5]
  rw [← hw7] at hb bx8 bxs ⊢
  replace bx6 : Boxed w7 B6 25 (.slice (some ⟨g3, 0, none⟩) m m) := (hb.block B6 bx6.lt).trans bx6
  replace bx7 : Boxed w7 (s + 1) 25 (.slice (some ⟨s, 0, none⟩) h h) := (hb.block (s + 1) bx7.lt).trans bx7
  replace R3 := rowIs_step R3 hb
  replace Rc := rowIs_step Rc hb
  have hB7 : Below w.heap.size w w7 := hB.trans (hb.mono (by omega))
  clear hb hw7 c7 hs5 hB
  refine wpIn_rangeFunc_C rfl h1 (gf := 83) (lb := #[.pointer (some ⟨s + 2 + 1, 0, none⟩)]) rfl trivial (enters_of Tryd.func83 (by kernel_rfl) rfl)
    (backward1c_in (n - 1) (by omega) h (s + 2 + 1) h s (by omega) w7 bxs.cell (by omega)) (Keeps.refl _ _) (fun _ => rfl)
    (fun ys O W => (∀ b, O b ↔ b = s ∨ b = s + 2) ∧ W.rowIs s 3 h (fun i => cRow (gR es) f m ys.length i) ∧ Boxed W (s + 2) 3 (.int .i64 (cI (gR es) f m ys.length)) ∧ Keeps (fun b => b ≠ s ∧ b ≠ s + 2) w7 W) (fun _ _ _ _ => False)
    ?hc ?stab (fun _ _ _ _ _ h _ => h.elim) (fun k => k = s ∨ k = s + 2) ?own (fun k hk => by omega) ?start
    (fun pre x a' O W => ((∀ b, O b ↔ b = s ∨ b = s + 2) ∧ W.rowIs s 3 h (fun i => cRow (gR es) f m pre.length i) ∧ Boxed W (s + 2) 3 (.int .i64 (cI (gR es) f m pre.length)) ∧ Keeps (fun b => b ≠ s ∧ b ≠ s + 2) w7 W) ∧ a' = { tmps := #[.agg #[.int .i64 (m : Int), .slice A es.length c], .pointer (some ⟨w.heap.size, 0, none⟩), .slice none 0 0, .int .i64 0, .slice A2 m c2, .int .i64 0, .pointer (some ⟨B6, 0, none⟩), .pointer (some ⟨s + 1, 0, none⟩), .pointer (some ⟨s + 2, 0, none⟩), .int .i64 (x.1 : Int), .tuple #[.slice A2 m c2, .int .i64 0], .agg #[.int .i64 (m : Int), .slice A es.length c], .tuple #[.slice A2 m c2, .int .i64 0], .slice A2 m c2, .int .i64 0, .int .i64 0, .bool false, undef, .agg #[.int .i64 (m : Int), .slice A es.length c], .slice A2 m c2, .slice (some ⟨g3, 0, none⟩) m m, .slice A2 m c2, .int .i64 (h : Int), .slice (some ⟨s, 0, none⟩) h h, .slice A2 m c2, .slice (some ⟨s, 0, none⟩) h h, .int .i64 (h : Int), .int .i64 ((h : Int) - 1), .int .i64 (cI (gR es) f m 0), .slice (some ⟨s, 0, none⟩) h h, .func (.func 83) #[] #[.pointer (some ⟨s + 2 + 1, 0, none⟩)], .int .i64 (x.1 : Int), .int .i64 x.2, undef, undef, undef, undef, undef, undef, undef, undef, undef], defers := [] })
    ?stabx ?assign ?body ?done ?stop
  case hc =>
    rintro pre O W ⟨_, hr, _, _⟩ i hi
    have hil : i < h := by omega
    exact ⟨_, hr.cell hil⟩
  case own =>
    intro k hk
    exact ⟨by omega, by omega⟩
  case start =>
    exact ⟨fun _ => Iff.rfl, Rc.congr fun i hi => (cRow_zero (by rw [← HH.out]; exact hi)).symm, bx8, Keeps.refl _ _⟩
  case stab =>
    rintro ys O W W' ⟨hO, hr, hx, hk⟩ hkk
    exact ⟨hO, rowIs_keeps hr hkk (.inr ((hO _).2 (.inl rfl))), boxed_keeps hx hkk (.inr ((hO _).2 (.inr rfl))), hk.trans_lt hkk fun k hk1 _ => .inl hk1⟩
  case stabx =>
    rintro pre x a' ys O W W' ⟨⟨hO, hr, hx, hk⟩, ha⟩ hkk
    exact ⟨⟨hO, rowIs_keeps hr hkk (.inr ((hO _).2 (.inl rfl))), boxed_keeps hx hkk (.inr ((hO _).2 (.inr rfl))), hk.trans_lt hkk fun k hk1 _ => .inl hk1⟩, ha⟩
  case assign =>
    intro l pre x O W K hI hlen hsz htop hK
    obtain ⟨i, v⟩ := x
    have i0 : (0 : Int) ≤ (i : Int) := Int.natCast_nonneg _
    have h2n : 1 ≤ n - 1 - 1 := by omega
    gi_wp2
    exact hK _ _ _ (StepO.refl htop) ⟨hI, rfl⟩
  case body =>
    rintro l pre ⟨i, v⟩ a' O W ⟨⟨hO, hr, hx, hk⟩, rfl⟩ ⟨hl1, hl2⟩ hsz htop
    have h2n : 1 ≤ n - 1 - 1 := by omega
    try dsimp only at hl1 hl2 ⊢
    obtain ⟨j, hj⟩ : ∃ j, j = pre.length := ⟨_, rfl⟩
    rw [← hj] at hr hx hl1 hl2
    have hjh : j < hgt f m := by rw [← HH.out]; exact hl1
    obtain ⟨hy1, _⟩ := chn_at HLEV.out (gR_lt HIN.out) j hjh
    have hcn := cI_next HLEV.out (gR_lt HIN.out) hjh
    have hrn := cRow_next (R := gR es) (f := f) (m := m) (i := i) (j := j) (by rw [← HH.out]; omega)
    rw [cI_lt hjh] at hx
    obtain ⟨y, hy⟩ : ∃ y, y = chn (gR es) f m j := ⟨_, rfl⟩
    rw [← hy] at hx hy1 hcn hrn
    have cb := (World.cell?_of_block (a := ⟨g3, y, none⟩) (hk.block g3 (by omega) ⟨by omega, by omega⟩)).trans (R3.cell hy1)
    try dsimp only at cb
    rw [hcn] at cb
    obtain ⟨z, hz⟩ : ∃ z, z = cI (gR es) f m (j + 1) := ⟨_, rfl⟩
    rw [← hz] at cb
    have c7 := (World.cell?_of_block (a := ⟨s + 1, 0, none⟩) (hk.block (s + 1) (by omega) ⟨by omega, by omega⟩)).trans bx7.cell
    have c6 := (World.cell?_of_block (a := ⟨B6, 0, none⟩) (hk.block B6 (by omega) ⟨by omega, by omega⟩)).trans bx6.cell
    have c8 := hx.cell
    have hih : i < h := by omega
    have ci := hr.cell hih
    have fi := hr.frozen i
    have f8 := hx.frozen
    have ne1 : ¬ B6 = s := by omega
    have ne2 : ¬ g3 = s := by omega
    have i0 : (0 : Int) ≤ (i : Int) := Int.natCast_nonneg _
    have y0 : (0 : Int) ≤ (y : Int) := Int.natCast_nonneg _
    have hrow := hr.set i (.int .i64 (y : Int))
    rw [hrn] at hrow
    have hx2 : Boxed (W.setCell ⟨s, i, none⟩ (.int .i64 (y : Int))) (s + 2) 3 (.int .i64 (y : Int)) := hx.kept (grownBy_setCell W ⟨s, i, none⟩ _) (by simp)
    have HROW := Lib.hid (rowIs_grown hrow (grownBy_setCell _ ⟨s + 2, 0, none⟩ (.int .i64 z)) (by simp))
    have HX2 := Lib.hid (hx2.set (.int .i64 z))
    have HZ := Lib.hid hz
    have HJ := Lib.hid hj
    clear hr hx hrow hx2 hrn hcn hz hj hy hjh hl1 hl2 bx6 bx7 bx8 bxs R3 Rc
    gi_wp2
    refine ⟨O, ⟨((Keeps.refl (fun k => ¬ O k) W).setCell (fun _ h => h ((hO _).2 (.inl rfl))) _).setCell (fun _ h => h ((hO _).2 (.inr rfl))) _, fun k h => .inl h, fun k h => by simpa using htop k h⟩, hO, ?_, ?_, (hk.setCell (p := fun b => b ≠ s ∧ b ≠ s + 2) (q := ⟨s, i, none⟩) (fun _ h => h.1 rfl) _).setCell (q := ⟨s + 2, 0, none⟩) (fun _ h => h.2 rfl) _⟩
    · rw [List.length_append, ← HJ.out]
      exact HROW.out
    · rw [List.length_append, ← HJ.out]
      show Boxed _ _ _ (.int .i64 (cI (gR es) f m (j + 1)))
      rw [← HZ.out]
      exact HX2.out
  case done =>
    rintro D O xs W hD hOD hxs ⟨hO, hr, hx, hk⟩ hK
    have hxl : xs.length = h := hxs
    rw [hxl] at hr
    have c7 := (World.cell?_of_block (a := ⟨s + 1, 0, none⟩) (hk.block (s + 1) (by omega) ⟨by omega, by omega⟩)).trans bx7.cell
    have hr2 : W.rowIs s 3 h (fun i => .int .i64 ((chn (gR es) f m (h - 1 - i) : Nat) : Int)) := hr.congr fun i hi => by
      unfold cRow
      rw [← HH.out, if_pos (by omega)]
    have hBf : Below w.heap.size w W := hB7.trans (hk.below (by omega) fun k hk => ⟨by omega, by omega⟩)
    clear hr hx bx6 bx7 bx8 bxs R3 Rc
    gi_wp2
    refine ⟨by simp, .inl ⟨_, _, rfl, run_takeDeferred hK, ?_⟩⟩
    refine ⟨_, results_tmp2 rfl _ _ _, ?_⟩
    exact ⟨s, rfl, rowIs_putObj hr2 (by omega) _, hBf.trans (belowK_b (w := w) (Nat.le_refl _) W D _ _ (by omega) hK rfl rfl)⟩
  case stop =>
    rintro D c' O pre W _ _ _ h _
    exact h.elim
end Go.Proofs.YtaboafkpmgadmaaDoor

namespace Go.Proofs.YtaboafkpmgadmaaDoor
open Go.RowKit
set_option maxRecDepth 100000

theorem indexE_no (A : Option Addr) (c : Nat) (es : List (Int × Int)) (x y : Int) (w : World) (hx : RdE w w.heap.size A es) (hv : (x, y) ∉ es) :
    Calls Tryd.prog 65 #[.slice A es.length c, .agg #[.int .i64 x, .int .i64 y]] w fun e w' => e = .returned (.int .i64 (-1)) ∧ Below w.heap.size w w' := by
  have hmin : ∀ k, k < es.length → ed es k ≠ (x, y) := fun k hk e => hv (e ▸ ed_mem es k hk)
  have hroom := hx.room
  go_enter Tryd.func65, Tryd.ntmps65
  go_wp2
  have hE := EBox.new w x y 38
  obtain ⟨w1, hw1⟩ : ∃ w1, w1 = w.alloc (.cells #[.int .i64 x, .int .i64 y] 38) := ⟨_, rfl⟩
  have hb1 : Below w.heap.size w w1 := by rw [hw1]; exact below_alloc _ _
  rw [← hw1] at hE ⊢
  have hx1 := hx.step hb1
  obtain ⟨B, hB⟩ : ∃ B, B = w.heap.size := ⟨_, rfl⟩
  rw [← hB] at hE ⊢
  have HB := Lib.hid hB
  have HM := Lib.hid hmin
  have hex := hE.x
  have hey := hE.y
  clear hw1 hB hmin hx hE hv
  go_loopw [8] (fun i wr => ∃ k n : Nat, k ≤ es.length ∧ i = .int .i64 k ∧ wr = w1.drewN n) (fun i _ => es.length - (intOf i).toNat)
  case atStart => exact ⟨0, 0, Nat.zero_le _, rfl, rfl⟩
  case round =>
    obtain ⟨k, n, hk, rfl, rfl⟩ := hrel
    by_cases hlt : k < es.length
    · obtain ⟨b, off, rfl, _, hc⟩ := hx1.rd (by omega)
      obtain ⟨ha1, ha2⟩ := hc k hlt
      clear hc
      have hne := HM.out k hlt
      obtain ⟨p, hp⟩ : ∃ p, p = (ed es k).1 := ⟨_, rfl⟩
      obtain ⟨q, hq⟩ : ∃ q, q = (ed es k).2 := ⟨_, rfl⟩
      rw [← hp] at ha1
      rw [← hq] at ha2
      by_cases e : x = p
      · have e2 : (y == q) = false := by
          rw [beq_eq_false_iff_ne]
          intro e2
          exact hne (Prod.ext (by rw [← hp, e]) (by rw [← hq, e2]))
        subst e
        clear hne hp hq
        go_wp2
        go_quiet (fail)
        go_wp2
        go_roundw
        case rel => exact ⟨k + 1, _, by omega, by go_num, rfl⟩
        case measure => simp [intOf]; omega
      · have e1 : (x == p) = false := by
          rw [beq_eq_false_iff_ne]
          exact e
        clear hne hp hq e
        go_wp2
        go_quiet (fail)
        go_wp2
        go_roundw
        case rel => exact ⟨k + 1, _, by omega, by go_num, rfl⟩
        case measure => simp [intOf]; omega
    · obtain rfl : k = es.length := by omega
      go_wp2
      go_ret
      exact ⟨rfl, below_drewN hb1 _⟩

theorem containsE_no (A : Option Addr) (c : Nat) (es : List (Int × Int)) (x y : Int) (w : World) (hx : RdE w w.heap.size A es) (hv : (x, y) ∉ es) :
    Calls Tryd.prog 28 #[.slice A es.length c, .agg #[.int .i64 x, .int .i64 y]] w fun e w' => e = .returned (.bool false) ∧ Below w.heap.size w w' := by
  go_enter Tryd.func28, Tryd.ntmps28
  go_wp2_with fail
  have hb1 := below_alloc w (.cells #[.int .i64 x, .int .i64 y] 38)
  obtain ⟨w1, hw1⟩ : ∃ w1, w1 = w.alloc (.cells #[.int .i64 x, .int .i64 y] 38) := ⟨_, rfl⟩
  rw [← hw1] at hb1 ⊢
  refine (indexE_no A c es x y _ (hx.step hb1) hv).mono ?_
  rintro e w2 ⟨rfl, hb2⟩
  have hB := hb1.trans (hb2.mono hb1.size)
  clear hw1 hv
  go_wp2
  go_ret
  exact ⟨rfl, hB⟩
theorem containsE_any (A : Option Addr) (c : Nat) (es : List (Int × Int)) (x y : Int) (w : World) (hx : RdE w w.heap.size A es) :
    Calls Tryd.prog 28 #[.slice A es.length c, .agg #[.int .i64 x, .int .i64 y]] w fun e w' => e = .returned (.bool (decide ((x, y) ∈ es))) ∧ Below w.heap.size w w' := by
  by_cases h : (x, y) ∈ es
  · rw [decide_eq_true h]; exact containsE_yes A c es x y w hx h
  · rw [decide_eq_false h]; exact containsE_no A c es x y w hx h

/-- may n be placed after j? -/
def okC (R : Nat → Nat → Bool) (f : Nat → Nat) (m j n : Nat) : Bool := decide (f n + j + 1 = hgt f m) && (j == 0 || R n (chn R f m (j - 1)))
theorem chn_first {R : Nat → Nat → Bool} {f : Nat → Nat} {m j : Nat} (hl : Lev R f) (hR : ∀ i j, R i j = true → i < m ∧ j < m) (hj : j < hgt f m) :
    chn R f m j < m ∧ okC R f m j (chn R f m j) = true ∧ ∀ y, y < chn R f m j → okC R f m j y = false := by
  cases j with
  | zero =>
    have hN : 0 < m := by
      rcases Nat.eq_zero_or_pos m with h0 | h0
      · subst h0; simp [hgt] at hj
      · exact h0
    obtain ⟨a, h1, h2, h3, h4⟩ := fst0_some (f := f) hN
    have hc : chn R f m 0 = a := by show (fst0 f m).getD 0 = a; rw [h1]; rfl
    rw [hc]
    refine ⟨h2, by unfold okC; simp; exact h3, fun y hy => ?_⟩
    have := h4 y hy
    unfold okC
    simp
    exact this
  | succ j =>
    obtain ⟨h1, h2⟩ := chn_at hl hR j (by omega)
    obtain ⟨a, h3, h4, h5, h6, h7⟩ := prv_some hl hR (b := chn R f m j) (by omega)
    have hc : chn R f m (j + 1) = a := by show (prv R f m (chn R f m j)).getD 0 = a; rw [h3]; rfl
    rw [hc]
    refine ⟨h4, ?_, fun y hy => ?_⟩
    · unfold okC
      rw [Nat.add_sub_cancel, h6]
      simp
      omega
    · have := h7 y hy
      unfold fit at this
      unfold okC
      rw [Nat.add_sub_cancel]
      rw [Bool.and_eq_false_iff] at this ⊢
      rcases this with h | h
      · left
        simp at h ⊢
        omega
      · right
        rw [h]
        rfl
theorem tailC_len (R : Nat → Nat → Bool) (f : Nat → Nat) (m j : Nat) : (tailC R f m j).length = j := by unfold tailC; simp
theorem toI_cons (x : Nat) (l : List Nat) : toI (x :: l) = (x : Int) :: toI l := rfl
theorem own_lit1 (w : World) (T : TypeId) (v : Value) (base : Nat) (hb : base ≤ w.heap.size) : (w.alloc (.cells #[v] T)).ownsRow base T 1 (.slice (some ⟨w.heap.size, 0, none⟩) 1 1) 1 [v] :=
  ⟨rfl, .inr ⟨w.heap.size, 1, #[v], rfl, hb, World.alloc_heap_new w _, Nat.le_refl _, by unfold maxLen; omega, rfl, rfl⟩⟩

/-- two cells lie as they lay, and all that lay -/
abbrev HeldJ (w0 : World) (B : Nat) (v : Value) (b o : Nat) (u : Value) (w' : World) : Prop := w'.cell? ⟨B, 1, none⟩ = some v ∧ w'.cell? ⟨b, o, none⟩ = some u ∧ Below w0.heap.size w0 w'
theorem HeldJ.drew {w0 W : World} {B b o : Nat} {v u : Value} (h : HeldJ w0 B v b o u W) : HeldJ w0 B v b o u W.drew := ⟨h.1, h.2.1, h.2.2.drew⟩
theorem HeldJ.step {w0 W w2 : World} {B b o : Nat} {v u : Value} (h : HeldJ w0 B v b o u W) (hb : Below W.heap.size W w2) : HeldJ w0 B v b o u w2 :=
  ⟨(hb.cell (p := ⟨B, 1, none⟩) (World.block_lt_of_cell? _ _ h.1)).trans h.1, (hb.cell (p := ⟨b, o, none⟩) (World.block_lt_of_cell? _ _ h.2.1)).trans h.2.1, h.2.2.trans (hb.mono h.2.2.size)⟩
def lenOfC (v : Value) : Nat := match v with | .slice _ n _ => n | _ => 0

set_option maxHeartbeats 8000000 in
theorem cchain_any (A : Option Addr) (c : Nat) (N : Int) (es : List (Int × Int)) (w : World) (he : RdE w w.heap.size A es) :
    Calls Tryd.prog 34 #[.agg #[.int .i64 N, .slice A es.length c]] w fun e w' => ∃ A1 c1, e = .returned (.tuple #[.slice A1 (chnG N es).length c1, .int .i64 (errn N es)]) ∧ RdI w' w'.heap.size A1 (chnG N es) ∧ Below w.heap.size w w' := by
  obtain ⟨j0, gi, gz0, gz1, gz2⟩ := info_parts Tryd.infoInt
  have hroom := he.room
  go_enter Tryd.func34, Tryd.ntmps34
  go_wp2_with fail
  have g1 := GB.new w 24 N (.slice A es.length c)
  have hB := below_alloc w (.cells #[.int .i64 N, .slice A es.length c] 24)
  obtain ⟨w1, hw1⟩ : ∃ w1, w1 = w.alloc (.cells #[.int .i64 N, .slice A es.length c] 24) := ⟨_, rfl⟩
  rw [← hw1] at g1 hB ⊢
  have hs := hB.size
  replace he := he.step hB
  clear hw1
  refine (clevels_any A c N es _ he).mono ?_
  rintro e w2 ⟨A2, c2, rfl, q2, hb⟩
  replace g1 := g1.step hb
  replace he := he.step hb
  replace hB := below_step hB hs hb
  replace hs := hB.size
  clear hb
  have n1 := g1.n
  have e1 := g1.e
  go_wp2_with fail
  refine (cheight_any A c N es _ he).mono ?_
  rintro e w3 ⟨rfl, hb⟩
  replace g1 := g1.step hb
  replace he := he.step hb
  replace q2 := q2.step hb
  replace hB := below_step hB hs hb
  replace hs := hB.size
  clear hb n1 e1
  by_cases hE : errn N es = 0
  · obtain ⟨m, rfl, hin, hfull⟩ := errn_split hE
    have hm := okN_of hin
    have hl := levG_len hE
    obtain ⟨hlg, hlt⟩ := levG_hgt hE hin hfull
    have hLev := lvs_lev hin hfull
    have hRl := gR_lt hin
    have HC : Hid (chnG m es = toI (chain (gR es) (lvs m es) m)) := Lib.hid (by unfold chnG; rw [if_pos hE, Int.toNat_natCast])
    rw [hE, hl, hgtG_ok hE]
    rw [hlg] at q2
    obtain ⟨f, hf⟩ : ∃ f, f = lvs m es := ⟨_, rfl⟩
    rw [← hf] at hlt hLev q2 HC
    rw [← hf]
    have hhm : hgt f m ≤ m := hgt_le _ hlt
    have HEE := Lib.hid hE
    have HLEV := Lib.hid hLev
    have HLT := Lib.hid hlt
    have HRL := Lib.hid hRl
    clear hE hl hlg hf hLev hlt hin hfull hRl
    obtain ⟨h, hh⟩ : ∃ h, h = hgt f m := ⟨_, rfl⟩
    have HH := Lib.hid hh
    rw [← hh] at hhm ⊢
    clear hh
    go_wp2_with fail
    go_loopw [9, 8] (fun i v wr => ∃ j : Nat, j ≤ h ∧ i = .int .i64 ((h : Int) - 1 - j) ∧ (j = 0 → v = .slice none 0 0) ∧ wr.ownsRow w3.heap.size 3 1 v (toI (tailC (gR es) f m j)).length (iVals (toI (tailC (gR es) f m j))) ∧ Below w3.heap.size w3 wr) (fun i _ _ => (intOf i + 1).toNat)
    case atStart => exact ⟨0, Nat.zero_le _, by simp, fun _ => rfl, World.ownsRow_nil _ _ _ _, Below.refl _ _⟩
    case round =>
      obtain ⟨j, hj, rfl, hv0, hown, hb⟩ := hrel
      have hsz := hb.size
      have htl := tailC_len (gR es) f m j
      have hlen : (toI (tailC (gR es) f m j)).length = j := by rw [toI_len]; exact htl
      have hbd : ∀ x, x ∈ tailC (gR es) f m j → x < m := fun x hx => by
        unfold tailC at hx
        obtain ⟨i, hi, rfl⟩ := List.mem_map.1 hx
        have := List.mem_range.1 hi
        exact (chn_at HLEV.out HRL.out _ (by have := HH.out; omega)).1
      have hzb := zd_toI_bd (tailC (gR es) f m j) m hbd
      obtain ⟨A3, c3, hv, rI⟩ := own_rdI hown (fun k => by have := hzb k; omega) (fun k => by have := hzb k; omega) (by rw [hlen]; omega)
      rw [hlen] at hv
      subst hv
      have HL := Lib.hid hlen
      have G := g1.step hb
      have R := he.step hb
      have Q := q2.step hb
      clear htl hbd hzb
      by_cases hlt : j < h
      · have hjh : j < hgt f m := by have := HH.out; omega
        obtain ⟨hxm, hok, hmin⟩ := chn_first HLEV.out HRL.out hjh
        have hnext := tailC_cons (gR es) f m j
        obtain ⟨x, hx⟩ : ∃ x, x = chn (gR es) f m j := ⟨_, rfl⟩
        rw [← hx] at hxm hok hmin hnext
        have HOK := Lib.hid hok
        have HM := Lib.hid hmin
        have HN := Lib.hid hnext
        clear hok hmin hnext hx hlen hjh
        have e1 : (j : Int) ≤ (h : Int) - 1 := by omega
        obtain ⟨zs, hzs⟩ : ∃ zs, zs = toI (tailC (gR es) f m j) := ⟨_, rfl⟩
        rw [← hzs] at hown rI HL
        have HZ := Lib.hid hzs
        clear hzs
        go_wp2_with fail
        obtain ⟨wo, rfl⟩ : ∃ wo : World, wo = wr := ⟨_, rfl⟩
        go_loopw [8, 30] (fun v i wr2 => ∃ n : Nat, n ≤ x ∧ v = .slice A3 j c3 ∧ i = .int .i64 n ∧ Below wo.heap.size wo wr2) (fun _ i _ => m - (intOf i).toNat)
        case atStart => exact ⟨0, Nat.zero_le _, rfl, rfl, Below.refl _ _⟩
        case round =>
          obtain ⟨n, hn, rfl, rfl, hb2⟩ := hrel
          have hnm : n < m := by omega
          have G2 := G.step hb2
          have R2 := R.step hb2
          have Q2 := Q.step hb2
          have I2 := rI.step hb2
          obtain ⟨b, off, rfl, _, hc⟩ := Q2.rd (by simp; omega)
          have hcn := hc n (by simpa using hnm)
          dsimp only at hcn
          rw [show zd ((List.range m).map fun k => ((f k : Nat) : Int)) n = ((f n : Nat) : Int) by unfold zd; simp [List.getD, hnm]] at hcn
          clear hc
          have hfn := HLT.out n hnm
          have hokn : okC (gR es) f m j n = (decide (f n + j + 1 = h) && (j == 0 || gR es n (chn (gR es) f m (j - 1)))) := by unfold okC; rw [HH.out]
          obtain ⟨p, hp⟩ : ∃ p, p = f n := ⟨_, rfl⟩
          rw [← hp] at hcn hfn hokn
          clear hp
          by_cases hnx : n = x
          · have HNX := Lib.hid hnx
            have hokx := HOK.out
            rw [← hnx, hokn, Bool.and_eq_true, decide_eq_true_eq] at hokx
            obtain ⟨hw, hed⟩ := hokx
            have b1 : ((p : Int) == (h : Int) - 1 - (j : Int)) = true := by simp; omega
            have hnt : tailC (gR es) f m (j + 1) = n :: tailC (gR es) f m j := by rw [HN.out, HNX.out]
            have HNT := Lib.hid hnt
            have hBw := hb.trans (hb2.mono hsz)
            have hsw := hBw.size
            have h4 : (1 + j) * 8 ≤ 140737488355328 := by omega
            have h3 : 1 + j ≤ maxLen := by unfold maxLen; omega
            clear hw hokn hnx hnt
            rcases Nat.eq_zero_or_pos j with h0 | hjp
            · subst h0
              have hvv := hv0 rfl
              injection hvv with hA _ hc0
              subst hA
              subst hc0
              have hz0 : zs = [] := List.length_eq_zero_iff.1 HL.out
              have HZ0 := Lib.hid hz0
              have hlit := own_lit1 wr 3 (.int .i64 (n : Int)) w3.heap.size hsw
              have hb9 : Below w3.heap.size w3 (wr.alloc (.cells #[.int .i64 (n : Int)] 3)) := hBw.alloc hsw _
              have hrow : (wr.alloc (.cells #[.int .i64 (n : Int)] 3)).ownsRow w3.heap.size 3 1 (.slice (some ⟨wr.heap.size, 0, none⟩) 1 1) (toI (tailC (gR es) f m (0 + 1))).length (iVals (toI (tailC (gR es) f m (0 + 1)))) := by
                rw [HNT.out, toI_cons, ← HZ.out, HZ0.out]
                exact hlit
              clear G G2 R R2 Q Q2 g1 he q2 I2 rI hown hb hb2 hz0 hed hv0
              go_wp2_with (at_builtin; with_reducible refine wpList_append_own_none rfl _ _ 25 rfl w3.heap.size 3 j0 1 Tryd.underlying25 gi (.slice (some ⟨wr.heap.size, 0, none⟩) 1 1) 1 [.int .i64 (n : Int)] rfl hlit rfl ?_)
              go_roundw
              case rel => exact ⟨0 + 1, by omega, by go_num, fun h => by omega, hrow, hb9⟩
              case measure => simp [intOf]; omega
            · have hed2 : gR es n (chn (gR es) f m (j - 1)) = true := by
                rcases Bool.or_eq_true _ _ |>.mp hed with h9 | h9
                · simp at h9; omega
                · exact h9
              have hz1 : zd zs 0 = ((chn (gR es) f m (j - 1) : Nat) : Int) := by
                rw [HZ.out, show tailC (gR es) f m j = tailC (gR es) f m (j - 1 + 1) by rw [Nat.sub_add_cancel hjp], tailC_cons, toI_cons]
                rfl
              obtain ⟨y, hy⟩ : ∃ y, y = chn (gR es) f m (j - 1) := ⟨_, rfl⟩
              rw [← hy] at hed2 hz1
              obtain ⟨b3, off3, rfl, hb3, hc3⟩ := I2.rd (by rw [HL.out]; exact hjp)
              have hcz := hc3 0 (by rw [HL.out]; exact hjp)
              dsimp only at hcz
              rw [hz1, Nat.add_zero] at hcz
              have ge := G2.e
              have H1 : Hid (∀ W : World, HeldJ wr w.heap.size (.slice A es.length c) b3 off3 (.int .i64 (y : Int)) W → Calls Tryd.prog 28 #[.slice A es.length c, .agg #[.int .i64 (n : Int), .int .i64 (y : Int)]] W fun e w' => e = .returned (.bool true) ∧ HeldJ wr w.heap.size (.slice A es.length c) b3 off3 (.int .i64 (y : Int)) w') := fun W hW => by
                refine (containsE_any A c es (n : Int) (y : Int) W ((R2.below hW.2.2).more hW.2.2.size)).mono ?_
                rintro e w' ⟨rfl, hbe⟩
                exact ⟨by rw [show decide (((n : Int), (y : Int)) ∈ es) = true from hed2], hW.step hbe⟩
              have HI2 := Lib.hid I2
              have hbr := Below.refl wr.heap.size wr
              have hjz : (0 : Int) < (j : Int) := by omega
              clear G G2 R R2 Q Q2 g1 he q2 I2 rI hown hb hb2 hed hed2 hv0 hc3 hz1 hy
              go_upto_region 12 with fail
              go_region_held3 (HeldJ wr w.heap.size (.slice A es.length c) b3 off3 (.int .i64 (y : Int)))
                (first
                  | (go_split_ands; refine ⟨?_, ?_, ?_⟩ <;> assumption)
                  | (go_split_ands; exact HeldJ.drew ⟨‹_›, ‹_›, ‹_›⟩))
                (first
                  | (go_at_call 28; refine (H1.out _ (by assumption)).mono ?_; rintro e w5 ⟨rfl, hq5⟩))
              all_goals
                have hbw5 : Below wr.heap.size wr w5 := hq5.2.2
                have hs5 := hbw5.size
                have hlit := own_lit1 w5 3 (.int .i64 (n : Int)) w3.heap.size (by omega)
                have I5 := HI2.out.step hbw5
                obtain ⟨b4, off4, hA4, hb4, hc4⟩ := I5.rd (by rw [HL.out]; exact hjp)
                injection hA4 with hA4
                injection hA4 with hA4 hO4
                subst hA4
                subst hO4
                have hsrc : Hid (∀ k u, (iVals zs)[k]? = some u → (w5.alloc (.cells #[.int .i64 (n : Int)] 3)).cell? ((⟨b3, off3, none⟩ : Addr).add k) = some u) := fun k u hu => by
                  have hkl := (List.getElem?_eq_some_iff.1 hu).1
                  have hkl2 : k < zs.length := by simpa [iVals] using hkl
                  rw [iVals_at _ _ hkl2] at hu
                  rw [Addr.add_lit]
                  refine Lib.cell?_alloc_some _ ?_
                  rw [← hu]
                  exact hc4 k hkl2
                have hBw5 := hBw.trans (hbw5.mono hsw)
                have hln : Hid ((iVals zs).length = j * 1) := by unfold Hid; unfold iVals; rw [List.length_map, HL.out, Nat.mul_one]
                have hone : Hid (∀ u ∈ iVals zs, u.oneCell' = true) := fun u hu => by
                  unfold iVals at hu
                  obtain ⟨z, _, rfl⟩ := List.mem_map.1 hu
                  rfl
                have h5 : w3.heap.size ≤ (w5.alloc (.cells #[.int .i64 (n : Int)] 3)).heap.size := by simp; omega
                clear hc4 I5 hq5 hcz
                go_wp2_with (at_builtin; refine wpList_append_own _ rfl _ _ 25 rfl w3.heap.size 3 j0 (.int .i64 0) 1 8 Tryd.underlying25 gi gz0 gz1 gz2 rfl (by decide) _ _ _ rfl hlit ⟨b3, off3, none⟩ j c3 (iVals zs) rfl hln.out hsrc.out hone.out h3 h4 h5 ?_; intro v' w9 hown' hgrow _)
                have hB9 : Below w3.heap.size w3 w9 := (hBw5.alloc (by omega) _).grown hgrow (by simp; omega) (own_base hlit)
                have hown9 : w9.ownsRow w3.heap.size 3 1 v' (toI (tailC (gR es) f m (j + 1))).length (iVals (toI (tailC (gR es) f m (j + 1)))) := by
                  rw [HNT.out, toI_cons, ← HZ.out, List.length_cons, HL.out, Nat.add_comm]
                  exact hown'
                go_roundw
                case rel => exact ⟨j + 1, by omega, by go_num, fun h => by omega, hown9, hB9⟩
                case measure => simp [intOf]; omega
          · have hno := HM.out n (by omega)
            rw [hokn] at hno
            have hBw2 := hb2
            clear hokn
            by_cases hw : p + j + 1 = h
            · rw [decide_eq_true hw, Bool.true_and, Bool.or_eq_false_iff] at hno
              obtain ⟨hj0, hed⟩ := hno
              have hjp : 0 < j := by have := beq_eq_false_iff_ne.1 hj0; omega
              have b1 : ((p : Int) == (h : Int) - 1 - (j : Int)) = true := by simp; omega
              have hz1 : zd zs 0 = ((chn (gR es) f m (j - 1) : Nat) : Int) := by
                rw [HZ.out, show tailC (gR es) f m j = tailC (gR es) f m (j - 1 + 1) by rw [Nat.sub_add_cancel hjp], tailC_cons, toI_cons]
                rfl
              obtain ⟨y, hy⟩ : ∃ y, y = chn (gR es) f m (j - 1) := ⟨_, rfl⟩
              rw [← hy] at hed hz1
              obtain ⟨b3, off3, rfl, hb3, hc3⟩ := I2.rd (by rw [HL.out]; exact hjp)
              have hcz := hc3 0 (by rw [HL.out]; exact hjp)
              dsimp only at hcz
              rw [hz1, Nat.add_zero] at hcz
              have ge := G2.e
              have H1 : Hid (∀ W : World, HeldJ wr w.heap.size (.slice A es.length c) b3 off3 (.int .i64 (y : Int)) W → Calls Tryd.prog 28 #[.slice A es.length c, .agg #[.int .i64 (n : Int), .int .i64 (y : Int)]] W fun e w' => e = .returned (.bool false) ∧ HeldJ wr w.heap.size (.slice A es.length c) b3 off3 (.int .i64 (y : Int)) w') := fun W hW => by
                refine (containsE_any A c es (n : Int) (y : Int) W ((R2.below hW.2.2).more hW.2.2.size)).mono ?_
                rintro e w' ⟨rfl, hbe⟩
                exact ⟨by rw [show decide (((n : Int), (y : Int)) ∈ es) = false from hed], hW.step hbe⟩
              have hbr := Below.refl wr.heap.size wr
              have hjz : (0 : Int) < (j : Int) := by omega
              clear G G2 R R2 Q Q2 g1 he q2 I2 rI hown hb hed hv0 hc3 hz1 hy hj0 hw
              go_upto_region 12 with fail
              go_region_held3 (HeldJ wr w.heap.size (.slice A es.length c) b3 off3 (.int .i64 (y : Int)))
                (first
                  | (go_split_ands; refine ⟨?_, ?_, ?_⟩ <;> assumption)
                  | (go_split_ands; exact HeldJ.drew ⟨‹_›, ‹_›, ‹_›⟩))
                (first
                  | (go_at_call 28; refine (H1.out _ (by assumption)).mono ?_; rintro e w5 ⟨rfl, hq5⟩))
              all_goals
                have hB5 := hb2.trans (hq5.2.2.mono hb2.size)
                go_wp2_with fail
                go_roundw
                case rel => exact ⟨n + 1, by omega, rfl, by go_num, hB5⟩
                case measure => simp [intOf]; omega
            · have b1 : ((p : Int) == (h : Int) - 1 - (j : Int)) = false := by simp; omega
              clear G G2 R R2 Q Q2 g1 he q2 I2 rI hown hb hno hw
              rcases Nat.eq_zero_or_pos j with h0 | hjp
              · subst h0
                go_wp2_with fail
                go_roundw
                case rel => exact ⟨n + 1, by omega, rfl, by go_num, hb2⟩
                case measure => simp [intOf]; omega
              · have hjz : (0 : Int) < (j : Int) := by omega
                go_upto_region 12 with fail
                go_quiet (fail)
                go_wp2_with fail
                go_roundw
                case rel => exact ⟨n + 1, by omega, rfl, by go_num, below_drewN hb2 _⟩
                case measure => simp [intOf]; omega
      · obtain rfl : j = h := by omega
        go_wp2_with fail
        go_ret2
        have HT : toI (chain (gR es) f m) = toI (tailC (gR es) f m j) := by rw [← tailC_all, ← HH.out]
        rw [HC.out, HEE.out, HT, hlen]
        exact ⟨A3, c3, rfl, rI, hB.trans (hb.mono hs)⟩
  · have HC : Hid (chnG N es = []) := Lib.hid (by unfold chnG; rw [if_neg hE])
    have HL0 := levG_no hE
    rw [HL0] at q2 
    rw [HL0, hgtG_no hE]
    obtain ⟨E, hEE⟩ : ∃ E, E = errn N es := ⟨_, rfl⟩
    have HEE := Lib.hid hEE
    rw [← hEE]
    clear hE hEE HL0
    go_wp2_with fail
    go_loopw [9, 8] (fun i v wr => i = .int .i64 (-1) ∧ v = .slice none 0 0 ∧ wr = w3) (fun _ _ _ => 0)
    case atStart => exact ⟨rfl, rfl, rfl⟩
    case round =>
      obtain ⟨rfl, rfl, rfl⟩ := hrel
      go_wp2_with fail
      go_ret2
      rw [HC.out, ← HEE.out]
      exact ⟨none, 0, rfl, ⟨fun k => by simp [zd], fun k => by simp [zd], by simp, fun h => by simp at h⟩, hB⟩
end Go.Proofs.YtaboafkpmgadmaaDoor

namespace Go.Proofs.YtaboafkpmgadmaaDoor
open Go.RowKit Go.Shelf
set_option maxRecDepth 100000

theorem chain_any (A : Option Addr) (c : Nat) (N : Int) (es : List (Int × Int)) (w : World) (he : RdE w w.heap.size A es) (hT : Tab w) :
    Calls Tryd.prog 33 #[.agg #[.int .i64 N, .slice A es.length c]] w fun e w' => ∃ A1 c1, e = .returned (.tuple #[.slice A1 (chnG N es).length c1, .int .i64 (errn N es)]) ∧ RdI w' w'.heap.size A1 (chnG N es) ∧ Below w.heap.size w w' := by
  by_cases hE : errn N es = 0
  · obtain ⟨m, rfl, hin, hfull⟩ := errn_split hE
    have hm := okN_of hin
    have hC : chnG m es = toI (chain (gR es) (lvs m es) m) := by unfold chnG; rw [if_pos hE, Int.toNat_natCast]
    have hlt : ∀ b, b < m → lvs m es b < m := fun _ hb => lvs_lt hin hfull hb
    have hhm : hgt (lvs m es) m ≤ m := hgt_le _ hlt
    have hLev := lvs_lev hin hfull
    refine (callsIn_wide.1 (chain_in 14 (by omega) A c m es w he hin hfull hT)).mono ?_
    rintro e w' ⟨g, rfl, hr, hb⟩
    have hlen : (chnG m es).length = hgt (lvs m es) m := by rw [hC, toI_len]; unfold chain; simp
    rw [hlen, hE]
    refine ⟨some ⟨g, 0, none⟩, hgt (lvs m es) m, rfl, ?_, hb⟩
    have h2 : w'.rowIs g 3 (hgt (lvs m es) m) (fun i => .int .i64 (if i < hgt (lvs m es) m then ((chn (gR es) (lvs m es) m (hgt (lvs m es) m - 1 - i) : Nat) : Int) else 0)) := hr.congr fun i hi => by rw [if_pos hi]
    have h3 := rowIs_rdI h2 (fun k => by
      split
      · have := (chn_at hLev (gR_lt hin) (hgt (lvs m es) m - 1 - k) (by omega)).1
        omega
      · omega) (by omega)
    rw [hC]
    unfold chain toI
    rw [List.map_map]
    rwa [show (List.range (hgt (lvs m es) m)).map (fun i => if i < hgt (lvs m es) m then ((chn (gR es) (lvs m es) m (hgt (lvs m es) m - 1 - i) : Nat) : Int) else 0) = _ from List.map_congr_left fun k hk => if_pos (List.mem_range.1 hk)] at h3
  · have hC : chnG N es = [] := by unfold chnG; rw [if_neg hE]
    refine (chain_no A c N es w he hT hE).mono ?_
    rintro e w' ⟨rfl, hb⟩
    rw [hC]
    exact ⟨none, 0, rfl, ⟨fun k => by simp [zd], fun k => by simp [zd], by simp, fun h => by simp at h⟩, hb⟩

set_option maxHeartbeats 4000000 in
theorem levelsLaw_any (A : Option Addr) (c : Nat) (N : Int) (es : List (Int × Int)) (w : World) (he : RdE w w.heap.size A es) (_hl : es.length ≤ 1048576) (hT : Tab w) :
    Calls Tryd.prog 6 #[.agg #[.int .i64 N, .slice A es.length c]] w fun e w' => e = .returned (.bool true) ∧ Below w.heap.size w w' := by
  have f1 := fun (W : World) (h1 : RdE W W.heap.size A es) (h2 : Tab W) => levels_any A c N es W h1 h2
  have f2 := fun (W : World) (h1 : RdE W W.heap.size A es) => clevels_any A c N es W h1
  have f3 := fun (W : World) (h1 : RdE W W.heap.size A es) (h2 : Tab W) => heightG_any A c N es W h1 h2
  have f4 := fun (W : World) (h1 : RdE W W.heap.size A es) => cheight_any A c N es W h1
  have f5 := fun (W : World) (h1 : RdE W W.heap.size A es) (h2 : Tab W) => chain_any A c N es W h1 h2
  have f6 := fun (W : World) (h1 : RdE W W.heap.size A es) => cchain_any A c N es W h1
  obtain ⟨E, hE⟩ : ∃ E, E = errn N es := ⟨_, rfl⟩
  obtain ⟨H, hH⟩ : ∃ H, H = hgtG N es := ⟨_, rfl⟩
  obtain ⟨X, hX⟩ : ∃ X, X = levG N es := ⟨_, rfl⟩
  obtain ⟨Y, hY⟩ : ∃ Y, Y = chnG N es := ⟨_, rfl⟩
  rw [← hE] at f1 f2 f3 f4 f5 f6
  rw [← hX] at f1 f2
  rw [← hH] at f3 f4
  rw [← hY] at f5 f6
  have F1 := Lib.hid f1
  have F2 := Lib.hid f2
  have F3 := Lib.hid f3
  have F4 := Lib.hid f4
  have F5 := Lib.hid f5
  have F6 := Lib.hid f6
  clear f1 f2 f3 f4 f5 f6 hE hH hX hY
  go_enter Tryd.func6, Tryd.ntmps6
  go_wp2_with fail
  have g1 := GB.new w 24 N (.slice A es.length c)
  have hB := below_alloc w (.cells #[.int .i64 N, .slice A es.length c] 24)
  obtain ⟨w1, hw1⟩ : ∃ w1, w1 = w.alloc (.cells #[.int .i64 N, .slice A es.length c] 24) := ⟨_, rfl⟩
  rw [← hw1] at g1 hB ⊢
  have hs := hB.size
  replace he := he.step hB
  replace hT := hT.step hB
  clear hw1
  have n1 := g1.n
  have e1 := g1.e
  refine (F1.out _ he hT).mono ?_
  rintro e w2 ⟨A2, c2, rfl, x2, hb⟩
  replace g1 := g1.step hb
  replace he := he.step hb
  replace hT := hT.step hb
  replace hB := below_step hB hs hb
  replace hs := hB.size
  clear hb n1 e1
  have n1 := g1.n
  have e1 := g1.e
  go_wp2_with fail
  refine (F2.out _ he).mono ?_
  rintro e w3 ⟨A3, c3, rfl, x3, hb⟩
  replace g1 := g1.step hb
  replace he := he.step hb
  replace hT := hT.step hb
  replace x2 := x2.step hb
  replace hB := below_step hB hs hb
  replace hs := hB.size
  clear hb n1 e1
  have n1 := g1.n
  have e1 := g1.e
  go_wp2_with fail
  refine (F3.out _ he hT).mono ?_
  rintro e w4 ⟨rfl, hb⟩
  replace g1 := g1.step hb
  replace he := he.step hb
  replace hT := hT.step hb
  replace x2 := x2.step hb
  replace x3 := x3.step hb
  replace hB := below_step hB hs hb
  replace hs := hB.size
  clear hb n1 e1
  have n1 := g1.n
  have e1 := g1.e
  go_wp2_with fail
  refine (F4.out _ he).mono ?_
  rintro e w5 ⟨rfl, hb⟩
  replace g1 := g1.step hb
  replace he := he.step hb
  replace hT := hT.step hb
  replace x2 := x2.step hb
  replace x3 := x3.step hb
  replace hB := below_step hB hs hb
  replace hs := hB.size
  clear hb n1 e1
  have n1 := g1.n
  have e1 := g1.e
  go_wp2_with fail
  refine (F5.out _ he hT).mono ?_
  rintro e w6 ⟨A6, c6, rfl, x6, hb⟩
  replace g1 := g1.step hb
  replace he := he.step hb
  replace hT := hT.step hb
  replace x2 := x2.step hb
  replace x3 := x3.step hb
  replace hB := below_step hB hs hb
  replace hs := hB.size
  clear hb n1 e1
  have n1 := g1.n
  have e1 := g1.e
  go_wp2_with fail
  refine (F6.out _ he).mono ?_
  rintro e w7 ⟨A7, c7, rfl, x7, hb⟩
  replace g1 := g1.step hb
  replace he := he.step hb
  replace hT := hT.step hb
  replace x2 := x2.step hb
  replace x3 := x3.step hb
  replace x6 := x6.step hb
  replace hB := below_step hB hs hb
  replace hs := hB.size
  clear hb n1 e1
  clear g1 he hT
  go_wp2_with fail
  refine (equalI_same A2 A3 c2 c3 X _ x2 x3).mono ?_
  rintro e w8 ⟨rfl, hb⟩
  replace x6 := x6.step hb
  replace x7 := x7.step hb
  replace hB := below_step hB hs hb
  replace hs := hB.size
  clear hb x2 x3
  go_wp2_with fail
  refine (equalI_same A6 A7 c6 c7 Y _ x6 x7).mono ?_
  rintro e w9 ⟨rfl, hb⟩
  replace hB := below_step hB hs hb
  clear hb
  go_wp2_with fail
  go_ret
  exact ⟨rfl, hB⟩
end Go.Proofs.YtaboafkpmgadmaaDoor

namespace Go.Proofs.YtaboafkpmgadmaaDoor
open Go.RowKit

theorem len_sub {L zs : List Int} (hn : L.Nodup) (h : ∀ x, x ∈ L → x ∈ zs) : L.length ≤ zs.length := by
  induction L generalizing zs with
  | nil => exact Nat.zero_le _
  | cons a L ih =>
    rw [List.nodup_cons] at hn
    have ha := h a (List.mem_cons_self ..)
    have h1 := ih (zs := zs.erase a) hn.2 fun x hx => (List.mem_erase_of_ne (fun e => hn.1 (by rw [← e]; exact hx))).2 (h x (List.mem_cons_of_mem _ hx))
    have h2 := List.length_erase_of_mem ha
    have h3 := List.length_pos_of_mem ha
    rw [List.length_cons]
    omega
theorem twice {zs : List Int} (h : ¬ zs.Nodup) : ∃ d, d ∈ zs ∧ d ∈ zs.erase d := by
  induction zs with
  | nil => exact absurd List.nodup_nil h
  | cons a L ih =>
    by_cases ha : a ∈ L
    · exact ⟨a, List.mem_cons_self .., by rw [List.erase_cons_head]; exact ha⟩
    · obtain ⟨d, h1, h2⟩ := ih fun hn => h (List.nodup_cons.2 ⟨ha, hn⟩)
      refine ⟨d, List.mem_cons_of_mem _ h1, ?_⟩
      have : a ≠ d := fun e => ha (e ▸ h1)
      rw [List.erase_cons_tail (by simpa using this)]
      exact List.mem_cons_of_mem _ h2
theorem nodup_len {L zs : List Int} (hn : L.Nodup) (h : ∀ x, x ∈ L ↔ x ∈ zs) : L.length = zs.length ↔ zs.Nodup := by
  constructor
  · intro e
    false_or_by_contra
    rename_i hc
    obtain ⟨d, h1, h2⟩ := twice hc
    have h3 := len_sub (zs := zs.erase d) hn fun x hx => by
      by_cases e : x = d
      · exact e ▸ h2
      · exact (List.mem_erase_of_ne e).2 ((h x).1 hx)
    have h4 := List.length_erase_of_mem h1
    have h5 := List.length_pos_of_mem h1
    omega
  · intro hz
    exact Nat.le_antisymm (len_sub hn fun x hx => (h x).1 hx) (len_sub hz fun x hx => (h x).2 hx)

/-- all are nodes -/
def inA (m : Nat) (zs : List Int) : Bool := zs.all fun z => decide (0 ≤ z) && decide (z < (m : Int))
theorem inA_iff {m : Nat} {zs : List Int} : inA m zs = true ↔ ∀ z, z ∈ zs → 0 ≤ z ∧ z < (m : Int) := by
  unfold inA
  rw [List.all_eq_true]
  exact ⟨fun h z hz => by have := h z hz; simpa using this, fun h z hz => by have := h z hz; simpa using this⟩
theorem size_nodup {m : Nat} (hm : m ≤ 200) {zs : List Int} (h : inA m zs = true) : ones (ofS zs) (ofS zs).length = zs.length ↔ zs.Nodup := by
  have h1 : (lst zs).length = ones (ofS zs) (ofS zs).length := alist_ones _ _
  rw [← h1]
  refine nodup_len ((alist_sorted _ _).imp fun h => by omega) fun x => ?_
  rw [mem_lst]
  constructor
  · rintro ⟨k, hk, rfl⟩
    exact ((mem_alw _ _).1 hk).1
  · intro hx
    have := inA_iff.1 h x hx
    exact ⟨x.toNat, (mem_alw _ _).2 ⟨by rw [show ((x.toNat : Nat) : Int) = x by omega]; exact hx, by omega⟩, by omega⟩

/-- is one of the list behind z? -/
def folB (m : Nat) (es : List (Int × Int)) (zs : List Int) (z : Int) : Bool := zs.any fun y => fw (gR es) m z.toNat y.toNat
/-- all are nodes, none twice, and none behind another one -/
def apB (m : Nat) (es : List (Int × Int)) (zs : List Int) : Bool := inA m zs && (decide zs.Nodup && !zs.any (folB m es zs))
theorem apB_iff {m : Nat} {es : List (Int × Int)} {zs : List Int} : apB m es zs = true ↔ (∀ z, z ∈ zs → 0 ≤ z ∧ z < (m : Int)) ∧ zs.Nodup ∧ ∀ z, z ∈ zs → ∀ y, y ∈ zs → fw (gR es) m z.toNat y.toNat = false := by
  unfold apB
  rw [Bool.and_eq_true, Bool.and_eq_true, inA_iff, decide_eq_true_iff, Bool.not_eq_true', ← Bool.not_eq_true, List.any_eq_true]
  refine and_congr Iff.rfl (and_congr Iff.rfl ⟨fun h z hz y hy => ?_, fun h hc => ?_⟩)
  · rw [← Bool.not_eq_true]
    intro hf
    exact h ⟨z, hz, by unfold folB; rw [List.any_eq_true]; exact ⟨y, hy, hf⟩⟩
  · obtain ⟨z, hz, hf⟩ := hc
    unfold folB at hf
    rw [List.any_eq_true] at hf
    obtain ⟨y, hy, hf⟩ := hf
    rw [h z hz y hy] at hf
    cases hf
theorem zd_nodup {zs : List Int} : zs.Nodup ↔ ∀ a, a < zs.length → ∀ b, b < a → zd zs b ≠ zd zs a := by
  unfold List.Nodup
  rw [List.pairwise_iff_getElem]
  have hz : ∀ k (hk : k < zs.length), zd zs k = zs[k] := fun k hk => by unfold zd; simp [List.getD, hk]
  constructor
  · intro h a ha b hb
    rw [hz a ha, hz b (by omega)]
    exact h b a (by omega) ha hb
  · intro h b a hb ha hlt
    rw [← hz a ha, ← hz b hb]
    exact h a ha b hlt
theorem apB_far {m : Nat} {es : List (Int × Int)} {zs : List Int} {a : Nat} (ha : a < zs.length) (h : ¬ (0 ≤ zd zs a ∧ zd zs a < (m : Int))) : apB m es zs = false := by
  rw [← Bool.not_eq_true, apB_iff]
  exact fun hc => h (hc.1 _ (zd_mem zs a ha))
theorem apB_same {m : Nat} {es : List (Int × Int)} {zs : List Int} {a b : Nat} (ha : a < zs.length) (hb : b < a) (h : zd zs b = zd zs a) : apB m es zs = false := by
  rw [← Bool.not_eq_true, apB_iff]
  exact fun hc => zd_nodup.1 hc.2.1 a ha b hb h
theorem apB_behind {m : Nat} {es : List (Int × Int)} {zs : List Int} {a b : Nat} (ha : a < zs.length) (hb : b < zs.length) (h : fw (gR es) m (zd zs b).toNat (zd zs a).toNat = true) : apB m es zs = false := by
  rw [← Bool.not_eq_true, apB_iff]
  intro hc
  rw [hc.2.2 _ (zd_mem zs b hb) _ (zd_mem zs a ha)] at h
  cases h
theorem apB_good {m : Nat} {es : List (Int × Int)} {zs : List Int} (hirr : ∀ i, fw (gR es) m i i = false)
    (h : ∀ a, a < zs.length → (0 ≤ zd zs a ∧ zd zs a < (m : Int)) ∧ ∀ b, b < a → zd zs b ≠ zd zs a ∧ fw (gR es) m (zd zs b).toNat (zd zs a).toNat = false ∧ fw (gR es) m (zd zs a).toNat (zd zs b).toNat = false) : apB m es zs = true := by
  rw [apB_iff]
  refine ⟨fun z hz => ?_, zd_nodup.2 fun a ha b hb => ((h a ha).2 b hb).1, fun z hz y hy => ?_⟩
  · obtain ⟨a, ha, e⟩ := List.getElem_of_mem hz
    have := (h a ha).1
    rwa [show zd zs a = z by unfold zd; simp [List.getD, ha, e]] at this
  · obtain ⟨a, ha, e1⟩ := List.getElem_of_mem hz
    obtain ⟨b, hb, e2⟩ := List.getElem_of_mem hy
    rw [show z = zd zs a by unfold zd; simp [List.getD, ha, e1], show y = zd zs b by unfold zd; simp [List.getD, hb, e2]]
    rcases Nat.lt_trichotomy a b with hlt | rfl | hlt
    · exact ((h b hb).2 a hlt).2.1
    · exact hirr _
    · exact ((h a ha).2 b hlt).2.2
/-- what is behind z meets the list's set just where one of the list is behind z -/
theorem and_none {m : Nat} (hm : m ≤ 200) {es : List (Int × Int)} (hin : inR m es = true) {zs : List Int} (h : inA m zs = true) (z : Int) : decide (0 < (mrg andN (beh m es z.toNat) (ofS zs)).length) = folB m es zs z := by
  have hbit : ∀ n, bitB (mrg andN (beh m es z.toNat) (ofS zs)) n = (fw (gR es) m z.toNat n && decide (n ∈ alw zs)) := fun n => by
    rw [bitB_tb, tb_and, ← bitB_tb, ← bitB_tb, beh_bit hin, ofS_bit]
  cases hf : folB m es zs z with
  | true =>
    unfold folB at hf
    rw [List.any_eq_true] at hf
    obtain ⟨y, hy, hf⟩ := hf
    rw [decide_eq_true_iff]
    have hy2 := inA_iff.1 h y hy
    have h1 := hbit y.toNat
    rw [hf, Bool.true_and, decide_eq_true ((mem_alw _ _).2 ⟨by rw [show ((y.toNat : Nat) : Int) = y by omega]; exact hy, by omega⟩)] at h1
    have := bit_in _ _ h1
    omega
  | false =>
    rw [decide_eq_false_iff_not]
    have : mrg andN (beh m es z.toNat) (ofS zs) = [] := eq_of_bitB (mrg_noTail _ _ _) noTail_nil (ws_and (beh_ws _ _ _)) ws_nil fun n => by
      rw [hbit, bitB_tb, tb_nil]
      rw [← Bool.not_eq_true, Bool.and_eq_true, decide_eq_true_iff]
      rintro ⟨h1, h2⟩
      unfold folB at hf
      rw [List.any_eq_false] at hf
      exact hf _ ((mem_alw _ _).1 h2).1 (by rw [Int.toNat_natCast]; exact h1)
    rw [this]
    simp
end Go.Proofs.YtaboafkpmgadmaaDoor

namespace Go.Proofs.YtaboafkpmgadmaaDoor
open Go.RowKit Go.Shelf
set_option maxRecDepth 100000

/-- is it no node? -/
def noB (N : Int) (z : Int) : Bool := !(decide (0 ≤ z) && decide (z < N))
theorem noB_any {m : Nat} {zs : List Int} : zs.any (noB m) = !inA m zs := by
  unfold inA
  induction zs with
  | nil => rfl
  | cons a l ih => rw [List.any_cons, List.all_cons, ih, Bool.not_and]; rfl

theorem isNo_any (N : Int) (B : Nat) (z : Int) (w : World) (hg : w.cell? ⟨B, 0, none⟩ = some (.int .i64 N)) :
    Calls Tryd.prog 69 #[.int .i64 z, .pointer (some ⟨B, 0, none⟩)] w fun e w' => e = .returned (.bool (noB N z)) ∧ Below w.heap.size w w' := by
  have hE : ∀ v, noB N z = v → noB N z = v := fun _ h => h
  have HE := Lib.hid hE
  clear hE
  obtain ⟨R, hR⟩ : ∃ R, R = noB N z := ⟨_, rfl⟩
  rw [← hR]
  have HR := Lib.hid hR
  clear hR
  go_enter Tryd.func69, Tryd.ntmps69
  by_cases h1 : z < 0
  · go_wp2_with fail
    go_ret
    exact ⟨by rw [HR.out]; unfold noB; simp; omega, Below.refl _ _⟩
  · by_cases h2 : N ≤ z
    · go_wp2_with fail
      go_ret
      exact ⟨by rw [HR.out]; unfold noB; simp; omega, Below.refl _ _⟩
    · go_wp2_with fail
      go_ret
      exact ⟨by rw [HR.out]; unfold noB; simp; omega, Below.refl _ _⟩

/-- the cells that a call of the closure wants, and all that lay -/
abbrev HeldD (w1 : World) (B5 : Nat) (u5 : Value) (B8 : Nat) (u8 : Value) (b o : Nat) (u : Value) (w' : World) : Prop := w'.cell? ⟨B5, 0, none⟩ = some u5 ∧ w'.cell? ⟨B8, 0, none⟩ = some u8 ∧ w'.cell? ⟨b, o, none⟩ = some u ∧ Below w1.heap.size w1 w'
theorem HeldD.drew {w1 W : World} {B5 B8 b o : Nat} {u5 u8 u : Value} (h : HeldD w1 B5 u5 B8 u8 b o u W) : HeldD w1 B5 u5 B8 u8 b o u W.drew := ⟨h.1, h.2.1, h.2.2.1, h.2.2.2.drew⟩
theorem HeldD.step {w1 W w2 : World} {B5 B8 b o : Nat} {u5 u8 u : Value} (h : HeldD w1 B5 u5 B8 u8 b o u W) (hb : Below W.heap.size W w2) : HeldD w1 B5 u5 B8 u8 b o u w2 :=
  ⟨(hb.cell (p := ⟨B5, 0, none⟩) (World.block_lt_of_cell? _ _ h.1)).trans h.1, (hb.cell (p := ⟨B8, 0, none⟩) (World.block_lt_of_cell? _ _ h.2.1)).trans h.2.1, (hb.cell (p := ⟨b, o, none⟩) (World.block_lt_of_cell? _ _ h.2.2.1)).trans h.2.2.1, h.2.2.2.trans (hb.mono h.2.2.2.size)⟩

set_option maxHeartbeats 2000000 in
theorem isFol_any (m : Nat) (es : List (Int × Int)) (hin : inR m es = true) (zs : List Int) (hA : inA m zs = true) (B5 B8 : Nat) (A1 : Option Addr) (c1 : Nat) (A2 : Option Addr) (c2 : Nat) (z : Int) (hz : 0 ≤ z ∧ z < (m : Int)) (w : World)
    (h5 : w.cell? ⟨B5, 0, none⟩ = some (.slice A1 m c1)) (hu : RdUU w w.heap.size A1 (behs m es)) (h8 : w.cell? ⟨B8, 0, none⟩ = some (.slice A2 (ofS zs).length c2)) (hs : RdU w w.heap.size A2 (ofS zs)) :
    Calls Tryd.prog 72 #[.int .i64 z, .pointer (some ⟨B5, 0, none⟩), .pointer (some ⟨B8, 0, none⟩)] w fun e w' => e = .returned (.bool (folB m es zs z)) ∧ Below w.heap.size w w' := by
  have hm := okN_of hin
  obtain ⟨x, rfl⟩ : ∃ x : Nat, z = (x : Int) := ⟨z.toNat, by omega⟩
  have hx : x < m := by omega
  have hand := and_none (m := m) (by omega) hin hA (x : Int)
  rw [Int.toNat_natCast] at hand
  obtain ⟨b, off, A5, c5, rfl, hb5, hc5, hs5⟩ := hu.at_ (k := x) (by rw [behs_len]; exact hx)
  rw [st_behs _ hx] at hc5 hs5
  have hx0 : (0 : Int) ≤ (x : Int) := hz.1
  have hx1 : (x : Int) < (m : Int) := hz.2
  have l1 := beh_len m es x
  have l2 := ofS_len zs
  have l3 := mrg_le andN (beh m es x) (ofS zs)
  obtain ⟨R, hR⟩ : ∃ R, R = folB m es zs (x : Int) := ⟨_, rfl⟩
  rw [← hR] at hand ⊢
  obtain ⟨xs, hxs⟩ : ∃ xs, xs = beh m es x := ⟨_, rfl⟩
  rw [← hxs] at hc5 hs5 hand l1 l3
  obtain ⟨ys, hys⟩ : ∃ ys, ys = ofS zs := ⟨_, rfl⟩
  rw [← hys] at h8 hs hand l2 l3
  have hE2 : ∀ (W : World), HeldD w B5 (.slice (some ⟨b, off, none⟩) m c1) B8 (.slice A2 ys.length c2) b (off + x) (.slice A5 xs.length c5) W → Calls Tryd.prog 73 #[.slice A5 xs.length c5, .slice A2 ys.length c2] W
      fun e w' => ∃ v, e = .returned v ∧ (∃ L : Nat, (L = 0 ∧ R = false ∨ 0 < L ∧ R = true) ∧ L ≤ 1024 ∧ ∃ A9 c9, v = .slice A9 L c9) ∧ HeldD w B5 (.slice (some ⟨b, off, none⟩) m c1) B8 (.slice A2 ys.length c2) b (off + x) (.slice A5 xs.length c5) w' := fun W h => by
    refine (opandN_any A5 A2 c5 c2 xs ys _ ((hs5.below h.2.2.2).more h.2.2.2.size) ((hs.below h.2.2.2).more h.2.2.2.size) (by omega) (by omega)).mono ?_
    rintro e w' ⟨A9, c9, rfl, _, hb⟩
    refine ⟨_, rfl, ⟨_, ?_, by omega, A9, c9, rfl⟩, h.step hb⟩
    rcases Nat.eq_zero_or_pos (mrg andN xs ys).length with e0 | e0
    · refine .inl ⟨e0, ?_⟩
      rw [← hand, e0]
      rfl
    · refine .inr ⟨e0, ?_⟩
      rw [← hand]
      exact decide_eq_true e0
  have H2 := Lib.hid hE2
  have hb0 := Below.refl w.heap.size w
  clear hE2 hR hxs hys hs5 hu hs hin hA hand hz l1 l2 l3 hm
  go_enter Tryd.func72, Tryd.ntmps72
  go_wp2_with fail
  go_region_held3 (HeldD w B5 (.slice (some ⟨b, off, none⟩) m c1) B8 (.slice A2 ys.length c2) b (off + x) (.slice A5 xs.length c5))
    (first
      | (go_split_ands; refine ⟨?_, ?_, ?_, ?_⟩ <;> assumption)
      | (go_split_ands; exact HeldD.drew ⟨‹_›, ‹_›, ‹_›, ‹_›⟩))
    (first
      | (go_at_call 73; refine (H2.out _ (by assumption)).mono ?_; rintro e w2 ⟨v, rfl, ⟨L, hL, hL2, A9, c9, rfl⟩, hq2⟩))
  all_goals
    rcases hL with ⟨rfl, rfl⟩ | ⟨hL, rfl⟩
    all_goals
      go_wp2
      go_ret
      exact ⟨rfl, hq2.2.2.2⟩

set_option maxHeartbeats 2000000 in
theorem index1_any (p : Int → Bool) (A : Option Addr) (c : Nat) (zs : List Int) (B : Nat) (w : World) (hz : RdI w w.heap.size A zs)
    (hF : ∀ k, k < zs.length → ∀ W : World, Below w.heap.size w W → Calls Tryd.prog 69 #[.int .i64 (zd zs k), .pointer (some ⟨B, 0, none⟩)] W fun e w' => e = .returned (.bool (p (zd zs k))) ∧ Below W.heap.size W w') :
    Calls Tryd.prog 104 #[.slice A zs.length c, .func (.func 69) #[] #[.pointer (some ⟨B, 0, none⟩)]] w fun e w' => (∃ r : Int, e = .returned (.int .i64 r) ∧ (-1 ≤ r ∧ r ≤ 1152921504606846976) ∧ decide (0 ≤ r) = zs.any p) ∧ Below w.heap.size w w' := by
  have hr := hz.room
  have F := Lib.hid hF
  clear hF
  go_enter Tryd.func104, Tryd.ntmps104
  go_wp2_with fail
  go_loopw [8] (fun i wr => ∃ k : Nat, k ≤ zs.length ∧ i = .int .i64 k ∧ Hid ((zs.take k).any p = false) ∧ Below w.heap.size w wr) (fun i _ => zs.length - (intOf i).toNat)
  case atStart => exact ⟨0, Nat.zero_le _, rfl, Lib.hid rfl, Below.refl _ _⟩
  case round =>
    obtain ⟨k, hk, rfl, hno, hb⟩ := hrel
    by_cases hlt : k < zs.length
    · obtain ⟨b, off, rfl, hbb, hc⟩ := hz.rd (by omega)
      have hcx := (hb.cell (p := ⟨b, off + k, none⟩) hbb).trans (hc k hlt)
      clear hc
      have hs := hb.size
      cases hp : p (zd zs k) with
      | true =>
        have HP := Lib.hid hp
        clear hp
        go_wp2_with (first
          | (go_at_call 69; refine (F.out k hlt _ hb).mono ?_; rw [HP.out]; rintro e w2 ⟨rfl, hb2⟩)
          | fail)
        go_ret
        refine ⟨⟨(k : Int), rfl, by omega, ?_⟩, hb.trans (hb2.mono hs)⟩
        have h1 : zs.any p = true := List.any_eq_true.2 ⟨_, zd_mem zs k hlt, HP.out⟩
        rw [h1]
        simp
      | false =>
        have HP := Lib.hid hp
        clear hp
        go_wp2_with (first
          | (go_at_call 69; refine (F.out k hlt _ hb).mono ?_; rw [HP.out]; rintro e w2 ⟨rfl, hb2⟩)
          | fail)
        go_roundw
        case rel =>
          refine ⟨k + 1, by omega, by go_num, Lib.hid ?_, hb.trans (hb2.mono hs)⟩
          rw [take_snoc zs k hlt, List.any_append, hno.out]
          simp [HP.out]
        case measure => simp [intOf]; omega
    · obtain rfl : k = zs.length := by omega
      go_wp2_with fail
      go_ret
      refine ⟨⟨-1, rfl, by omega, ?_⟩, hb⟩
      have := hno.out
      rw [List.take_length] at this
      rw [this]
      rfl
theorem contains1_any (p : Int → Bool) (A : Option Addr) (c : Nat) (zs : List Int) (B : Nat) (w : World) (hz : RdI w w.heap.size A zs)
    (hF : ∀ k, k < zs.length → ∀ W : World, Below w.heap.size w W → Calls Tryd.prog 69 #[.int .i64 (zd zs k), .pointer (some ⟨B, 0, none⟩)] W fun e w' => e = .returned (.bool (p (zd zs k))) ∧ Below W.heap.size W w') :
    Calls Tryd.prog 70 #[.slice A zs.length c, .func (.func 69) #[] #[.pointer (some ⟨B, 0, none⟩)]] w fun e w' => e = .returned (.bool (zs.any p)) ∧ Below w.heap.size w w' := by
  have F := Lib.hid (index1_any p A c zs B w hz hF)
  clear hF
  obtain ⟨R, hR⟩ : ∃ R, R = zs.any p := ⟨_, rfl⟩
  rw [← hR] at F ⊢
  clear hR
  go_enter Tryd.func70, Tryd.ntmps70
  go_wp2_with (first
    | (go_at_call 104; refine F.out.mono ?_; rintro e w2 ⟨⟨r, rfl, hr, hd⟩, hb⟩; subst hd; rcases Int.lt_or_le r 0 with h0 | h0)
    | fail)
  all_goals
    go_ret
    exact ⟨by simp; try omega, hb⟩

set_option maxHeartbeats 2000000 in
theorem index2_any (p : Int → Bool) (A : Option Addr) (c : Nat) (zs : List Int) (B5 B8 : Nat) (w : World) (hz : RdI w w.heap.size A zs)
    (hF : ∀ k, k < zs.length → ∀ W : World, Below w.heap.size w W → Calls Tryd.prog 72 #[.int .i64 (zd zs k), .pointer (some ⟨B5, 0, none⟩), .pointer (some ⟨B8, 0, none⟩)] W fun e w' => e = .returned (.bool (p (zd zs k))) ∧ Below W.heap.size W w') :
    Calls Tryd.prog 104 #[.slice A zs.length c, .func (.func 72) #[] #[.pointer (some ⟨B5, 0, none⟩), .pointer (some ⟨B8, 0, none⟩)]] w fun e w' => (∃ r : Int, e = .returned (.int .i64 r) ∧ (-1 ≤ r ∧ r ≤ 1152921504606846976) ∧ decide (0 ≤ r) = zs.any p) ∧ Below w.heap.size w w' := by
  have hr := hz.room
  have F := Lib.hid hF
  clear hF
  go_enter Tryd.func104, Tryd.ntmps104
  go_wp2_with fail
  go_loopw [8] (fun i wr => ∃ k : Nat, k ≤ zs.length ∧ i = .int .i64 k ∧ Hid ((zs.take k).any p = false) ∧ Below w.heap.size w wr) (fun i _ => zs.length - (intOf i).toNat)
  case atStart => exact ⟨0, Nat.zero_le _, rfl, Lib.hid rfl, Below.refl _ _⟩
  case round =>
    obtain ⟨k, hk, rfl, hno, hb⟩ := hrel
    by_cases hlt : k < zs.length
    · obtain ⟨b, off, rfl, hbb, hc⟩ := hz.rd (by omega)
      have hcx := (hb.cell (p := ⟨b, off + k, none⟩) hbb).trans (hc k hlt)
      clear hc
      have hs := hb.size
      cases hp : p (zd zs k) with
      | true =>
        have HP := Lib.hid hp
        clear hp
        go_wp2_with (first
          | (go_at_call 72; refine (F.out k hlt _ hb).mono ?_; rw [HP.out]; rintro e w2 ⟨rfl, hb2⟩)
          | fail)
        go_ret
        refine ⟨⟨(k : Int), rfl, by omega, ?_⟩, hb.trans (hb2.mono hs)⟩
        have h1 : zs.any p = true := List.any_eq_true.2 ⟨_, zd_mem zs k hlt, HP.out⟩
        rw [h1]
        simp
      | false =>
        have HP := Lib.hid hp
        clear hp
        go_wp2_with (first
          | (go_at_call 72; refine (F.out k hlt _ hb).mono ?_; rw [HP.out]; rintro e w2 ⟨rfl, hb2⟩)
          | fail)
        go_roundw
        case rel =>
          refine ⟨k + 1, by omega, by go_num, Lib.hid ?_, hb.trans (hb2.mono hs)⟩
          rw [take_snoc zs k hlt, List.any_append, hno.out]
          simp [HP.out]
        case measure => simp [intOf]; omega
    · obtain rfl : k = zs.length := by omega
      go_wp2_with fail
      go_ret
      refine ⟨⟨-1, rfl, by omega, ?_⟩, hb⟩
      have := hno.out
      rw [List.take_length] at this
      rw [this]
      rfl
theorem contains2_any (p : Int → Bool) (A : Option Addr) (c : Nat) (zs : List Int) (B5 B8 : Nat) (w : World) (hz : RdI w w.heap.size A zs)
    (hF : ∀ k, k < zs.length → ∀ W : World, Below w.heap.size w W → Calls Tryd.prog 72 #[.int .i64 (zd zs k), .pointer (some ⟨B5, 0, none⟩), .pointer (some ⟨B8, 0, none⟩)] W fun e w' => e = .returned (.bool (p (zd zs k))) ∧ Below W.heap.size W w') :
    Calls Tryd.prog 70 #[.slice A zs.length c, .func (.func 72) #[] #[.pointer (some ⟨B5, 0, none⟩), .pointer (some ⟨B8, 0, none⟩)]] w fun e w' => e = .returned (.bool (zs.any p)) ∧ Below w.heap.size w w' := by
  have F := Lib.hid (index2_any p A c zs B5 B8 w hz hF)
  clear hF
  obtain ⟨R, hR⟩ : ∃ R, R = zs.any p := ⟨_, rfl⟩
  rw [← hR] at F ⊢
  clear hR
  go_enter Tryd.func70, Tryd.ntmps70
  go_wp2_with (first
    | (go_at_call 104; refine F.out.mono ?_; rintro e w2 ⟨⟨r, rfl, hr, hd⟩, hb⟩; subst hd; rcases Int.lt_or_le r 0 with h0 | h0)
    | fail)
  all_goals
    go_ret
    exact ⟨by simp; try omega, hb⟩
end Go.Proofs.YtaboafkpmgadmaaDoor
