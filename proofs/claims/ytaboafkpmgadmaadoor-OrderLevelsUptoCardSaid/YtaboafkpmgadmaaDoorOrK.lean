/-
  A loop over an iterator that reads what the loop's body owns and turns: the contract of such an iterator, the law of the loop over it, and slices.Backward's. No condition.
  Contract of order.Chain.
-/
import Derived.Test.YtaboafkpmgadmaaDoorGrU
import Derived.Test.YtaboafkpmgadmaaDoorOrS
namespace Go.Proofs.YtaboafkpmgadmaaDoor
open Go.RowKit
variable {F : Fence} {n : Nat} {P : Program}

/-- The same of an iterator that besides reads what the body's condition says of each world (C). -/
def SeqC {α : Type} (F : Fence) (n : Nat) (P : Program) (g : Nat) (lb : Array Value) (encs : α → Array Value) (Fp : Nat → Prop) (S Sp : List α → Prop) (Nx : List α → α → Prop) (C : List α → World → Prop) (w : World) : Prop :=
  ∀ (l : Nat) (J Jx : List α → (Nat → Prop) → World → Prop) (O : Nat → Prop) (W : World), Keeps Fp w W → (∀ k, O k → k < W.heap.size ∧ ¬ Fp k) → Stable W.heap.size J → Stable W.heap.size Jx → (∀ pre O1 W1, J pre O1 W1 → C pre W1) →
    (∀ pre x O1 W1, J pre O1 W1 → Nx pre x → YieldAt F (n - 1) P l (encs x) W1 fun e W' => ∃ O2, StepO O1 O2 W1 W' ∧
      ((e = .returned (.bool true) ∧ J (pre ++ [x]) O2 W') ∨ (e = .returned (.bool false) ∧ Jx (pre ++ [x]) O2 W'))) →
    J [] O W →
    CallsIn F n P g (#[.func (.yield l) #[] #[]] ++ lb) W fun e W' => (∃ v, e = .returned v) ∧ ((∃ xs O2, S xs ∧ J xs O2 W') ∨ (∃ pre O2, Sp pre ∧ Jx pre O2 W'))

/-- THE LAW OF THE LOOP. -/
theorem wpIn_rangeFunc_C {α : Type} {g : Operand} {ps : Array Tmp} {assign body : Code} {Q : Exit → Act → World → Prop} {a : Act} {w : World}
    (hro : F.round = none) (h1 : 1 ≤ n) {gf : Nat} {lb : Array Value} (hg : a.eval g = .func (.func gf) #[] lb) (hFg : F.fn gf) (eg : ∀ args w, (callFunc gf args).run P w = .ok (.enter gf args) w)
    {encs : α → Array Value} {Fp : Nat → Prop} {S Sp : List α → Prop} {Nx : List α → α → Prop} {C : List α → World → Prop} {w0 : World} (hseq : SeqC F (n - 1) P gf lb encs Fp S Sp Nx C w0) (hk0 : Keeps Fp w0 w) (hps : ∀ x, (encs x).size = ps.size)
    (I : List α → (Nat → Prop) → World → Prop) (Ix : Code → List α → (Nat → Prop) → World → Prop) (hC : ∀ pre O W, I pre O W → C pre W) (hI : Stable w.heap.size I) (hIx : ∀ c, Stable w.heap.size (Ix c))
    (O : Nat → Prop) (hO : ∀ k, O k → k < w.heap.size ∧ ¬ Fp k) (hFp : ∀ k, Fp k → k < w.heap.size) (h0 : I [] O w)
    (Ax : List α → α → Act → (Nat → Prop) → World → Prop) (hAx : ∀ pre x a', Stable w.heap.size (fun (_ : Unit) O W => Ax pre x a' O W))
    (hassign : ∀ (l : Nat) (pre : List α) (x : α) (O : Nat → Prop) (W : World) (K : Act → World → Prop), I pre O W → Nx pre x → w.heap.size ≤ W.heap.size → (∀ k, O k → k < W.heap.size) →
      (∀ a' O' W', StepO O O' W W' → Ax pre x a' O' W' → K a' W') →
      assign.wpIn (F.inRound l) (n - 1 - 1) P (Exit.then K (fun _ _ _ => False)) { tmps := (ps.zip (encs x)).foldl (fun t (p, v) => t.setIfInBounds p v) a.tmps, defers := [] } W)
    (hbody : ∀ (l : Nat) (pre : List α) (x : α) (a' : Act) (O : Nat → Prop) (W : World), Ax pre x a' O W → Nx pre x → w.heap.size ≤ W.heap.size → (∀ k, O k → k < W.heap.size) → body.wpIn (F.inRound l) (n - 1 - 1) P (postO I Ix (pre ++ [x]) O W) a' W)
    (hdone : ∀ (D : Nat) (O : Nat → Prop) (xs : List α) (W : World), w.heap.size ≤ D → ¬ O D → S xs → I xs O W → W.heap[D]? = some (.deferred (some [])) → Q .normal { a with defers := { target := .collected D, args := #[] } :: a.defers } W)
    (hstop : ∀ (D : Nat) (c : Code) (O : Nat → Prop) (pre : List α) (W : World), w.heap.size ≤ D → ¬ O D → Sp pre → Ix c pre O W → W.heap[D]? = some (.deferred (some [])) → c.wpIn F n P Q { a with defers := { target := .collected D, args := #[] } :: a.defers } W) :
    (Code.rangeFunc g ps assign body).wpIn F n P Q a w := by
  refine wpIn_rangeFunc ?_
  intro fn hfn
  rw [hro]
  obtain ⟨d, hd⟩ : ∃ d, d = w.heap.size := ⟨_, rfl⟩
  obtain ⟨rec, hrec⟩ : ∃ rec : LoopState → Option Code → Loop, rec = fun st pe => { state := st, pending := pe, fn, tmps := a.tmps, params := ps, assign, body, defers := w.heap.size } := ⟨_, rfl⟩
  obtain ⟨W1, hW1⟩ : ∃ W1, (w.alloc (.deferred (some []))).alloc (.loop (rec .ready none)) = W1 := ⟨_, rfl⟩
  have hL1 : W1.heap[d + 1]? = some (.loop (rec .ready none)) := by
    rw [← hW1, hd]; have := World.alloc_heap_new (w.alloc (.deferred (some []))) (.loop (rec .ready none)); rwa [World.size_alloc] at this
  have hK1 : W1.heap[d]? = some (.deferred (some [])) := by
    rw [← hW1, hd]; exact (Below.heap_alloc _ _ _ (by simp)).trans (World.alloc_heap_new w _)
  have hsz1 : W1.heap.size = d + 2 := by rw [← hW1, hd]; simp
  have hkp : ∀ p : Nat → Prop, Keeps p w W1 := fun p => by rw [← hW1]; exact ((Keeps.refl p w).alloc _).alloc _
  have hI1 : I [] O W1 := hI _ _ _ _ h0 (hkp _)
  have hB1 : w.heap.size ≤ W1.heap.size := (hkp (fun _ => True)).size
  -- the two blocks of book-keeping
  have hstab : ∀ {β : Type} {I' : β → (Nat → Prop) → World → Prop} (s : β) (O1 : Nat → Prop) (W W' : World) (o : Obj), Stable w.heap.size I' → ¬ O1 (d + 1) → I' s O1 W → W' = W.putObj (d + 1) o → I' s O1 W' := fun s O1 W W' o hst hno hi he => by
    rw [he]
    refine hst s O1 W _ hi ((Keeps.refl _ W).putObj (fun _ hp => ?_) o)
    rcases hp with hp | hp
    · omega
    · exact hno hp
  refine ⟨d + 1, [{ target := .collected d, args := #[] }], W1, { target := .fn (.func gf) lb, args := #[.func (.yield (d + 1)) #[] #[]] }, W1, gf,
    #[.func (.yield (d + 1)) #[] #[]] ++ lb, W1, ?_, ?_, ?_, ?_, fun _ => h1, ?_⟩
  · rw [← hW1, hrec, hd]; exact run_enterLoop_outer _ _ _ _ _
  · simp only [resolve, hg]
    simp [go_sem]
  · intro f' hf'; simp [Target.leads] at hf'; subst hf'; exact hFg
  · simp [invoke, go_sem, eg]
  · refine (hseq (d + 1)
      (fun pre O2 W => ∃ Oc, (∀ k, O2 k ↔ Oc k ∨ k = d ∨ k = d + 1) ∧ ¬ Oc d ∧ ¬ Oc (d + 1) ∧ (∀ k, Oc k → k < W.heap.size) ∧ I pre Oc W ∧ d + 2 ≤ W.heap.size ∧ W.heap[d + 1]? = some (.loop (rec .ready none)) ∧ W.heap[d]? = some (.deferred (some [])))
      (fun pre O2 W => ∃ Oc c, (∀ k, O2 k ↔ Oc k ∨ k = d ∨ k = d + 1) ∧ ¬ Oc d ∧ ¬ Oc (d + 1) ∧ Ix c pre Oc W ∧ d + 2 ≤ W.heap.size ∧ W.heap[d + 1]? = some (.loop (rec .done (some c))) ∧ W.heap[d]? = some (.deferred (some [])))
      (fun k => O k ∨ k = d ∨ k = d + 1) W1 (hk0.trans (hkp _)) (fun k hk => ?_) ?_ ?_ ?_ ?_ ?_).mono ?_
    · rcases hk with hk | hk | hk
      · exact ⟨by have := (hO k hk).1; omega, (hO k hk).2⟩
      · exact ⟨by omega, fun h => by have := hFp k h; omega⟩
      · exact ⟨by omega, fun h => by have := hFp k h; omega⟩
    · rintro s O2 A B ⟨Oc, ho, hn1, hn2, ht, hi, hs, hl, hk⟩ hkk
      refine ⟨Oc, ho, hn1, hn2, fun k hk => Nat.lt_of_lt_of_le (ht k hk) hkk.size, hI _ _ _ _ hi (hkk.mono fun k _ hp => ?_), Nat.le_trans hs hkk.size, (hkk.block _ (by omega) (.inr ((ho _).2 (.inr (.inr rfl))))).trans hl, (hkk.block _ (by omega) (.inr ((ho _).2 (.inr (.inl rfl))))).trans hk⟩
      rcases hp with hp | hp
      · exact .inl (Nat.lt_of_lt_of_le hp hB1)
      · exact .inr ((ho _).2 (.inl hp))
    · rintro s O2 A B ⟨Oc, c, ho, hn1, hn2, hi, hs, hl, hk⟩ hkk
      refine ⟨Oc, c, ho, hn1, hn2, hIx c _ _ _ _ hi (hkk.mono fun k _ hp => ?_), Nat.le_trans hs hkk.size, (hkk.block _ (by omega) (.inr ((ho _).2 (.inr (.inr rfl))))).trans hl, (hkk.block _ (by omega) (.inr ((ho _).2 (.inr (.inl rfl))))).trans hk⟩
      rcases hp with hp | hp
      · exact .inl (Nat.lt_of_lt_of_le hp hB1)
      · exact .inr ((ho _).2 (.inl hp))
    · rintro pre O2 W ⟨Oc, _, _, _, _, hi, _⟩
      exact hC _ _ _ hi
    · -- one round
      rintro pre x O2 W ⟨Oc, ho, hn1, hn2, ht, hi, hs, hl, hk⟩ hlen
      have hy := run_yield (P := P) (args := encs x) hl (by rw [hrec]; exact hps x)
      rw [hrec] at hy
      refine ⟨fn, _, assign, body, hy, roundIn_of_wpIn hfn (hassign _ pre x Oc W _ hi hlen (by omega) ht ?_)⟩
      clear hy
      intro a' Oa Wa hsa hax
      have hla : Wa.heap[d + 1]? = some (.loop (rec .ready none)) := (hsa.keeps.block _ (by omega) hn2).trans hl
      have hka : Wa.heap[d]? = some (.deferred (some [])) := (hsa.keeps.block _ (by omega) hn1).trans hk
      have hna1 := hsa.not (by omega) hn1
      have hna2 := hsa.not (by omega) hn2
      have hsza := hsa.keeps.size
      refine ⟨_, run_beginRound hla (by rw [hrec]), ?_⟩
      obtain ⟨Wb, hWb⟩ : ∃ Wb, Wb = Wa.putObj (d + 1) (.loop { rec .ready none with state := .busy }) := ⟨_, rfl⟩
      have hlb : Wb.heap[d + 1]? = some (.loop { rec .ready none with state := .busy }) := by rw [hWb]; exact World.putObj_heap_same (by omega)
      have hkb : Wb.heap[d]? = some (.deferred (some [])) := by rw [hWb]; exact (World.putObj_heap_other (by omega)).trans hka
      have hszb : Wb.heap.size = Wa.heap.size := by rw [hWb]; simp
      have haxb : Ax pre x a' Oa Wb := hstab () Oa Wa Wb _ (hAx pre x a') hna2 hax hWb
      have hsb : StepO O2 (fun k => Oa k ∨ k = d ∨ k = d + 1) W Wb := by
        refine ⟨?_, fun k hk' => ?_, fun k hk' => ?_⟩
        · rw [hWb]
          refine (hsa.keeps.mono fun k _ hp => fun hoc => hp ((ho k).2 (.inl hoc))).putObj (fun _ hp => hp ((ho _).2 (.inr (.inr rfl)))) _
        · rcases hk' with hk' | hk'
          · rcases hsa.own k hk' with h | h
            · exact .inl ((ho k).2 (.inl h))
            · exact .inr h
          · exact .inl ((ho k).2 (.inr hk'))
        · rcases hk' with hk' | hk' | hk'
          · have := hsa.top k hk'; omega
          · omega
          · omega
      have hbo := hbody (d + 1) pre x a' Oa Wb haxb hlen (by omega) (fun k hk' => by rw [hszb]; exact hsa.top k hk')
      rw [hWb] at hbo
      refine wpIn_mono hbo ?_
      rw [← hWb]
      have fin : ∀ (jump : Option Code) (O3 : Nat → Prop) (W3 : World), StepO Oa O3 Wb W3 →
          (Instr.endRound (d + 1) jump).run P W3 = .ok (.bool jump.isNone) (W3.putObj (d + 1) (.loop (rec (if jump.isNone then .ready else .done) jump))) ∧
          StepO O2 (fun k => O3 k ∨ k = d ∨ k = d + 1) W (W3.putObj (d + 1) (.loop (rec (if jump.isNone then .ready else .done) jump))) ∧ ¬ O3 d ∧ ¬ O3 (d + 1) ∧
          d + 2 ≤ (W3.putObj (d + 1) (.loop (rec (if jump.isNone then .ready else .done) jump))).heap.size ∧
          (W3.putObj (d + 1) (.loop (rec (if jump.isNone then .ready else .done) jump))).heap[d + 1]? = some (.loop (rec (if jump.isNone then .ready else .done) jump)) ∧
          (W3.putObj (d + 1) (.loop (rec (if jump.isNone then .ready else .done) jump))).heap[d]? = some (.deferred (some [])) := fun jump O3 W3 hs3 => by
        have hl3 := (hs3.keeps.block _ (by omega) hna2).trans hlb
        have hk3 := (hs3.keeps.block _ (by omega) hna1).trans hkb
        have hz3 := hs3.keeps.size
        have hr := run_endRound (P := P) jump hl3
        rw [hrec] at hr ⊢
        refine ⟨hr, ?_, hs3.not (by omega) hna1, hs3.not (by omega) hna2, by simp; omega, World.putObj_heap_same (by omega), (World.putObj_heap_other (by omega)).trans hk3⟩
        refine hsb.trans ⟨?_, fun k hk' => ?_, fun k hk' => ?_⟩
        · refine (hs3.keeps.mono fun k _ hp => fun hoc => hp (.inl hoc)).putObj (fun _ hp => hp (.inr (.inr rfl))) _
        · rcases hk' with hk' | hk'
          · rcases hs3.own k hk' with h | h
            · exact .inl (.inl h)
            · exact .inr h
          · exact .inl (.inr hk')
        · have h9 : ∀ o : Obj, (W3.putObj (d + 1) o).heap.size = W3.heap.size := fun o => by simp
          rw [h9]
          rcases hk' with hk' | hk' | hk'
          · exact hs3.top k hk'
          · omega
          · omega
      rintro e a3 W3 hp
      cases e with
      | normal =>
        obtain ⟨O3, hs3, hi3⟩ := hp
        obtain ⟨hr, h2, h3, h4, h5, h6, h7⟩ := fin none O3 W3 hs3
        exact ⟨_, _, hr, _, h2, .inl ⟨rfl, O3, fun _ => Iff.rfl, h3, h4, fun k hk' => h2.top k (.inl hk'), hstab _ O3 W3 _ _ hI h4 hi3 rfl, h5, h6, h7⟩⟩
      | ret =>
        obtain ⟨O3, hs3, hi3⟩ := hp
        obtain ⟨hr, h2, h3, h4, h5, h6, h7⟩ := fin (some .ret) O3 W3 hs3
        exact ⟨_, _, hr, _, h2, .inr ⟨rfl, O3, .ret, fun _ => Iff.rfl, h3, h4, hstab _ O3 W3 _ _ (hIx _) h4 hi3 rfl, h5, h6, h7⟩⟩
      | exit id =>
        obtain ⟨O3, hs3, hi3⟩ := hp
        obtain ⟨hr, h2, h3, h4, h5, h6, h7⟩ := fin (some (.exit id)) O3 W3 hs3
        exact ⟨_, _, hr, _, h2, .inr ⟨rfl, O3, .exit id, fun _ => Iff.rfl, h3, h4, hstab _ O3 W3 _ _ (hIx _) h4 hi3 rfl, h5, h6, h7⟩⟩
      | goto t =>
        obtain ⟨O3, hs3, hi3⟩ := hp
        obtain ⟨hr, h2, h3, h4, h5, h6, h7⟩ := fin (some (.goto t)) O3 W3 hs3
        exact ⟨_, _, hr, _, h2, .inr ⟨rfl, O3, .goto t, fun _ => Iff.rfl, h3, h4, hstab _ O3 W3 _ _ (hIx _) h4 hi3 rfl, h5, h6, h7⟩⟩
      | panic ch => exact hp.elim
      | outgrown => exact hp.elim
    · exact ⟨O, fun _ => Iff.rfl, fun h => by have := (hO _ h).1; omega, fun h => by have := (hO _ h).1; omega, fun k hk' => Nat.lt_of_lt_of_le (hO k hk').1 hB1, hI1, by omega, hL1, hK1⟩
    · -- behind the iterator
      rintro e W2 ⟨⟨v, rfl⟩, (⟨xs, O2, hS, Oc, ho, hn1, hn2, _, hi, hs, hl, hk⟩ | ⟨pre, O2, hSp, Oc, c, ho, hn1, hn2, hi, hs, hl, hk⟩)⟩
      · exact ⟨none, _, by have := run_endLoop (P := P) hl (by rw [hrec]; simp); rw [hrec] at this; exact this, hdone d Oc xs _ (by omega) hn1 hS (hstab _ Oc W2 _ _ hI hn2 hi rfl) ((World.putObj_heap_other (by omega)).trans hk)⟩
      · exact ⟨some c, _, by have := run_endLoop (P := P) hl (by rw [hrec]; simp); rw [hrec] at this; exact this, hstop d c Oc pre _ (by omega) hn1 hSp (hstab _ Oc W2 _ _ (hIx c) hn2 hi rfl) ((World.putObj_heap_other (by omega)).trans hk)⟩

set_option maxHeartbeats 1000000 in
theorem backward1c_in (n : Nat) (hn : 2 ≤ n) (L Bs c g : Nat) (hL : L ≤ 1048576) (w : World) (hc : w.cell? ⟨Bs, 0, none⟩ = some (.slice (some ⟨g, 0, none⟩) L c)) (hBs : Bs < w.heap.size) :
    SeqC Fence.wide n Tryd.prog 83 #[.pointer (some ⟨Bs, 0, none⟩)] (fun x : Nat × Int => #[Value.int .i64 (x.1 : Int), Value.int .i64 x.2]) (fun b => b = Bs)
      (fun ys => ys.length = L) (fun _ => True) (fun pre x => pre.length < L ∧ x.1 + pre.length + 1 = L) (fun pre W => ∀ i, i + pre.length + 1 = L → ∃ v : Int, W.cell? ⟨g, i, none⟩ = some (.int .i64 v)) w := by
  have h1 : 1 ≤ n := by omega
  intro l J Jx O W hkW hO hJ hJx hC hY h0
  have hF : ∀ k, k = Bs → k < W.heap.size := fun k hk => by
    have := hkW.size
    omega
  have hcW : W.cell? ⟨Bs, 0, none⟩ = some (.slice (some ⟨g, 0, none⟩) L c) := (World.cell?_of_block (hkW.block Bs hBs rfl)).trans hc
  clear hc hkW
  refine callsIn_of_wp Tryd.func83 rfl trivial ?_ rfl
  simp only [Tryd.ntmps83, List.size_toArray, List.length_cons, List.length_nil, Nat.reduceAdd, Nat.reduceSub, Array.replicate_succ, Array.replicate_zero, List.push_toArray, List.append_toArray, List.nil_append, List.cons_append]
  gi_wp2
  gi_loopw [3] (fun i wr => ∃ (t : Nat) (ys : List (Nat × Int)) (O2 : Nat → Prop), t ≤ L ∧ i = .int .i64 ((L : Int) - 1 - t) ∧ ys.length = t ∧ J ys O2 wr ∧ ItInv (fun b => b = Bs) O W O2 wr) (fun i _ => (intOf i + 1).toNat)
  case atStart => exact ⟨0, [], O, Nat.zero_le _, by simp, rfl, h0, ItInv.start hO⟩
  case round =>
    obtain ⟨t, ys, O2, ht, rfl, hyl, hJ2, hI2⟩ := hrel
    have hcB : wr.cell? ⟨Bs, 0, none⟩ = some (.slice (some ⟨g, 0, none⟩) L c) := (World.cell?_of_block (hI2.keeps.block Bs (hF Bs rfl) rfl)).trans hcW
    by_cases htl : t < L
    · obtain ⟨i, hi⟩ : ∃ i : Nat, i + t + 1 = L := ⟨L - 1 - t, by omega⟩
      have hil : i < L := by omega
      have e1 : (L : Int) - 1 - t = (i : Int) := by omega
      obtain ⟨v, hci⟩ := hC ys O2 wr hJ2 i (by omega)
      rw [e1]
      clear e1
      obtain ⟨fn, tmps, assign, body, hy, hR⟩ := hY ys (i, v) O2 wr hJ2 ⟨by omega, by show i + ys.length + 1 = _; omega⟩
      have hi0 : (0 : Int) ≤ (i : Int) := Int.natCast_nonneg _
      have hi1 : (i : Int) < (L : Int) := by omega
      have HYL := Lib.hid hyl
      have HI := Lib.hid hi
      clear hyl hi
      gi_wp2
      refine hR.mono ?_
      rintro e W3 ⟨O3, hs3, (⟨rfl, hJ3⟩ | ⟨rfl, hJx3⟩)⟩
      · have hI3 := hI2.step hO hF hs3
        have e2 : (L : Int) - 1 - ((t + 1 : Nat) : Int) = (i : Int) - 1 := by have := HI.out; omega
        gi_wp2
        go_roundw
        case rel => exact ⟨t + 1, _, O3, by omega, by rw [e2], by rw [List.length_append, HYL.out]; simp, hJ3, hI3⟩
        case measure => first | (simp [intOf]; done) | (simp [intOf]; omega)
      · gi_wp2
        refine bodyPost_ret (results_none rfl _ _ _) rfl ?_
        exact ⟨⟨_, rfl⟩, .inr ⟨_, _, trivial, hJx3⟩⟩
    · obtain rfl : L = t := by omega
      have e1 : (L : Int) - 1 - (L : Int) = -1 := by omega
      rw [e1]
      gi_wp2
      first
        | go_end0
        | refine bodyPost_ret (results_none rfl _ _ _) rfl ?_
      exact ⟨⟨_, rfl⟩, .inl ⟨ys, O2, hyl, hJ2⟩⟩
end Go.Proofs.YtaboafkpmgadmaaDoor

namespace Go.Proofs.YtaboafkpmgadmaaDoor
open Go.RowKit
set_option maxRecDepth 100000
attribute [local go_sem] Oper.semAt_some

/-- the node that is placed after j of them, or none -/
def cI (R : Nat → Nat → Bool) (f : Nat → Nat) (m j : Nat) : Int := if j < hgt f m then ((chn R f m j : Nat) : Int) else -1
theorem cI_lt {R : Nat → Nat → Bool} {f : Nat → Nat} {m j : Nat} (h : j < hgt f m) : cI R f m j = ((chn R f m j : Nat) : Int) := if_pos h
theorem cI_next {R : Nat → Nat → Bool} {f : Nat → Nat} {m j : Nat} (hl : Lev R f) (hR : ∀ i j, R i j = true → i < m ∧ j < m) (h : j < hgt f m) : oI (prv R f m (chn R f m j)) = cI R f m (j + 1) := by
  obtain ⟨h1, h2⟩ := chn_at hl hR j h
  by_cases hj : j + 1 < hgt f m
  · rw [cI_lt hj]
    obtain ⟨a, h3, _⟩ := prv_some hl hR (b := chn R f m j) (by omega)
    show _ = (((prv R f m (chn R f m j)).getD 0 : Nat) : Int)
    rw [h3]
    rfl
  · unfold cI
    rw [if_neg hj]
    have : prv R f m (chn R f m j) = none := by
      unfold prv
      rw [List.find?_eq_none]
      intro a _
      unfold fit
      simp
      intro h4
      omega
    rw [this]
    rfl
/-- the chain's row after j -/
def cRow (R : Nat → Nat → Bool) (f : Nat → Nat) (m j i : Nat) : Value := .int .i64 (if hgt f m ≤ i + j then ((chn R f m (hgt f m - 1 - i) : Nat) : Int) else 0)
theorem cRow_zero {R : Nat → Nat → Bool} {f : Nat → Nat} {m i : Nat} (hi : i < hgt f m) : cRow R f m 0 i = .int .i64 0 := by unfold cRow; rw [if_neg (by omega)]
theorem cRow_next {R : Nat → Nat → Bool} {f : Nat → Nat} {m i j : Nat} (hij : i + j + 1 = hgt f m) : (fun k => if k = i then Value.int .i64 ((chn R f m j : Nat) : Int) else cRow R f m j k) = cRow R f m (j + 1) := by
  funext k
  unfold cRow
  by_cases e : k = i
  · subst e
    rw [if_pos rfl, if_pos (by omega), show hgt f m - 1 - k = j by omega]
  · rw [if_neg e]
    by_cases h : hgt f m ≤ k + j
    · rw [if_pos h, if_pos (by omega)]
    · rw [if_neg h, if_neg (by omega)]

def chnG (N : Int) (es : List (Int × Int)) : List Int := if errn N es = 0 then toI (chain (gR es) (lvs N.toNat es) N.toNat) else []

theorem chain_no (A : Option Addr) (c : Nat) (N : Int) (es : List (Int × Int)) (w : World) (he : RdE w w.heap.size A es) (hT : Tab w) (hE : errn N es ≠ 0) :
    Calls Tryd.prog 33 #[.agg #[.int .i64 N, .slice A es.length c]] w fun e w' => e = .returned (.tuple #[.slice none 0 0, .int .i64 (errn N es)]) ∧ Below w.heap.size w w' := by
  have hl0 := levG_no hE
  obtain ⟨E, hEE⟩ : ∃ E, E = errn N es := ⟨_, rfl⟩
  rw [← hEE] at hE
  have hb : (E != 0) = true := by simpa using hE
  have HE := Lib.hid hEE
  have HL := Lib.hid hl0
  clear hE hEE hl0
  go_enter Tryd.func33, Tryd.ntmps33
  go_wp2_with fail
  have hb1 := below_alloc w (.cells #[.int .i64 N, .slice A es.length c] 24)
  obtain ⟨w1, hw1⟩ : ∃ w1, w1 = w.alloc (.cells #[.int .i64 N, .slice A es.length c] 24) := ⟨_, rfl⟩
  rw [← hw1] at hb1 ⊢
  clear hw1
  refine (levels_any A c N es _ (he.step hb1) (hT.step hb1)).mono ?_
  rw [← HE.out]
  rintro e w2 ⟨A2, c2, rfl, _, hb2⟩
  have hbb := hb1.trans (hb2.mono hb1.size)
  clear hb1 hb2
  go_wp2
  go_ret2
  exact ⟨by rw [HE.out]; rfl, hbb⟩

set_option maxHeartbeats 4000000 in
theorem chain_in (n : Nat) (hn : 3 ≤ n) (A : Option Addr) (c m : Nat) (es : List (Int × Int)) (w : World) (he : RdE w w.heap.size A es) (hin : inR m es = true) (hfull : (ordr m es).length = m) (hT : Tab w) :
    CallsIn Fence.wide n Tryd.prog 33 #[.agg #[.int .i64 (m : Int), .slice A es.length c]] w fun e w' => ∃ g, e = .returned (.tuple #[.slice (some ⟨g, 0, none⟩) (hgt (lvs m es) m) (hgt (lvs m es) m), .int .i64 0]) ∧ w'.rowIs g 3 (hgt (lvs m es) m) (fun i => .int .i64 ((chn (gR es) (lvs m es) m (hgt (lvs m es) m - 1 - i) : Nat) : Int)) ∧ Below w.heap.size w w' := by
  have h1 : 1 ≤ n := by omega
  have hm := okN_of hin
  have hE := errn_ok hin hfull
  have hl := levG_len hE
  obtain ⟨hlg, hlt⟩ := levG_hgt hE hin hfull
  have hLev := lvs_lev hin hfull
  have hhm : hgt (lvs m es) m ≤ m := hgt_le _ hlt
  have hLv : ∀ W : World, RdE W W.heap.size A es → Tab W → Calls Tryd.prog 29 #[.agg #[.int .i64 (m : Int), .slice A es.length c]] W fun e w' => ∃ A1 c1, e = .returned (.tuple #[.slice A1 m c1, .int .i64 0]) ∧ RdI w' w'.heap.size A1 ((List.range m).map fun k => ((lvs m es k : Nat) : Int)) ∧ Below W.heap.size W w' := fun W h1 h2 => by
    have := levels_any A c m es W h1 h2
    rw [hl, hE, hlg] at this
    exact this
  have HLV := Lib.hid hLv
  obtain ⟨f, hf⟩ : ∃ f, f = lvs m es := ⟨_, rfl⟩
  rw [← hf] at hlt hLev hhm HLV ⊢
  obtain ⟨h, hh⟩ : ∃ h, h = hgt f m := ⟨_, rfl⟩
  rw [← hh] at hhm ⊢
  have hmk := run_make_row' (P := Tryd.prog) 25 3 (.int .i64 0) 8 Tryd.underlying25 Tryd.infoInt rfl .i64 .i64 h (by omega) (by omega)
  have HIN := Lib.hid hin
  have HLEV := Lib.hid hLev
  have HH := Lib.hid hh
  have HLT := Lib.hid hlt
  clear hl hlg hE hfull hLv hf hh hLev hlt
  refine callsIn_of_wp_marks Tryd.func33 rfl trivial ?_ rfl
  simp only [Tryd.ntmps33, List.size_toArray, List.length_cons, List.length_nil, Nat.reduceAdd, Nat.reduceSub, Array.replicate_succ, Array.replicate_zero, List.push_toArray, List.append_toArray, List.nil_append, List.cons_append]
  gi_wp2_with fail
  have hB := below_alloc w (.cells #[.int .i64 (m : Int), .slice A es.length c] 24)
  have g1 := GB.new w 24 m (.slice A es.length c)
  obtain ⟨w1, hw1⟩ : ∃ w1, w1 = w.alloc (.cells #[.int .i64 (m : Int), .slice A es.length c] 24) := ⟨_, rfl⟩
  rw [← hw1] at hB g1 ⊢
  have hs := hB.size
  replace he := he.step hB
  replace hT := hT.step hB
  clear hw1
  refine ⟨trivial, ?_⟩
  refine (callsIn_wide.2 (HLV.out _ he hT)).mono ?_
  rintro e w2 ⟨A2, c2, rfl, q2, hb⟩
  replace g1 := g1.step hb
  replace he := he.step hb
  replace hB := below_step hB hs hb
  replace hs := hB.size
  clear hb hT
  have n1 := g1.n
  have e1 := g1.e
  gi_wp2_with fail
  refine ⟨trivial, ?_⟩
  refine (callsIn_wide.2 (smallestBefore_any A c m es A2 c2 f _ he HIN.out HLT.out q2)).mono ?_
  rintro e w3 ⟨g3, rfl, R3, hg3, hb⟩
  replace q2 := q2.step hb
  replace hB := below_step hB hs hb
  replace hs := hB.size
  clear hb n1 e1 g1 he
  gi_wp2_with fail
  have bx6 := Boxed.new w3 25 (.slice (some ⟨g3, 0, none⟩) m m)
  have hb := below_alloc w3 (.cells #[.slice (some ⟨g3, 0, none⟩) m m] 25)
  obtain ⟨w4, hw4⟩ : ∃ w4, w4 = w3.alloc (.cells #[.slice (some ⟨g3, 0, none⟩) m m] 25) := ⟨_, rfl⟩
  obtain ⟨B6, hB6⟩ : ∃ B6, B6 = w3.heap.size := ⟨_, rfl⟩
  rw [← hw4] at bx6 hb ⊢
  rw [← hB6] at bx6 ⊢
  replace R3 := rowIs_step R3 hb
  replace q2 := q2.step hb
  replace hB := below_step hB hs hb
  replace hs := hB.size
  clear hb hw4 hB6
  refine ⟨trivial, ?_⟩
  refine (callsIn_wide.2 (height_any A2 c2 m f (by omega) HLT.out _ q2)).mono ?_
  rw [← HH.out]
  rintro e w5 ⟨rfl, rfl⟩
  gi_wp2_with fail
  have Rc := (World.rowIs_made w4 (.int .i64 0) h 3).alloc (.cells #[.slice (some ⟨w4.heap.size, 0, none⟩) h h] 25)
  have bx7 := Boxed.new (w4.alloc (.cells (madeCells #[.int .i64 0] h) 3)) 25 (.slice (some ⟨w4.heap.size, 0, none⟩) h h)
  have hb : Below w4.heap.size w4 ((w4.alloc (.cells (madeCells #[.int .i64 0] h) 3)).alloc (.cells #[.slice (some ⟨w4.heap.size, 0, none⟩) h h] 25)) := ((Below.refl _ _).alloc (Nat.le_refl _) _).alloc (by simp) _
  simp only [World.size_alloc] at bx7
  have lt6 := bx6.lt
  have lt3 := R3.lt
  obtain ⟨w5, hw5⟩ : ∃ w5, w5 = (w4.alloc (.cells (madeCells #[.int .i64 0] h) 3)).alloc (.cells #[.slice (some ⟨w4.heap.size, 0, none⟩) h h] 25) := ⟨_, rfl⟩
  have hs5 : w5.heap.size = w4.heap.size + 2 := by rw [hw5]; simp
  rw [← hw5] at Rc bx7 hb ⊢
  obtain ⟨s, hss⟩ : ∃ s, s = w4.heap.size := ⟨_, rfl⟩
  replace R3 := rowIs_step R3 hb
  replace bx6 : Boxed w5 B6 25 (.slice (some ⟨g3, 0, none⟩) m m) := (hb.block B6 lt6).trans bx6
  replace q2 := q2.step hb
  replace hB := below_step hB hs hb
  rw [← hss] at Rc bx7 hs5 lt6 lt3 hs ⊢
  clear hb hw5 hss
  refine ⟨trivial, ?_⟩
  have hIdx : Calls Tryd.prog 63 #[.slice A2 m c2, .int .i64 ((h : Int) - 1)] w5 fun e w' => e = .returned (.int .i64 (cI (gR es) f m 0)) ∧ w5 = w' := by
    have hzd : ∀ k, k < m → zd ((List.range m).map fun k => ((f k : Nat) : Int)) k = ((f k : Nat) : Int) := fun k hk => by unfold zd; simp [List.getD, hk]
    rcases Nat.eq_zero_or_pos m with h0 | h0
    · have hz : h = 0 := by omega
      refine (index_no_len A2 c2 m _ (by simp) _ w5 q2 (fun j hj => by simp at hj; omega)).mono ?_
      rintro e w' ⟨rfl, rfl⟩
      exact ⟨by unfold cI; rw [if_neg (by rw [← HH.out]; omega)], rfl⟩
    · obtain ⟨a, h2, h3, h4, h5⟩ := fst0_some (f := f) h0
      have hh0 : 0 < hgt f m := hgt_pos f h0
      have hc : cI (gR es) f m 0 = (a : Int) := by
        rw [cI_lt hh0]
        show (((fst0 f m).getD 0 : Nat) : Int) = _
        rw [h2]
        rfl
      rw [hc, HH.out]
      refine (index_yes_len A2 c2 m _ (by simp) _ a w5 q2 ⟨by simpa using h3, by rw [hzd a h3]; omega, fun j hj => by rw [hzd j (by omega)]; have := h5 j hj; omega⟩).mono ?_
      rintro e w' ⟨rfl, rfl⟩
      exact ⟨rfl, rfl⟩
  refine (callsIn_wide.2 hIdx).mono ?_
  rintro e w6 ⟨rfl, rfl⟩
  have c7 : ∀ o, (w5.alloc o).cell? ⟨s + 1, 0, none⟩ = some (.slice (some ⟨s, 0, none⟩) h h) := fun o => (World.cell?_alloc_lt w5 o ⟨s + 1, 0, none⟩ (by show s + 1 < _; omega)).trans bx7.cell
  clear hIdx q2
  gi_wp2_with (refine ⟨trivial, ?_⟩; refine (backward_in (n - 1) _ _ _ _).mono ?_; rintro e w' ⟨rfl, rfl⟩)
  have hb : Below w5.heap.size w5 ((w5.alloc (.cells #[.int .i64 (cI (gR es) f m 0)] 3)).alloc (.cells #[.slice (some ⟨s, 0, none⟩) h h] 25)) := ((Below.refl _ _).alloc (Nat.le_refl _) _).alloc (by simp) _
  have bx8 := (Boxed.new w5 3 (.int .i64 (cI (gR es) f m 0))).alloc (.cells #[.slice (some ⟨s, 0, none⟩) h h] 25)
  have bxs := Boxed.new (w5.alloc (.cells #[.int .i64 (cI (gR es) f m 0)] 3)) 25 (.slice (some ⟨s, 0, none⟩) h h)
  simp only [World.size_alloc, hs5] at bx8 bxs
  obtain ⟨w7, hw7⟩ : ∃ w7, w7 = (w5.alloc (.cells #[.int .i64 (cI (gR es) f m 0)] 3)).alloc (.cells #[.slice (some ⟨s, 0, none⟩) h h] 25) := ⟨_, rfl⟩
  have hs7 : w7.heap.size = s + 4 := by rw [hw7]; simp [hs5]
  rw [← hw7] at hb bx8 bxs ⊢
  replace bx6 : Boxed w7 B6 25 (.slice (some ⟨g3, 0, none⟩) m m) := (hb.block B6 bx6.lt).trans bx6
  replace bx7 : Boxed w7 (s + 1) 25 (.slice (some ⟨s, 0, none⟩) h h) := (hb.block (s + 1) bx7.lt).trans bx7
  replace R3 := rowIs_step R3 hb
  replace Rc := rowIs_step Rc hb
  have hB7 : Below w.heap.size w w7 := hB.trans (hb.mono (by omega))
  clear hb hw7 c7 hs5 hB
  refine wpIn_rangeFunc_C rfl h1 (gf := 83) (lb := #[.pointer (some ⟨s + 2 + 1, 0, none⟩)]) rfl trivial (enters_of Tryd.func83 (by kernel_rfl) rfl)
    (backward1c_in (n - 1) (by omega) h (s + 2 + 1) h s (by omega) w7 bxs.cell (by omega)) (Keeps.refl _ _) (fun _ => rfl)
    (fun ys O W => (∀ b, O b ↔ b = s ∨ b = s + 2) ∧ W.rowIs s 3 h (fun i => cRow (gR es) f m ys.length i) ∧ Boxed W (s + 2) 3 (.int .i64 (cI (gR es) f m ys.length)) ∧ Keeps (fun b => b ≠ s ∧ b ≠ s + 2) w7 W) (fun _ _ _ _ => False)
    ?hc ?stab (fun _ _ _ _ _ h _ => h.elim) (fun k => k = s ∨ k = s + 2) ?own (fun k hk => by omega) ?start
    (fun pre x a' O W => ((∀ b, O b ↔ b = s ∨ b = s + 2) ∧ W.rowIs s 3 h (fun i => cRow (gR es) f m pre.length i) ∧ Boxed W (s + 2) 3 (.int .i64 (cI (gR es) f m pre.length)) ∧ Keeps (fun b => b ≠ s ∧ b ≠ s + 2) w7 W) ∧ a' = { tmps := #[.agg #[.int .i64 (m : Int), .slice A es.length c], .pointer (some ⟨w.heap.size, 0, none⟩), .slice none 0 0, .int .i64 0, .slice A2 m c2, .int .i64 0, .pointer (some ⟨B6, 0, none⟩), .pointer (some ⟨s + 1, 0, none⟩), .pointer (some ⟨s + 2, 0, none⟩), .int .i64 (x.1 : Int), .tuple #[.slice A2 m c2, .int .i64 0], .agg #[.int .i64 (m : Int), .slice A es.length c], .tuple #[.slice A2 m c2, .int .i64 0], .slice A2 m c2, .int .i64 0, .int .i64 0, .bool false, undef, .agg #[.int .i64 (m : Int), .slice A es.length c], .slice A2 m c2, .slice (some ⟨g3, 0, none⟩) m m, .slice A2 m c2, .int .i64 (h : Int), .slice (some ⟨s, 0, none⟩) h h, .slice A2 m c2, .slice (some ⟨s, 0, none⟩) h h, .int .i64 (h : Int), .int .i64 ((h : Int) - 1), .int .i64 (cI (gR es) f m 0), .slice (some ⟨s, 0, none⟩) h h, .func (.func 83) #[] #[.pointer (some ⟨s + 2 + 1, 0, none⟩)], .int .i64 (x.1 : Int), .int .i64 x.2, undef, undef, undef, undef, undef, undef, undef, undef, undef], defers := [] })
    ?stabx ?assign ?body ?done ?stop
  case hc =>
    rintro pre O W ⟨_, hr, _, _⟩ i hi
    have hil : i < h := by omega
    exact ⟨_, hr.cell hil⟩
  case own =>
    intro k hk
    exact ⟨by omega, by omega⟩
  case start =>
    exact ⟨fun _ => Iff.rfl, Rc.congr fun i hi => (cRow_zero (by rw [← HH.out]; exact hi)).symm, bx8, Keeps.refl _ _⟩
  case stab =>
    rintro ys O W W' ⟨hO, hr, hx, hk⟩ hkk
    exact ⟨hO, rowIs_keeps hr hkk (.inr ((hO _).2 (.inl rfl))), boxed_keeps hx hkk (.inr ((hO _).2 (.inr rfl))), hk.trans_lt hkk fun k hk1 _ => .inl hk1⟩
  case stabx =>
    rintro pre x a' ys O W W' ⟨⟨hO, hr, hx, hk⟩, ha⟩ hkk
    exact ⟨⟨hO, rowIs_keeps hr hkk (.inr ((hO _).2 (.inl rfl))), boxed_keeps hx hkk (.inr ((hO _).2 (.inr rfl))), hk.trans_lt hkk fun k hk1 _ => .inl hk1⟩, ha⟩
  case assign =>
    intro l pre x O W K hI hlen hsz htop hK
    obtain ⟨i, v⟩ := x
    have i0 : (0 : Int) ≤ (i : Int) := Int.natCast_nonneg _
    have h2n : 1 ≤ n - 1 - 1 := by omega
    gi_wp2
    exact hK _ _ _ (StepO.refl htop) ⟨hI, rfl⟩
  case body =>
    rintro l pre ⟨i, v⟩ a' O W ⟨⟨hO, hr, hx, hk⟩, rfl⟩ ⟨hl1, hl2⟩ hsz htop
    have h2n : 1 ≤ n - 1 - 1 := by omega
    try dsimp only at hl1 hl2 ⊢
    obtain ⟨j, hj⟩ : ∃ j, j = pre.length := ⟨_, rfl⟩
    rw [← hj] at hr hx hl1 hl2
    have hjh : j < hgt f m := by rw [← HH.out]; exact hl1
    obtain ⟨hy1, _⟩ := chn_at HLEV.out (gR_lt HIN.out) j hjh
    have hcn := cI_next HLEV.out (gR_lt HIN.out) hjh
    have hrn := cRow_next (R := gR es) (f := f) (m := m) (i := i) (j := j) (by rw [← HH.out]; omega)
    rw [cI_lt hjh] at hx
    obtain ⟨y, hy⟩ : ∃ y, y = chn (gR es) f m j := ⟨_, rfl⟩
    rw [← hy] at hx hy1 hcn hrn
    have cb := (World.cell?_of_block (a := ⟨g3, y, none⟩) (hk.block g3 (by omega) ⟨by omega, by omega⟩)).trans (R3.cell hy1)
    try dsimp only at cb
    rw [hcn] at cb
    obtain ⟨z, hz⟩ : ∃ z, z = cI (gR es) f m (j + 1) := ⟨_, rfl⟩
    rw [← hz] at cb
    have c7 := (World.cell?_of_block (a := ⟨s + 1, 0, none⟩) (hk.block (s + 1) (by omega) ⟨by omega, by omega⟩)).trans bx7.cell
    have c6 := (World.cell?_of_block (a := ⟨B6, 0, none⟩) (hk.block B6 (by omega) ⟨by omega, by omega⟩)).trans bx6.cell
    have c8 := hx.cell
    have hih : i < h := by omega
    have ci := hr.cell hih
    have fi := hr.frozen i
    have f8 := hx.frozen
    have ne1 : ¬ B6 = s := by omega
    have ne2 : ¬ g3 = s := by omega
    have i0 : (0 : Int) ≤ (i : Int) := Int.natCast_nonneg _
    have y0 : (0 : Int) ≤ (y : Int) := Int.natCast_nonneg _
    have hrow := hr.set i (.int .i64 (y : Int))
    rw [hrn] at hrow
    have hx2 : Boxed (W.setCell ⟨s, i, none⟩ (.int .i64 (y : Int))) (s + 2) 3 (.int .i64 (y : Int)) := hx.kept (grownBy_setCell W ⟨s, i, none⟩ _) (by simp)
    have HROW := Lib.hid (rowIs_grown hrow (grownBy_setCell _ ⟨s + 2, 0, none⟩ (.int .i64 z)) (by simp))
    have HX2 := Lib.hid (hx2.set (.int .i64 z))
    have HZ := Lib.hid hz
    have HJ := Lib.hid hj
    clear hr hx hrow hx2 hrn hcn hz hj hy hjh hl1 hl2 bx6 bx7 bx8 bxs R3 Rc
    gi_wp2
    refine ⟨O, ⟨((Keeps.refl (fun k => ¬ O k) W).setCell (fun _ h => h ((hO _).2 (.inl rfl))) _).setCell (fun _ h => h ((hO _).2 (.inr rfl))) _, fun k h => .inl h, fun k h => by simpa using htop k h⟩, hO, ?_, ?_, (hk.setCell (p := fun b => b ≠ s ∧ b ≠ s + 2) (q := ⟨s, i, none⟩) (fun _ h => h.1 rfl) _).setCell (q := ⟨s + 2, 0, none⟩) (fun _ h => h.2 rfl) _⟩
    · rw [List.length_append, ← HJ.out]
      exact HROW.out
    · rw [List.length_append, ← HJ.out]
      show Boxed _ _ _ (.int .i64 (cI (gR es) f m (j + 1)))
      rw [← HZ.out]
      exact HX2.out
  case done =>
    rintro D O xs W hD hOD hxs ⟨hO, hr, hx, hk⟩ hK
    have hxl : xs.length = h := hxs
    rw [hxl] at hr
    have c7 := (World.cell?_of_block (a := ⟨s + 1, 0, none⟩) (hk.block (s + 1) (by omega) ⟨by omega, by omega⟩)).trans bx7.cell
    have hr2 : W.rowIs s 3 h (fun i => .int .i64 ((chn (gR es) f m (h - 1 - i) : Nat) : Int)) := hr.congr fun i hi => by
      unfold cRow
      rw [← HH.out, if_pos (by omega)]
    have hBf : Below w.heap.size w W := hB7.trans (hk.below (by omega) fun k hk => ⟨by omega, by omega⟩)
    clear hr hx bx6 bx7 bx8 bxs R3 Rc
    gi_wp2
    refine ⟨by simp, .inl ⟨_, _, rfl, run_takeDeferred hK, ?_⟩⟩
    refine ⟨_, results_tmp2 rfl _ _ _, ?_⟩
    exact ⟨s, rfl, rowIs_putObj hr2 (by omega) _, hBf.trans (belowK_b (w := w) (Nat.le_refl _) W D _ _ (by omega) hK rfl rfl)⟩
  case stop =>
    rintro D c' O pre W _ _ _ h _
    exact h.elim
end Go.Proofs.YtaboafkpmgadmaaDoor
