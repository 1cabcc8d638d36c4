/-
  Contract of ufind's own singles.
-/
import Derived.Test.YtafhljjekpaehaaUfV
import Derived.Test.YtafhljjekpaehaaItG
import Derived.Test.YtafhljjekpaehaaGrMem
import Derived.Deep.CutRange
import Derived.Laws.EntriesVeiled
import Derived.Laws.IdiomCopy
namespace Go.Proofs.Ytafhljjekpaehaa
open Go.RowKit
set_option maxRecDepth 100000

theorem set_cell_atU {w : World} {B : Nat} {cur : Array Value} {t : TypeId} (h : w.heap[B]? = some (.cells cur t (0, 0))) (o : Nat) (v : Value) : (w.setCell ⟨B, o, none⟩ v).heap[B]? = some (.cells (cur.setIfInBounds o v) t (0, 0)) := by
  simp [World.setCell, Array.getElem?_modify, h]
/-- a box of two values -/
def B2 (D : Nat) (a b : Value) (W : World) : Prop := W.heap[D]? = some (.cells #[a, b] 39 (0, 0))
theorem B2.lt {D : Nat} {a b : Value} {W : World} (h : B2 D a b W) : D < W.heap.size := (Array.getElem?_eq_some_iff.1 h).1
theorem B2.fz {D : Nat} {a b : Value} {W : World} (h : B2 D a b W) (o : Nat) : W.frozen? ⟨D, o, none⟩ = false := by unfold B2 at h; unfold World.frozen?; dsimp only; rw [h]; simp
theorem B2.new (W : World) (a b : Value) : B2 W.heap.size a b (W.alloc (.cells #[a, b] 39)) := World.alloc_heap_new W _
theorem B2.step {D : Nat} {a b : Value} {W W2 : World} (h : B2 D a b W) (hb : Below W.heap.size W W2) : B2 D a b W2 := (hb.block D h.lt).trans h
theorem B2.cells {D : Nat} {a b : Value} {W : World} (k : B2 D a b W) : W.cell? ⟨D, 0, none⟩ = some a ∧ W.cell? ⟨D, 1, none⟩ = some b := by
  unfold B2 at k
  refine ⟨?_, ?_⟩ <;> (unfold World.cell?; dsimp only; rw [k]; rfl)
theorem B2.put {D : Nat} {x y : Value} {W : World} (h : B2 D x y W) (a b : Value) : B2 D a b ((W.setCell ⟨D, 0, none⟩ a).setCell ⟨D, 1, none⟩ b) := set_cell_atU (set_cell_atU h 0 a) 1 b
theorem B2.ne_row {D g t m : Nat} {a b : Value} {f : Nat → Value} {W : World} (h : B2 D a b W) (hr : W.rowIs g t m f) (ht : t ≠ 39) : D ≠ g := by
  intro e
  subst e
  obtain ⟨c, hc, _⟩ := hr
  unfold B2 at h
  rw [h] at hc
  injection hc with hc
  injection hc with _ hc
  exact ht hc.symm
theorem below_allocU (w : World) (o : Obj) : Below w.heap.size w (w.alloc o) := (Below.refl _ w).alloc (Nat.le_refl _) _
/-- two new rows, and the box that holds them -/
def LaidS (w1 : World) (N : Nat) (t : Value) (wx : World) : Prop := ∃ D g h, t = .pointer (some ⟨D, 0, none⟩) ∧ B2 D (.slice (some ⟨g, 0, none⟩) N N) (.slice (some ⟨h, 0, none⟩) N N) wx ∧
    wx.rowIs g 3 N (fun _ => .int .i64 0) ∧ wx.rowIs h 3 N (fun _ => .int .i64 0) ∧ g ≠ h ∧ w1.heap.size ≤ D ∧ w1.heap.size ≤ g ∧ w1.heap.size ≤ h ∧ Below w1.heap.size w1 wx
theorem laidS_put {w1 W : World} {N D g h : Nat} {x y : Value} (hD : B2 D x y W) (hg : W.rowIs g 3 N (fun _ => .int .i64 0)) (hh : W.rowIs h 3 N (fun _ => .int .i64 0)) (hne : g ≠ h) (hb : Below w1.heap.size w1 W) (lD : w1.heap.size ≤ D) (lg : w1.heap.size ≤ g) (lh : w1.heap.size ≤ h) :
    LaidS w1 N (.pointer (some ⟨D, 0, none⟩)) ((W.setCell ⟨D, 0, none⟩ (.slice (some ⟨g, 0, none⟩) N N)).setCell ⟨D, 1, none⟩ (.slice (some ⟨h, 0, none⟩) N N)) := by
  have n1 := hD.ne_row hg (by decide)
  have n2 := hD.ne_row hh (by decide)
  exact ⟨D, g, h, rfl, hD.put _ _, (hg.setOther (a := ⟨D, 0, none⟩) (fun e => n1 e.symm) _).setOther (a := ⟨D, 1, none⟩) (fun e => n1 e.symm) _,
    (hh.setOther (a := ⟨D, 0, none⟩) (fun e => n2 e.symm) _).setOther (a := ⟨D, 1, none⟩) (fun e => n2 e.symm) _, hne, lD, lg, lh,
    (hb.setCell (p := ⟨D, 0, none⟩) lD _).setCell (p := ⟨D, 1, none⟩) lD _⟩
/-- what has come up, and what it left -/
structure FS (w1 : World) (N : Nat) (b1 b3 b4 b5 : Bool) (v3 v6 v8 v9 : Value) (W : World) : Prop where
  f1 : b1 = true → ∃ g, v6 = .slice (some ⟨g, 0, none⟩) N N ∧ W.rowIs g 3 N (fun _ => .int .i64 0) ∧ w1.heap.size ≤ g
  f3 : b3 = true → ∃ g, v8 = .slice (some ⟨g, 0, none⟩) N N ∧ W.rowIs g 3 N (fun _ => .int .i64 0) ∧ w1.heap.size ≤ g
  f13 : b1 = true → b3 = true → ∀ g h, v6 = .slice (some ⟨g, 0, none⟩) N N → v8 = .slice (some ⟨h, 0, none⟩) N N → g ≠ h
  f4 : b4 = true → b1 = true ∧ b3 = true ∧ v9 = .agg #[v6, v8]
  f5 : b5 = true → ∃ D, v3 = .pointer (some ⟨D, 0, none⟩) ∧ B2 D (.slice none 0 0) (.slice none 0 0) W ∧ w1.heap.size ≤ D
theorem FS.step {w1 : World} {N : Nat} {b1 b3 b4 b5 : Bool} {v3 v6 v8 v9 : Value} {W W' : World} (h : FS w1 N b1 b3 b4 b5 v3 v6 v8 v9 W) (hb : Below W.heap.size W W') : FS w1 N b1 b3 b4 b5 v3 v6 v8 v9 W' := by
  refine ⟨fun e => ?_, fun e => ?_, h.f13, h.f4, fun e => ?_⟩
  · obtain ⟨g, h1, h2, h3⟩ := h.f1 e; exact ⟨g, h1, rowIs_step h2 hb, h3⟩
  · obtain ⟨g, h1, h2, h3⟩ := h.f3 e; exact ⟨g, h1, rowIs_step h2 hb, h3⟩
  · obtain ⟨D, h1, h2, h3⟩ := h.f5 e; exact ⟨D, h1, h2.step hb, h3⟩
theorem slice_blk {g h N : Nat} (e : Value.slice (some ⟨g, 0, none⟩) N N = .slice (some ⟨h, 0, none⟩) N N) : g = h := by
  injection e with e
  injection e with e
  injection e
theorem Try.infoSets : (Try.prog.info? 39).map (·.size) = some 2 := by kernel_rfl
/-- what a call of singles leaves -/
def SingE (N : Nat) (w : World) (e : Ending) (w' : World) : Prop := ∃ g h, e = .returned (SetsV g h N) ∧ g ≠ h ∧ w.heap.size ≤ g ∧ w.heap.size ≤ h ∧ UM N id g h w' ∧ Below w.heap.size w w'

set_option maxHeartbeats 8000000 in
theorem singles_any (N : Nat) (hN : N ≤ 200) (w : World) : Calls Try.prog 15 #[.int .i64 (N : Int)] w (SingE N w) := by
  have hmk := run_make_row' (P := Try.prog) 23 3 (.int .i64 0) 8 Try.underlying23 Try.infoInt rfl .i64 .i64 N (by omega) (by omega)
  have hR0 := B2.new w (.slice none 0 0) (.slice none 0 0)
  have hb0 : Below w.heap.size w (w.alloc (.cells #[.slice none 0 0, .slice none 0 0] 39)) := (Below.refl _ w).alloc (Nat.le_refl _) _
  obtain ⟨w1, hw1⟩ : ∃ w1, w1 = w.alloc (.cells #[.slice none 0 0, .slice none 0 0] 39) := ⟨_, rfl⟩
  rw [← hw1] at hR0 hb0
  have HW1 := Lib.hid hw1
  have HR0 := Lib.hid hR0
  have HB0 := Lib.hid hb0
  clear hw1 hR0 hb0
  go_enter Try.func15, Try.ntmps15
  go_upto_region 1 with fail
  rw [← HW1.out]
  go_cut [3] from 5 to 9 (fun t wx => LaidS w1 N t wx)
  case first =>
    have hbr := Below.refl w1.heap.size w1
    refine wp_region_held_drew (S := (fun W => Below w1.heap.size w1 W)) (by kernel_rfl) ?_ (fun hHeld => ?_)
    · exact Below.drew hbr
    refine wpAnyH_take (i := 0) (oi := { dst := some 5, op := _, type := _, pos := _, after := _, guard := _ }) (v := ?_) rfl (by kernel_rfl) (by kernel_rfl) (by kernel_rfl) (fun _ _ _ h => h) (Or.inl ⟨by rfl, ?_⟩) (by assumption) ?_
    rotate_left
    · intro w hSw; (try dsimp only at hSw); go_simp; (try with_reducible rfl)
    (try simp only [Act.put, List.setIfInBounds_toArray, List.set_cons_zero, List.set_cons_succ])
    refine wpAnyH_take (i := 2) (oi := { dst := some 7, op := _, type := _, pos := _, after := _, guard := _ }) (v := ?_) rfl (by kernel_rfl) (by kernel_rfl) (by kernel_rfl) (fun _ _ _ h => h) (Or.inl ⟨by rfl, ?_⟩) (by assumption) ?_
    rotate_left
    · intro w hSw; (try dsimp only at hSw); go_simp; (try with_reducible rfl)
    (try simp only [Act.put, List.setIfInBounds_toArray, List.set_cons_zero, List.set_cons_succ])
    refine wpAnyH_inv (I := fun listed a W => (∃ (b1 b3 b4 b5 : Bool) (v3 v6 v8 v9 : Value), listed = #[true, b1, true, b3, b4, b5, false] ∧ a = ({ tmps := #[.int .i64 (N : Int), undef, .pointer (some ⟨w.heap.size, 0, none⟩), v3, undef, .int .i64 (N : Int), v6, .int .i64 (N : Int), v8, v9, undef, undef, undef, undef, undef, undef, undef, undef, undef, undef, undef, undef, undef, undef, undef], defers := [] } : Act) ∧ FS w1 N b1 b3 b4 b5 v3 v6 v8 v9 W ∧ Below w1.heap.size w1 W) ∨ (∃ (v3 v6 v8 v9 : Value), listed = #[true, true, true, true, true, true, true] ∧ a = ({ tmps := #[.int .i64 (N : Int), undef, .pointer (some ⟨w.heap.size, 0, none⟩), v3, undef, .int .i64 (N : Int), v6, .int .i64 (N : Int), v8, v9, undef, undef, undef, undef, undef, undef, undef, undef, undef, undef, undef, undef, undef, undef, undef], defers := [] } : Act) ∧ LaidS w1 N v3 W)) ?_ ?_ _ _ _ _ (by decide +kernel) (.inl ⟨false, false, false, false, undef, undef, undef, undef, rfl, rfl, ⟨fun h => (by cases h), fun h => (by cases h), fun h => (by cases h), fun h => (by cases h), fun h => (by cases h)⟩, hHeld⟩)
    · intro listed a W hI i o ho hf ha K hK
      have hi : i = 0 ∨ i = 1 ∨ i = 2 ∨ i = 3 ∨ i = 4 ∨ i = 5 ∨ i = 6 := by
        have h1 := (Array.getElem?_eq_some_iff.1 ho).1
        have h2 : i < 7 := h1
        omega
      rcases hI with ⟨b1, b3, b4, b5, v3, v6, v8, v9, rfl, rfl, hF, hH⟩ | ⟨v3, v6, v8, v9, rfl, rfl, _⟩
      rotate_left
      · rcases hi with rfl | rfl | rfl | rfl | rfl | rfl | rfl <;> cases hf
      clear hHeld hbr
      rcases hi with rfl | rfl | rfl | rfl | rfl | rfl | rfl
      · cases hf
      · cases ho
        have n1 : b1 = false := hf
        have HF := Lib.hid hF
        have HHH := Lib.hid hH
        have N1 := Lib.hid n1
        clear hF hH ha hf n1
        go_simp
        (try simp only [Act.put, List.setIfInBounds_toArray, List.set_cons_zero, List.set_cons_succ])
        have hal : Below w1.heap.size w1 (W.alloc (.cells (madeCells #[.int .i64 0] N) 3)) := HHH.out.alloc HHH.out.size _
        refine hK.out _ _ hal (.inl ⟨true, b3, b4, b5, v3, _, v8, v9, rfl, rfl, ?_, hal⟩)
        have h := HF.out.step (below_allocU W (.cells (madeCells #[.int .i64 0] N) 3))
        refine ⟨fun _ => ⟨_, rfl, World.rowIs_made W (.int .i64 0) N 3, HHH.out.size⟩, h.f3, fun _ e3 g h2 e6 e8 e => ?_, fun e => (by have := (h.f4 e).1; rw [N1.out] at this; cases this), h.f5⟩
        obtain ⟨g8, e9, hr9, _⟩ := HF.out.f3 e3
        have h1 := slice_blk e6
        have h3 := slice_blk (e8.symm.trans e9)
        have := hr9.lt
        omega
      · cases hf
      · cases ho
        have n3 : b3 = false := hf
        have HF := Lib.hid hF
        have HHH := Lib.hid hH
        have N3 := Lib.hid n3
        clear hF hH ha hf n3
        go_simp
        (try simp only [Act.put, List.setIfInBounds_toArray, List.set_cons_zero, List.set_cons_succ])
        have hal : Below w1.heap.size w1 (W.alloc (.cells (madeCells #[.int .i64 0] N) 3)) := HHH.out.alloc HHH.out.size _
        refine hK.out _ _ hal (.inl ⟨b1, true, b4, b5, v3, v6, _, v9, rfl, rfl, ?_, hal⟩)
        have h := HF.out.step (below_allocU W (.cells (madeCells #[.int .i64 0] N) 3))
        refine ⟨h.f1, fun _ => ⟨_, rfl, World.rowIs_made W (.int .i64 0) N 3, HHH.out.size⟩, fun e1 _ g h2 e6 e8 e => ?_, fun e => (by have := (h.f4 e).2.1; rw [N3.out] at this; cases this), h.f5⟩
        obtain ⟨g6, e9, hr9, _⟩ := HF.out.f1 e1
        have h1 := slice_blk e8
        have h3 := slice_blk (e6.symm.trans e9)
        have := hr9.lt
        omega
      · cases ho
        have d1 : b1 = true := ha { on := 1, ground := .data } (by simp) rfl
        have d3 : b3 = true := ha { on := 3, ground := .data } (by simp) rfl
        have HF := Lib.hid hF
        have HHH := Lib.hid hH
        have DD := Lib.hid (show b1 = true ∧ b3 = true from ⟨d1, d3⟩)
        obtain ⟨g, rfl, _⟩ := hF.f1 d1
        obtain ⟨t, rfl, _⟩ := hF.f3 d3
        clear hF hH ha hf d1 d3
        go_simp
        (try simp only [Act.put, List.setIfInBounds_toArray, List.set_cons_zero, List.set_cons_succ])
        refine hK.out _ _ HHH.out (.inl ⟨b1, b3, true, b5, v3, _, _, _, rfl, rfl, ?_, HHH.out⟩)
        have h := HF.out
        exact ⟨h.f1, h.f3, h.f13, fun _ => ⟨DD.out.1, DD.out.2, rfl⟩, h.f5⟩
      · cases ho
        have HF := Lib.hid hF
        have HHH := Lib.hid hH
        clear hF hH ha hf
        go_simp
        (try simp only [Act.put, List.setIfInBounds_toArray, List.set_cons_zero, List.set_cons_succ])
        have hal : Below w1.heap.size w1 (W.alloc (.cells #[.slice none 0 0, .slice none 0 0] 39)) := HHH.out.alloc HHH.out.size _
        refine hK.out _ _ hal (.inl ⟨b1, b3, b4, true, _, v6, v8, v9, rfl, rfl, ?_, hal⟩)
        have h := HF.out.step (below_allocU W (.cells #[.slice none 0 0, .slice none 0 0] 39))
        exact ⟨h.f1, h.f3, h.f13, h.f4, fun _ => ⟨_, rfl, B2.new W _ _, HHH.out.size⟩⟩
      · cases ho
        have d4 : b4 = true := ha { on := 4, ground := .data } (by simp) rfl
        have d5 : b5 = true := ha { on := 5, ground := .data } (by simp) rfl
        obtain ⟨d1, d3, rfl⟩ := hF.f4 d4
        have hne := hF.f13 d1 d3
        obtain ⟨g, rfl, hg, lg⟩ := hF.f1 d1
        obtain ⟨t, rfl, ht, lt⟩ := hF.f3 d3
        obtain ⟨D, rfl, hD, lD⟩ := hF.f5 d5
        subst d1 d3 d4 d5
        obtain ⟨c0, c1⟩ := hD.cells
        have cz := hD.fz
        have FIN := Lib.hid (laidS_put hD hg ht (hne g t rfl rfl) hH lD lg lt)
        have HHH : Hid (Below w1.heap.size w1 ((W.setCell ⟨D, 0, none⟩ (.slice (some ⟨g, 0, none⟩) N N)).setCell ⟨D, 1, none⟩ (.slice (some ⟨t, 0, none⟩) N N))) := Lib.hid ((hH.setCell (p := ⟨D, 0, none⟩) lD _).setCell (p := ⟨D, 1, none⟩) lD _)
        clear hF hH ha hf hg ht hD hne
        go_simp
        (try simp only [Act.put, List.setIfInBounds_toArray, List.set_cons_zero, List.set_cons_succ])
        exact hK.out _ _ HHH.out (.inr ⟨_, _, _, _, rfl, rfl, FIN.out⟩)
    · intro listed a W hI hr
      rcases hI with ⟨b1, b3, b4, b5, v3, v6, v8, v9, rfl, rfl, hF, hH⟩ | ⟨v3, v6, v8, v9, rfl, rfl, hfin⟩
      · exfalso
        obtain rfl : b1 = true := came_up' hr (i := 1) rfl (by rfl)
        obtain rfl : b3 = true := came_up' hr (i := 3) rfl (by rfl)
        obtain rfl : b4 = true := came_up' hr (i := 4) rfl (by rfl)
        obtain rfl : b5 = true := came_up' hr (i := 5) rfl (by rfl)
        have : false = true := came_up' hr (i := 6) rfl (by rfl)
        cases this
      · have FIN := Lib.hid hfin
        clear hfin hr hHeld hbr
        go_wp2_with fail
        go_meet
        case rel => exact FIN.out
  case rest =>
    obtain ⟨D, g, h, rfl, hD, hg, hh, hne, lD, lg, lh, hbx⟩ := hcut
    have hDg : D ≠ g := hD.ne_row hg (by decide)
    have hDh : D ≠ h := hD.ne_row hh (by decide)
    have hgD : ¬ (g = D) := fun e => hDg e.symm
    have hhD : ¬ (h = D) := fun e => hDh e.symm
    have hhg : ¬ (h = g) := fun e => hne e.symm
    have hgh : ¬ (g = h) := hne
    have hR := HR0.out.step hbx
    have HL := Lib.hid (And.intro lD (And.intro lg lh))
    have hs1 : w1.heap.size = w.heap.size + 1 := by rw [HW1.out]; simp
    have HBW := Lib.hid (HB0.out.trans (hbx.mono (by omega)))
    have hRD : ¬ (w.heap.size = D) := by omega
    have hRg : w.heap.size ≠ g := by omega
    have hRh : w.heap.size ≠ h := by omega
    obtain ⟨R, hRR⟩ : ∃ R, R = w.heap.size := ⟨_, rfl⟩
    rw [← hRR] at hR hRD hRg hRh ⊢
    have HRR := Lib.hid hRR
    have HS1 := Lib.hid hs1
    clear hbx lD lg lh hs1 hRR
    go_wp2_with fail
    obtain ⟨wo, rfl⟩ : ∃ wo : World, wo = wc := ⟨_, rfl⟩
    go_loopw [4, 11] (fun v4 v11 wr => ∃ q : Nat, q ≤ N ∧ v11 = .int .i64 (q : Int) ∧ wr.rowIs g 3 N (fun x => .int .i64 ((if x < q then x else 0 : Nat) : Int)) ∧ wr.rowIs h 3 N (fun x => .int .i64 ((if x < q then 1 else 0 : Nat) : Int)) ∧ Keeps (fun b => b ≠ g ∧ b ≠ h) wo wr) (fun _ i _ => N - (intOf i).toNat)
    case atStart => exact ⟨0, Nat.zero_le _, rfl, hg, hh, Keeps.refl _ _⟩
    case round =>
      obtain ⟨q, hq, rfl, hrg, hrh, hk⟩ := hrel
      have hDr : B2 D (.slice (some ⟨g, 0, none⟩) N N) (.slice (some ⟨h, 0, none⟩) N N) wr := (hk.block D hD.lt ⟨hDg, hDh⟩).trans hD
      have hRr : B2 R (.slice none 0 0) (.slice none 0 0) wr := (hk.block R hR.lt ⟨hRg, hRh⟩).trans hR
      obtain ⟨c0, c1⟩ := hDr.cells
      by_cases hlt : q < N
      · have r1 : (wr.setCell ⟨g, q, none⟩ (.int .i64 (q : Int))).rowIs g 3 N (fun x => .int .i64 ((if x < q + 1 then x else 0 : Nat) : Int)) := (hrg.set q _).congr fun j _ => by
          by_cases e : j = q
          · subst e; rw [if_pos rfl, if_pos (by omega)]
          · rw [if_neg e]
            by_cases e2 : j < q
            · rw [if_pos e2, if_pos (by omega)]
            · rw [if_neg e2, if_neg (by omega)]
        have r2 := hrh.setOther (a := ⟨g, q, none⟩) (fun e => hhg e) (.int .i64 (q : Int))
        have r3 : ((wr.setCell ⟨g, q, none⟩ (.int .i64 (q : Int))).setCell ⟨h, q, none⟩ (.int .i64 1)).rowIs h 3 N (fun x => .int .i64 ((if x < q + 1 then 1 else 0 : Nat) : Int)) := (r2.set q _).congr fun j _ => by
          by_cases e : j = q
          · subst e; rw [if_pos rfl, if_pos (by omega)]; rfl
          · rw [if_neg e]
            by_cases e2 : j < q
            · rw [if_pos e2, if_pos (by omega)]
            · rw [if_neg e2, if_neg (by omega)]
        have k3 := (hk.setCell (q := ⟨g, q, none⟩) (fun _ hp => hp.1 rfl) (.int .i64 (q : Int))).setCell (q := ⟨h, q, none⟩) (fun _ hp => hp.2 rfl) (.int .i64 1)
        have X := Lib.hid (And.intro (r1.setOther (a := ⟨h, q, none⟩) (fun e => hgh e) (.int .i64 1)) (And.intro r3 k3))
        have cg := hrg.cell hlt
        have ch := hrh.cell hlt
        have fg := hrg.frozen q
        have fh := hrh.frozen q
        obtain ⟨xg, hxg⟩ : ∃ xg : Nat, xg = if q < q then q else 0 := ⟨_, rfl⟩
        obtain ⟨xh, hxh⟩ : ∃ xh : Nat, xh = if q < q then 1 else 0 := ⟨_, rfl⟩
        rw [← hxg] at cg
        rw [← hxh] at ch
        have i0 : (0 : Int) ≤ (q : Int) := Int.natCast_nonneg _
        have i1 : (q : Int) < (N : Int) := by omega
        clear r1 r2 r3 k3 hrg hrh hk hxg hxh hDr hRr hg hh hD hR
        go_wp2_with fail
        go_region
        go_wp2_with fail
        go_roundw
        case rel => exact ⟨q + 1, by omega, by go_num, X.out.1, X.out.2.1, X.out.2.2.drew⟩
        case measure => simp [intOf]; omega
      · obtain rfl : q = N := by omega
        obtain ⟨z0, z1⟩ := hRr.cells
        have zf := hRr.fz
        have hput := hRr.put (.slice (some ⟨g, 0, none⟩) q q) (.slice (some ⟨h, 0, none⟩) q q)
        have hk2 := (hk.mono (q := fun b => b ≠ g ∧ b ≠ h ∧ b ≠ R) (fun _ _ e => ⟨e.1, e.2.1⟩)).setCell (q := ⟨R, 0, none⟩) (fun _ hp => hp.2.2 rfl) (.slice (some ⟨g, 0, none⟩) q q)
        have hk3 := hk2.setCell (q := ⟨R, 1, none⟩) (fun _ hp => hp.2.2 rfl) (.slice (some ⟨h, 0, none⟩) q q)
        have g3 := (hrg.setOther (a := ⟨R, 0, none⟩) (fun e => hRg e.symm) (.slice (some ⟨g, 0, none⟩) q q)).setOther (a := ⟨R, 1, none⟩) (fun e => hRg e.symm) (.slice (some ⟨h, 0, none⟩) q q)
        have h3 := (hrh.setOther (a := ⟨R, 0, none⟩) (fun e => hRh e.symm) (.slice (some ⟨g, 0, none⟩) q q)).setOther (a := ⟨R, 1, none⟩) (fun e => hRh e.symm) (.slice (some ⟨h, 0, none⟩) q q)
        have HF : Hid (∀ wz, wz = (wr.setCell ⟨R, 0, none⟩ (.slice (some ⟨g, 0, none⟩) q q)).setCell ⟨R, 1, none⟩ (.slice (some ⟨h, 0, none⟩) q q) → B2 R (.slice (some ⟨g, 0, none⟩) q q) (.slice (some ⟨h, 0, none⟩) q q) wz ∧ UM q id g h wz ∧ Below w.heap.size w wz) := Lib.hid fun wz hz => by
          subst hz
          refine ⟨hput, ⟨id, fun _ => 1, id, fun _ => 0, Us.start q, g3.congr fun x hx => by (rw [if_pos hx]; rfl), h3.congr fun x hx => by rw [if_pos hx]⟩, ?_⟩
          have := HL.out
          have hb : Below w.heap.size wo _ := hk3.below (n := w.heap.size) HBW.out.size (fun k hk => by have := HL.out; have := HS1.out; have := HRR.out; omega)
          exact HBW.out.trans hb
        have HLL : Hid (w.heap.size ≤ g ∧ w.heap.size ≤ h) := Lib.hid (by have := HL.out; have := HS1.out; omega)
        clear hput hk2 hk3 g3 h3 hrg hrh hk hDr hRr hg hh hD hR hlt
        go_wp2_with fail
        obtain ⟨q1, q2, q3⟩ := HF.out _ rfl
        refine bodyPost_ret (results_cell_row rfl _ _ R 39 _ (0, 0) _ rfl q1 rfl rfl Try.infoSets) rfl ?_
        exact ⟨g, h, rfl, hgh, HLL.out.1, HLL.out.2, q2, q3⟩
end Go.Proofs.Ytafhljjekpaehaa
