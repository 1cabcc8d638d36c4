/-
  The law GraphLeast: without an edge of the core what it led to is not behind.
-/
import Derived.Test.YtaboafkpmgadmaaDoorGrLsC
import Derived.Test.YtaboafkpmgadmaaDoorGrBs
import Derived.Test.YtaboafkpmgadmaaDoorGrAl
import Derived.Deep.CutRange
namespace Go.Proofs.YtaboafkpmgadmaaDoor
open Go.RowKit Go.Shelf
set_option maxRecDepth 100000

/-- the graph's box lies as it lay, and all that lay -/
abbrev HeldL (w0 : World) (B : Nat) (x : Int) (v : Value) (w' : World) : Prop := w'.cell? ⟨B, 0, none⟩ = some (.int .i64 x) ∧ w'.cell? ⟨B, 1, none⟩ = some v ∧ Below w0.heap.size w0 w'
theorem HeldL.drew {w0 W : World} {B : Nat} {x : Int} {v : Value} (h : HeldL w0 B x v W) : HeldL w0 B x v W.drew := ⟨h.1, h.2.1, h.2.2.drew⟩
theorem HeldL.step {w0 W w2 : World} {B : Nat} {x : Int} {v : Value} (h : HeldL w0 B x v W) (hb : Below W.heap.size W w2) : HeldL w0 B x v w2 :=
  ⟨(hb.cell (p := ⟨B, 0, none⟩) (World.block_lt_of_cell? _ _ h.1)).trans h.1, (hb.cell (p := ⟨B, 1, none⟩) (World.block_lt_of_cell? _ _ h.2.1)).trans h.2.1, h.2.2.trans (hb.mono h.2.2.size)⟩
theorem HeldL.below {w0 W w2 : World} {B : Nat} {x : Int} {v : Value} (h : HeldL w0 B x v W) (hB : B < w0.heap.size) (hb : Below w0.heap.size W w2) : HeldL w0 B x v w2 :=
  ⟨(hb.cell (p := ⟨B, 0, none⟩) hB).trans h.1, (hb.cell (p := ⟨B, 1, none⟩) hB).trans h.2.1, h.2.2.trans hb⟩
theorem HeldL.alloc {w0 W : World} {B : Nat} {x : Int} {v : Value} (h : HeldL w0 B x v W) (o : Obj) : HeldL w0 B x v (W.alloc o) := h.step (below_alloc _ _)
theorem HeldL.set2 {w0 W : World} {B D : Nat} {x : Int} {v : Value} (hB : B < w0.heap.size) (hD : w0.heap.size ≤ D) (a b : Value) (h : HeldL w0 B x v W) : HeldL w0 B x v ((W.setCell ⟨D, 0, none⟩ a).setCell ⟨D, 1, none⟩ b) :=
  h.below hB (((Below.refl _ W).setCell (p := ⟨D, 0, none⟩) hD a).setCell (p := ⟨D, 1, none⟩) hD b)
/-- four cells lie as they lay, and all that lay -/
abbrev HeldM (w0 : World) (B : Nat) (v : Value) (B7 x y : Nat) (b o : Nat) (u : Value) (w' : World) : Prop := w'.cell? ⟨B, 1, none⟩ = some v ∧ w'.cell? ⟨B7, 0, none⟩ = some (.int .i64 (x : Int)) ∧ w'.cell? ⟨B7, 1, none⟩ = some (.int .i64 (y : Int)) ∧ w'.cell? ⟨b, o, none⟩ = some u ∧ Below w0.heap.size w0 w'
theorem HeldM.drew {w0 W : World} {B B7 x y b o : Nat} {v u : Value} (h : HeldM w0 B v B7 x y b o u W) : HeldM w0 B v B7 x y b o u W.drew := ⟨h.1, h.2.1, h.2.2.1, h.2.2.2.1, h.2.2.2.2.drew⟩
theorem HeldM.step {w0 W w2 : World} {B B7 x y b o : Nat} {v u : Value} (h : HeldM w0 B v B7 x y b o u W) (hb : Below W.heap.size W w2) : HeldM w0 B v B7 x y b o u w2 :=
  ⟨(hb.cell (p := ⟨B, 1, none⟩) (World.block_lt_of_cell? _ _ h.1)).trans h.1, (hb.cell (p := ⟨B7, 0, none⟩) (World.block_lt_of_cell? _ _ h.2.1)).trans h.2.1, (hb.cell (p := ⟨B7, 1, none⟩) (World.block_lt_of_cell? _ _ h.2.2.1)).trans h.2.2.1, (hb.cell (p := ⟨b, o, none⟩) (World.block_lt_of_cell? _ _ h.2.2.2.1)).trans h.2.2.2.1, h.2.2.2.2.trans (hb.mono h.2.2.2.2.size)⟩
/-- the copy's row -/
abbrev OwnE (T : TypeId) (w0 : World) (es : List (Int × Int)) (g c : Nat) (w' : World) : Prop := w'.ownsRow w0.heap.size T 2 (.slice (some ⟨g, 0, none⟩) es.length c) es.length (eVals es)
theorem OwnE.alloc {T : TypeId} {w0 W : World} {es : List (Int × Int)} {g c : Nat} (h : OwnE T w0 es g c W) (o : Obj) : OwnE T w0 es g c (W.alloc o) := World.ownsRow.alloc h o

set_option maxHeartbeats 4000000 in
theorem leastLaw_any (A : Option Addr) (c : Nat) (N : Int) (es : List (Int × Int)) (i : Int) (w : World) (he : RdE w w.heap.size A es) (_hl : es.length ≤ 1048576) (hT : Tab w) :
    Calls Tryd.prog 5 #[.agg #[.int .i64 N, .slice A es.length c], .int .i64 i] w fun e w' => e = .returned (.bool true) ∧ Below w.heap.size w w' := by
  go_enter Tryd.func5, Tryd.ntmps5
  go_wp2_with fail
  have g1 := GB.new w 24 N (.slice A es.length c)
  have hB := below_alloc w (.cells #[.int .i64 N, .slice A es.length c] 24)
  obtain ⟨w1, hw1⟩ : ∃ w1, w1 = w.alloc (.cells #[.int .i64 N, .slice A es.length c] 24) := ⟨_, rfl⟩
  rw [← hw1] at g1 hB ⊢
  have hs := hB.size
  replace he := he.step hB
  replace hT := hT.step hB
  clear hw1
  refine (alive2_any _ hT).mono ?_
  rintro e w2 ⟨rfl, hb⟩
  replace g1 := g1.step hb
  replace he := he.step hb
  replace hT := hT.step hb
  replace hB := below_step hB hs hb
  replace hs := hB.size
  clear hb
  have n1 := g1.n
  have e1 := g1.e
  go_wp2_with fail
  refine (core_any A c N es _ he hT).mono ?_
  rintro e w3 ⟨A3, c3, rfl, q3, hb⟩
  replace g1 := g1.step hb
  replace he := he.step hb
  replace hT := hT.step hb
  replace hB := below_step hB hs hb
  replace hs := hB.size
  clear hb n1 e1
  rcases (by omega : errn N es < 0 ∨ 0 ≤ errn N es) with hneg | hneg
  · unfold errn at hneg; exfalso; split at hneg; split at hneg; all_goals omega
  by_cases hE : errn N es = 0
  · obtain ⟨m, rfl, hin, hfull⟩ := errn_split hE
    have hm := okN_of hin
    have hnG : nG m es = m := by unfold nG; rw [if_pos hE]
    rw [hE, hnG]
    have hCl : (corG m es).length ≤ 40000 := by
      rw [corG_of hin hfull, elI_len]
      exact cor_len hin
    have hT3 := Lib.hid hT
    rcases (by omega : i < 0 ∨ 0 ≤ i) with hi | hi
    · have b1 : decide (i < 0) = true := by simpa using hi
      obtain ⟨C, hC⟩ : ∃ C, C = corG m es := ⟨_, rfl⟩
      rw [← hC] at q3 ⊢
      clear hE hC hCl
      go_wp2_with fail
      go_ret
      exact ⟨rfl, hB.alloc hs _⟩
    rcases (by omega : i < ((corG m es).length : Int) ∨ ((corG m es).length : Int) ≤ i) with hi2 | hi2
    rotate_left
    · have b1 : decide (i < 0) = false := by simp; omega
      have b2 : decide (((corG m es).length : Int) ≤ i) = true := by simpa using hi2
      obtain ⟨C, hC⟩ : ∃ C, C = corG m es := ⟨_, rfl⟩
      rw [← hC] at q3 b2 hi2 ⊢
      clear hE hC hCl
      go_wp2_with fail
      go_ret
      exact ⟨rfl, hB.alloc hs _⟩
    obtain ⟨k, rfl⟩ : ∃ k : Nat, i = (k : Int) := ⟨i.toNat, by omega⟩
    have hk : k < (corG m es).length := by omega
    obtain ⟨x, y, hxy, hxm, hym, hmem, herr, hbit⟩ := least_all hin hfull hk
    obtain ⟨C, hC⟩ : ∃ C, C = corG m es := ⟨_, rfl⟩
    rw [← hC] at q3 hi2 hk hxy herr hbit hCl ⊢
    have hinl : (lss C k).length = C.length - 1 := lss_len hk
    have hbh : behG m (lss C k) = behs m (lss C k) := by unfold behG; rw [if_pos herr, Int.toNat_natCast]
    have HERR := Lib.hid herr
    have HBIT := Lib.hid hbit
    have HBH := Lib.hid hbh
    have HINL := Lib.hid hinl
    have HMEM := Lib.hid hmem
    have hlo1 := Lib.hid q3.lo1
    have hhi1 := Lib.hid q3.hi1
    have hlo2 := Lib.hid q3.lo2
    have hhi2 := Lib.hid q3.hi2
    clear hE hC herr hbit hbh hinl hmem hin hfull hnG hT hi
    obtain ⟨n, hn⟩ : ∃ n, n = C.length := ⟨_, rfl⟩
    have HN := Lib.hid hn.symm
    rw [← hn] at hk hi2 hCl ⊢
    clear hn
    have hk0 : (0 : Int) ≤ (k : Int) := Int.natCast_nonneg _
    go_upto_region 4 with fail
    have g5 := GB.new w3 24 m (.slice A3 n c3)
    have hb := below_alloc w3 (.cells #[.int .i64 m, .slice A3 n c3] 24)
    obtain ⟨w4, hw4⟩ : ∃ w4, w4 = w3.alloc (.cells #[.int .i64 m, .slice A3 n c3] 24) := ⟨_, rfl⟩
    obtain ⟨B5, hB5⟩ : ∃ B5, B5 = w3.heap.size := ⟨_, rfl⟩
    rw [← hw4] at g5 hb ⊢
    rw [← hB5] at g5 ⊢
    replace g1 := g1.step hb
    replace he := he.step hb
    replace hT3 := Lib.hid (hT3.out.step hb)
    replace q3 := q3.step hb
    replace hB := below_step hB hs hb
    replace hs := hB.size
    clear hb hw4 hB5
    obtain ⟨b, off, rfl, hbb, hc⟩ := q3.rd (by rw [HN.out]; omega)
    obtain ⟨hc1, hc2⟩ := hc k (by rw [HN.out]; omega)
    rw [hxy] at hc1 hc2
    dsimp only at hc1 hc2
    have n5 := g5.n
    have e5 := g5.e
    have hnk : ¬ n ≤ k := by omega
    clear hc hxy
    go_upto_region 7 with fail
    have hX := EBox.new w4 x y 38
    have hb := below_alloc w4 (.cells #[.int .i64 x, .int .i64 y] 38)
    obtain ⟨w5, hw5⟩ : ∃ w5, w5 = w4.alloc (.cells #[.int .i64 x, .int .i64 y] 38) := ⟨_, rfl⟩
    obtain ⟨B7, hB7⟩ : ∃ B7, B7 = w4.heap.size := ⟨_, rfl⟩
    have hl7 : B7 < w5.heap.size := by rw [hw5, hB7]; simp
    rw [← hw5] at hX hb ⊢
    rw [← hB7] at hX ⊢
    replace g1 := g1.step hb
    replace g5 := g5.step hb
    replace he := he.step hb
    replace hT3 := Lib.hid (hT3.out.step hb)
    replace q3 := q3.step hb
    replace hB := below_step hB hs hb
    replace hs := hB.size
    clear hb hw5 hB7 n5 e5 hc1 hc2
    have l5 := g5.lt
    have H1 : Hid (∀ W : World, HeldL w5 B5 m (.slice (some ⟨b, off, none⟩) n c3) W → Calls Tryd.prog 25 #[.slice (some ⟨b, off, none⟩) n c3] W fun e w' => ∃ g c', e = .returned (.slice (some ⟨g, 0, none⟩) n c') ∧ OwnE 38 w5 C g c' w' ∧ W.heap.size ≤ g ∧ g < w'.heap.size ∧ Below W.heap.size W w' ∧ HeldL w5 B5 m (.slice (some ⟨b, off, none⟩) n c3) w') := fun W hW => by
      have := cloneE_any (some ⟨b, off, none⟩) c3 C W ((q3.below hW.2.2).more hW.2.2.size) (by rw [HN.out]; omega) (by rw [HN.out]; omega)
      rw [HN.out] at this
      refine this.mono ?_
      rintro e w' ⟨v', rfl, hown, hbe⟩
      rcases hown.2 with ⟨h0, h00⟩ | ⟨g, cap, cur, hv, hgb, hg, _⟩
      · omega
      · subst hv
        refine ⟨g, cap, rfl, ?_, hgb, (Array.getElem?_eq_some_iff.1 hg).1, hbe, hW.step hbe⟩
        unfold OwnE
        rw [HN.out]
        exact own_mono hown hW.2.2.size
    have H2 : Hid (∀ (W : World) (g c' : Nat), OwnE 38 w5 C g c' W → HeldL w5 B5 m (.slice (some ⟨b, off, none⟩) n c3) W → Calls Tryd.prog 24 #[.slice (some ⟨g, 0, none⟩) n c', .int .i64 k, .int .i64 (IntKind.i64.wrap ((k : Int) + 1))] W fun e w' => e = .returned (.slice (some ⟨g, 0, none⟩) (n - 1) c') ∧ RdE w' w'.heap.size (some ⟨g, 0, none⟩) (lss C k) ∧ (∀ b, b ≠ g → w'.heap[b]? = W.heap[b]?) ∧ W.heap.size ≤ w'.heap.size ∧ HeldL w5 B5 m (.slice (some ⟨b, off, none⟩) n c3) w') := fun W g c' ho hW => by
      rw [show IntKind.i64.wrap ((k : Int) + 1) = ((k + 1 : Nat) : Int) by rw [IntKind.wrap_i64]; omega]
      refine (deleteE_any w5.heap.size g c' k (k + 1) n rfl C HN.out W ho hk hlo1.out hhi1.out hlo2.out hhi2.out (by rw [HN.out]; omega)).mono ?_
      rintro e w' ⟨rfl, h1, h2, h3⟩
      exact ⟨rfl, h1, h3, h2.size, hW.below l5 h2⟩
    have n5 := g5.n
    have e5 := g5.e
    have hb0 := Below.refl w5.heap.size w5
    go_cut [8] from 36 to 45 (fun t wx => ∃ D g c', t = .pointer (some ⟨D, 0, none⟩) ∧ GB 24 wx D m (.slice (some ⟨g, 0, none⟩) (n - 1) c') ∧ RdE wx wx.heap.size (some ⟨g, 0, none⟩) (lss C k) ∧ Below w5.heap.size w5 wx)
    case first =>
      go_region_held3 (HeldL w5 B5 m (.slice (some ⟨b, off, none⟩) n c3))
        (first
          | (go_split_ands; refine ⟨?_, ?_, ?_⟩ <;> assumption)
          | (go_split_ands; exact HeldL.drew ⟨‹_›, ‹_›, ‹_›⟩)
          | (go_split_ands; exact HeldL.alloc ⟨‹_›, ‹_›, ‹_›⟩ _)
          | (go_split_ands; exact HeldL.set2 l5 (by simp; omega) _ _ ⟨‹_›, ‹_›, ‹_›⟩)
          | (go_split_ands; exact HeldL.set2 l5 (by omega) _ _ ⟨‹_›, ‹_›, ‹_›⟩)
          | (go_split_ands; exact HeldL.set2 l5 (Nat.le_refl _) _ _ ⟨‹_›, ‹_›, ‹_›⟩))
        (first
          | (go_at_call 25; refine (H1.out _ (by assumption)).mono ?_; rintro e w6 ⟨g6, c6, rfl, ho6, hg6, hl6, hb6, hq6⟩; have hsz6 := hq6.2.2.size; (try (have hDc : GB 24 w6 w5.heap.size 0 (.slice none 0 0) := (hb6.block w5.heap.size (by simp)).trans (heap_alloc_new w5.drew _))))
          | (go_at_call 24; refine (H2.out _ _ _ (by assumption) (by assumption)).mono ?_; rintro e w7 ⟨rfl, hr7, hk7, hs7, hq7⟩; have hsz7 := hq7.2.2.size; (try (have hDd : GB 24 w7 w5.heap.size 0 (.slice none 0 0) := (hk7 w5.heap.size (by simp at hg6; omega)).trans hDc; have hDn := hDd.n; have hDe := hDd.e; have hDf := hDd.frozen)))
          | (go_at_call 24; refine (H2.out _ _ _ (OwnE.alloc (by assumption) _) (by assumption)).mono ?_; rintro e w7 ⟨rfl, hr7, hk7, hs7, hq7⟩; have hsz7 := hq7.2.2.size; have hDd : GB 24 w7 w6.heap.size 0 (.slice none 0 0) := (hk7 w6.heap.size (by omega)).trans (heap_alloc_new w6 _); have hDn := hDd.n; have hDe := hDd.e; have hDf := hDd.frozen))
      all_goals
        go_wp2_with fail
        go_meet
        case rel =>
          first
            | exact ⟨_, g6, c6, rfl, GB.new w7 _ _ _, hr7.step (below_alloc w7 _), hq7.2.2.trans ((below_alloc w7 _).mono hsz7)⟩
            | exact ⟨_, g6, c6, rfl, (hDd.set0 (m : Int)).set _, by simpa using (hr7.set (p := ⟨w6.heap.size, 0, none⟩) (n := n - 1) (c := c6) (by simp [Value.ownBlock]; omega) (.int .i64 (m : Int))).set (p := ⟨w6.heap.size, 1, none⟩) (n := n - 1) (c := c6) (by simp [Value.ownBlock]; omega) (.slice (some ⟨g6, 0, none⟩) (n - 1) c6), (hq7.2.2.setCell (p := ⟨w6.heap.size, 0, none⟩) hsz6 _).setCell (p := ⟨w6.heap.size, 1, none⟩) hsz6 _⟩
            | exact ⟨_, g6, c6, rfl, (hDd.set0 (m : Int)).set _, by simpa using (hr7.set (p := ⟨w5.heap.size, 0, none⟩) (n := n - 1) (c := c6) (by simp at hg6; simp [Value.ownBlock]; omega) (.int .i64 (m : Int))).set (p := ⟨w5.heap.size, 1, none⟩) (n := n - 1) (c := c6) (by simp at hg6; simp [Value.ownBlock]; omega) (.slice (some ⟨g6, 0, none⟩) (n - 1) c6), (hq7.2.2.setCell (p := ⟨w5.heap.size, 0, none⟩) (Nat.le_refl _) _).setCell (p := ⟨w5.heap.size, 1, none⟩) (Nat.le_refl _) _⟩
    case rest =>
      obtain ⟨D, g, c', rfl, gD, rD, hbw⟩ := hcut
      have hX5 := hX.below hbw hl7
      replace g1 := g1.step hbw
      replace he := he.step hbw
      have hT := hT3.out.step hbw
      replace hB := below_step hB hs hbw
      replace hs := hB.size
      clear hbw hX n5 e5 hb0 H1 H2 q3 g5
      have nD := gD.n
      have eD := gD.e
      go_wp2_with fail
      have hbh := behind_any (some ⟨g, 0, none⟩) c' m (lss C k) wc rD hT
      rw [HINL.out, HN.out, HERR.out, HBH.out, behs_len] at hbh
      refine hbh.mono ?_
      rintro e w6 ⟨A1, c1, rfl, hu, hb⟩
      have hl7w : B7 < wc.heap.size := World.block_lt_of_cell? _ _ hX5.x
      replace hX5 := hX5.below hb hl7w
      replace g1 := g1.step hb
      replace he := he.step hb
      replace hT := hT.step hb
      replace hB := below_step hB hs hb
      replace hs := hB.size
      clear hb nD eD gD rD hbh
      obtain ⟨b6, off6, A6, c6, rfl, hb6, hc6, hs6⟩ := hu.at_ (k := x) (by rw [behs_len]; exact hxm)
      rw [st_behs _ hxm] at hc6 hs6
      have hbl := beh_len m (lss C k) x
      have hno : decide ((y : Int) ∈ alist (beh m (lss C k) x) (64 * (beh m (lss C k) x).length)) = false := by
        rw [decide_eq_false_iff_not, mem_alist]
        rintro ⟨q, _, hq, hqy⟩
        obtain rfl : y = q := by omega
        rw [HBIT.out] at hq
        cases hq
      obtain ⟨xs, hxs⟩ : ∃ xs, xs = beh m (lss C k) x := ⟨_, rfl⟩
      rw [← hxs] at hc6 hs6 hbl hno
      obtain ⟨L, hL⟩ : ∃ L, L = alist xs (64 * xs.length) := ⟨_, rfl⟩
      have HL := Lib.hid hL
      rw [← hL] at hno
      have e2 := g1.e
      have ex := hX5.x
      have ey := hX5.y
      have hh := Below.refl w6.heap.size w6
      have HMM := HMEM.out
      have H3 : Hid (∀ W : World, HeldM w6 w.heap.size (.slice A es.length c) B7 x y b6 (off6 + x) (.slice A6 xs.length c6) W → Calls Tryd.prog 27 #[.slice A6 xs.length c6] W fun e w' => ∃ A9 c9, e = .returned (.slice A9 L.length c9) ∧ RdI w' w'.heap.size A9 L ∧ HeldM w6 w.heap.size (.slice A es.length c) B7 x y b6 (off6 + x) (.slice A6 xs.length c6) w') := fun W hW => by
        refine (list_any A6 c6 xs W ((hs6.below hW.2.2.2.2).more hW.2.2.2.2.size) (by omega) (hT.step hW.2.2.2.2)).mono ?_
        rintro e w' ⟨A9, c9, rfl, h9, hbe⟩
        rw [← HL.out] at h9 ⊢
        exact ⟨A9, c9, rfl, h9, hW.step hbe⟩
      have H4 : Hid (∀ (W : World) (A9 : Option Addr) (c9 : Nat), RdI W W.heap.size A9 L → HeldM w6 w.heap.size (.slice A es.length c) B7 x y b6 (off6 + x) (.slice A6 xs.length c6) W → Calls Tryd.prog 26 #[.slice A9 L.length c9, .int .i64 (y : Int)] W fun e w' => e = .returned (.bool false) ∧ HeldM w6 w.heap.size (.slice A es.length c) B7 x y b6 (off6 + x) (.slice A6 xs.length c6) w') := fun W A9 c9 h9 hW => by
        refine (contains_b A9 c9 L (y : Int) W h9).mono ?_
        rintro e w' ⟨rfl, rfl⟩
        rw [hno]
        exact ⟨rfl, hW⟩
      have H5 : Hid (∀ W : World, HeldM w6 w.heap.size (.slice A es.length c) B7 x y b6 (off6 + x) (.slice A6 xs.length c6) W → Calls Tryd.prog 28 #[.slice A es.length c, .agg #[.int .i64 (x : Int), .int .i64 (y : Int)]] W fun e w' => e = .returned (.bool true) ∧ HeldM w6 w.heap.size (.slice A es.length c) B7 x y b6 (off6 + x) (.slice A6 xs.length c6) w') := fun W hW => by
        refine (containsE_yes A c es (x : Int) (y : Int) W ((he.below hW.2.2.2.2).more hW.2.2.2.2.size) HMM).mono ?_
        rintro e w' ⟨rfl, hbe⟩
        exact ⟨rfl, hW.step hbe⟩
      have hx0 : (0 : Int) ≤ (x : Int) := Int.natCast_nonneg _
      have hx1 : (x : Int) < (m : Int) := by omega
      clear hxs hL hno hs6 hu he hT g1 hX5 HMM hbl
      go_upto_region 9 with fail
      go_region_held3 (HeldM w6 w.heap.size (.slice A es.length c) B7 x y b6 (off6 + x) (.slice A6 xs.length c6))
        (first
          | (go_split_ands; refine ⟨?_, ?_, ?_, ?_, ?_⟩ <;> assumption)
          | (go_split_ands; exact HeldM.drew ⟨‹_›, ‹_›, ‹_›, ‹_›, ‹_›⟩))
        (first
          | (go_at_call 27; refine (H3.out _ (by assumption)).mono ?_; rintro e w8 ⟨A9, c9, rfl, h9, hq8⟩)
          | (go_at_call 26; refine (H4.out _ _ _ (by assumption) (by assumption)).mono ?_; rintro e w9 ⟨rfl, hq9⟩)
          | (go_at_call 28; refine (H5.out _ (by assumption)).mono ?_; rintro e w10 ⟨rfl, hq10⟩))
      all_goals
        go_wp2
        go_ret
        exact ⟨rfl, hB.trans (hq10.2.2.2.2.mono hs)⟩
  · have h3 : (errn N es != 0) = true := by simpa using hE
    obtain ⟨C, hC⟩ : ∃ C, C = corG N es := ⟨_, rfl⟩
    obtain ⟨E, hEE⟩ : ∃ E, E = errn N es := ⟨_, rfl⟩
    rw [← hC] at q3
    rw [← hC, ← hEE]
    rw [← hEE] at h3
    clear hE hC hEE hneg
    go_wp2_with fail
    go_ret
    exact ⟨rfl, hB.alloc hs _⟩
end Go.Proofs.YtaboafkpmgadmaaDoor
