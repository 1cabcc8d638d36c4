/-
  Contract of slices.Reverse at a row of set operations that the call owns.
-/
import Derived.Test.YtafhljjekpaehaaUfC
namespace Go.Proofs.Ytafhljjekpaehaa
open Go.RowKit Go.Shelf
set_option maxRecDepth 100000

/-- three cells of a row are stored -/
def put3 (w : World) (g o : Nat) (t : SOp) : World := ((w.setCell ⟨g, o, none⟩ (.int .i64 t.1)).setCell ⟨g, o + 1, none⟩ (.int .i64 t.2.1)).setCell ⟨g, o + 2, none⟩ (.int .i64 t.2.2)
/-- an owned row of threes: element k is f k -/
def Own3 (T : TypeId) (w : World) (base g n c : Nat) (f : Nat → SOp) : Prop := w.ownsRow base T 3 (.slice (some ⟨g, 0, none⟩) n c) n (sVals ((List.range n).map f))
theorem tr3_map (f : Nat → SOp) {n k : Nat} (h : k < n) : tr3 ((List.range n).map f) k = f k := by unfold tr3; simp [List.getD, h]
theorem list_tr3 (l : List SOp) : (List.range l.length).map (tr3 l) = l := by
  refine List.ext_getElem (by simp) fun k h1 h2 => ?_
  unfold tr3
  simp [List.getD, h2]
theorem sVals_ext {l m : List SOp} (hl : l.length = m.length) (h : ∀ k, k < l.length → tr3 l k = tr3 m k) : l = m := by
  rw [← list_tr3 l, ← list_tr3 m, ← hl]
  exact List.map_congr_left fun k hk => h k (List.mem_range.1 hk)
section
variable {T : TypeId} {w w' : World} {base g n c : Nat} {f : Nat → SOp}
theorem Own3.cells (h : Own3 T w base g n c f) {k : Nat} (hk : k < n) : Cell3 w g (k * 3) (f k) := by
  have h1 := sVals_at ((List.range n).map f) k (by simpa using hk)
  rw [tr3_map f hk] at h1
  exact ⟨by rw [World.ownsRow.cellAt h (k * 3) (by omega)]; exact h1.1, by rw [World.ownsRow.cellAt h (k * 3 + 1) (by omega)]; exact h1.2.1, by rw [World.ownsRow.cellAt h (k * 3 + 2) (by omega)]; exact h1.2.2⟩
theorem Own3.frozen (h : Own3 T w base g n c f) (o : Nat) : w.frozen? ⟨g, o, none⟩ = false := World.ownsRow.frozenAt h o
theorem Own3.base_le (h : Own3 T w base g n c f) : base ≤ g := (World.ownsRow.lt h g rfl).1
theorem sVals_put (f : Nat → SOp) {k : Nat} (hk : k < n) (t : SOp) : (((sVals ((List.range n).map f)).set (k * 3) (.int .i64 t.1)).set (k * 3 + 1) (.int .i64 t.2.1)).set (k * 3 + 2) (.int .i64 t.2.2) = sVals ((List.range n).map fun j => if j = k then t else f j) := by
  apply List.ext_getElem?
  intro j
  by_cases hj : j < n * 3
  · have hq : j / 3 < n := by omega
    obtain ⟨a0, a1, a2⟩ := sVals_at ((List.range n).map f) (j / 3) (by simpa using hq)
    obtain ⟨b0, b1, b2⟩ := sVals_at ((List.range n).map fun j => if j = k then t else f j) (j / 3) (by simpa using hq)
    rw [tr3_map _ hq] at a0 a1 a2 b0 b1 b2
    have hl : (sVals ((List.range n).map f)).length = n * 3 := by rw [sVals_len]; simp
    simp only [List.getElem?_set, List.length_set, hl]
    rcases (show j % 3 = 0 ∨ j % 3 = 1 ∨ j % 3 = 2 by omega) with e | e | e
    · rw [show j / 3 * 3 = j by omega] at a0 b0
      rw [b0, if_neg (by omega), if_neg (by omega)]
      by_cases e2 : j / 3 = k
      · rw [if_pos (by omega), if_pos (by omega), if_pos e2]
      · rw [if_neg (by omega), if_neg e2, a0]
    · rw [show j / 3 * 3 + 1 = j by omega] at a1 b1
      rw [b1, if_neg (by omega)]
      by_cases e2 : j / 3 = k
      · rw [if_pos (by omega), if_pos (by omega), if_pos e2]
      · rw [if_neg (by omega), if_neg (by omega), if_neg e2, a1]
    · rw [show j / 3 * 3 + 2 = j by omega] at a2 b2
      rw [b2]
      by_cases e2 : j / 3 = k
      · rw [if_pos (by omega), if_pos (by omega), if_pos e2]
      · rw [if_neg (by omega), if_neg (by omega), if_neg (by omega), if_neg e2, a2]
  · rw [List.getElem?_eq_none (by simp [sVals_len]; omega), List.getElem?_eq_none (by simp [sVals_len]; omega)]
theorem Own3.put (h : Own3 T w base g n c f) {k : Nat} (hk : k < n) (t : SOp) : Own3 T (put3 w g (k * 3) t) base g n c (fun j => if j = k then t else f j) := by
  unfold Own3
  rw [← sVals_put f hk t]
  exact ((((h.stored (k * 3) (.int .i64 t.1)).1).stored (k * 3 + 1) (.int .i64 t.2.1)).1.stored (k * 3 + 2) (.int .i64 t.2.2)).1
theorem Own3.congr {f' : Nat → SOp} (h : Own3 T w base g n c f) (e : ∀ k, k < n → f k = f' k) : Own3 T w base g n c f' := by
  unfold Own3
  rw [← List.map_congr_left (f := f) fun k hk => e k (List.mem_range.1 hk)]
  exact h
theorem Own3.drew (h : Own3 T w base g n c f) : Own3 T w.drew base g n c f := h
theorem below_put3 {B : Nat} {a : World} (h : Below B a w) (hB : B ≤ g) (o : Nat) (t : SOp) : Below B a (put3 w g o t) :=
  ((h.setCell (p := ⟨g, o, none⟩) hB _).setCell (p := ⟨g, o + 1, none⟩) hB _).setCell (p := ⟨g, o + 2, none⟩) hB _
end
/-- i from either end turned -/
def revA (l : List SOp) (i k : Nat) : SOp := if k < i ∨ l.length - i ≤ k then tr3 l (l.length - 1 - k) else tr3 l k
theorem revA_step {l : List SOp} {i j : Nat} (hij : i < j) (hj : j = l.length - 1 - i) (k : Nat) (hk : k < l.length) : revA l (i + 1) k = (if k = j then revA l i i else if k = i then revA l i j else revA l i k) := by
  unfold revA
  by_cases e1 : k = j
  · subst e1
    rw [if_pos rfl, if_pos (by omega), if_neg (by omega), show l.length - 1 - k = i by omega]
  · rw [if_neg e1]
    by_cases e2 : k = i
    · subst e2
      rw [if_pos rfl, if_pos (by omega), if_neg (by omega), ← hj]
    · rw [if_neg e2]
      by_cases e3 : k < i ∨ l.length - i ≤ k
      · rw [if_pos e3, if_pos (by omega)]
      · rw [if_neg e3, if_neg (by omega)]
theorem revA_end {l : List SOp} {i : Nat} (h : l.length - 1 - i ≤ i) : (List.range l.length).map (revA l i) = l.reverse := by
  refine sVals_ext (by simp) fun k hk => ?_
  have hk' : k < l.length := by simpa using hk
  rw [tr3_map _ hk']
  have hr : tr3 l.reverse k = tr3 l (l.length - 1 - k) := by
    unfold tr3
    rw [List.getD_eq_getElem?_getD, List.getD_eq_getElem?_getD, List.getElem?_reverse (by omega)]
  rw [hr]
  unfold revA
  by_cases e : k < i ∨ l.length - i ≤ k
  · rw [if_pos e]
  · rw [if_neg e, show l.length - 1 - k = k by omega]

set_option maxHeartbeats 4000000 in
theorem revS_any (base g c : Nat) (ops : List SOp) (w : World) (hl : ops.length ≤ 1048576) (hn : 0 < ops.length) (hown : Own3 32 w base g ops.length c (tr3 ops)) :
    Calls Try.prog 14 #[.slice (some ⟨g, 0, none⟩) ops.length c] w fun e w' => e = .returned (.tuple #[]) ∧ Own3 32 w' base g ops.length c (tr3 ops.reverse) ∧ Below base w w' := by
  have hbg := hown.base_le
  have h0 : Own3 32 w base g ops.length c (revA ops 0) := hown.congr fun k hk => by unfold revA; rw [if_neg (by omega)]
  have HR := Lib.hid (fun i (h : ops.length - 1 - i ≤ i) => revA_end (l := ops) (i := i) h)
  have HS := Lib.hid (fun i j (hij : i < j) (hj : j = ops.length - 1 - i) k hk => revA_step (l := ops) hij hj k hk)
  obtain ⟨n, hne⟩ : ∃ n, n = ops.length := ⟨_, rfl⟩
  rw [← hne] at h0 hl hn HR HS ⊢
  obtain ⟨F, hF⟩ : ∃ F, F = revA ops := ⟨_, rfl⟩
  rw [← hF] at h0 HR HS
  have HNE := Lib.hid hne
  clear hown hF hne
  go_enter Try.func14, Try.ntmps14
  go_wp2_with fail
  go_loopw [2, 3] (fun s2 s3 wr => ∃ i : Nat, i ≤ n ∧ s2 = .int .i64 i ∧ s3 = .int .i64 ((n : Int) - 1 - i) ∧ Own3 32 wr base g n c (F i) ∧ Below base w wr) (fun s2 _ _ => n - (RowKit.intOf s2).toNat)
  case atStart => exact ⟨0, Nat.zero_le _, rfl, by simp, h0, Below.refl _ _⟩
  case round =>
    obtain ⟨i, hin, rfl, rfl, hr, hb⟩ := hrel
    clear h0
    by_cases hlt : (i : Int) < (n : Int) - 1 - i
    · obtain ⟨j, hj⟩ : ∃ j : Nat, (n : Int) - 1 - i = (j : Int) := ⟨n - 1 - i, by omega⟩
      rw [hj] at hlt ⊢
      have hij : i < j := by omega
      have hjn : j < n := by omega
      have hjv : j = n - 1 - i := by omega
      obtain ⟨a0, a1, a2⟩ := hr.cells (k := i) (by omega)
      obtain ⟨b0, b1, b2⟩ := hr.cells (k := j) hjn
      have hfz := hr.frozen
      have fin := ((hr.put (k := i) (by omega) (F i j)).put (k := j) hjn (F i i)).congr (f' := F (i + 1)) fun k hk => (HS.out i j hij hjv k hk).symm
      have hb2 := below_put3 (below_put3 hb hbg (i * 3) (F i j)) hbg (j * 3) (F i i)
      obtain ⟨x, hx⟩ : ∃ x, x = F i i := ⟨_, rfl⟩
      obtain ⟨y, hy⟩ : ∃ y, y = F i j := ⟨_, rfl⟩
      rw [← hx] at a0 a1 a2 fin hb2
      rw [← hy] at b0 b1 b2 fin hb2
      obtain ⟨x0, x1, x2⟩ := x
      obtain ⟨y0, y1, y2⟩ := y
      dsimp only at a0 a1 a2 b0 b1 b2
      have FIN := Lib.hid fin
      have HB2 := Lib.hid hb2
      unfold put3 at FIN HB2
      dsimp only at FIN HB2
      have HJ := Lib.hid hj
      have f0 := hfz (i * 3)
      have f1 := hfz (i * 3 + 1)
      have f2 := hfz (i * 3 + 2)
      have g0 := hfz (j * 3)
      have g1 := hfz (j * 3 + 1)
      have g2 := hfz (j * 3 + 2)
      have hmo : Try.prog.follows .mixedOrders = true := by kernel_rfl
      clear hr hb fin hb2 hx hy hfz hjv hj
      go_wp2_with fail
      go_region_o
      go_wp2_with fail
      go_roundw
      case rel => exact ⟨i + 1, by omega, by go_num, by rw [show ((n : Int) - 1 - ((i + 1 : Nat) : Int)) = (j : Int) - 1 by have := HJ.out; omega], FIN.out.drew, HB2.out.drew⟩
      case measure => simp [intOf]; omega
    · go_wp2_with fail
      go_end0
      refine ⟨rfl, ?_, hb⟩
      unfold Own3 at hr ⊢
      rw [HR.out i (by omega)] at hr
      have e : (List.range n).map (tr3 ops.reverse) = ops.reverse := by
        have := list_tr3 ops.reverse
        rw [List.length_reverse, ← HNE.out] at this
        exact this
      rw [e]
      exact hr
set_option maxHeartbeats 1000000 in
theorem revS_none (A : Option Addr) (c : Nat) (w : World) :
    Calls Try.prog 14 #[.slice A 0 c] w fun e w' => e = .returned (.tuple #[]) ∧ w' = w := by
  go_enter Try.func14, Try.ntmps14
  go_wp2_with fail
  go_loopw [2, 3] (fun s2 s3 wr => s2 = .int .i64 0 ∧ s3 = .int .i64 (-1) ∧ wr = w) (fun _ _ _ => 0)
  case atStart => exact ⟨rfl, rfl, rfl⟩
  case round =>
    obtain ⟨rfl, rfl, rfl⟩ := hrel
    go_wp2_with fail
    go_end0
    exact ⟨rfl, rfl⟩
end Go.Proofs.Ytafhljjekpaehaa
