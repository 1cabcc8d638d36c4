/-
  Contract of the reference's DMarks; slices.Equal over pairs.
-/
import Derived.Test.YtafdpimkfkddaaaSpDt
import Derived.Test.YtafdpimkfkddaaaSpEq
namespace Go.Proofs.Ytafdpimkfkddaaa
open Go.RowKit
set_option maxRecDepth 100000

/-- the pairs of the leaves at the first k places of the turned list hold their number and their place -/
def FilledT (T : Tm) (xs : List Value) (k : Nat) : Prop := ∀ j, j < T.sz → T.pos (j : Int) < (k : Int) → xs[j * 2]? = some (.int .i64 (j : Int)) ∧ xs[j * 2 + 1]? = some (.int .i64 (T.posN j))
theorem FilledT.next {T : Tm} {xs : List Value} {k m : Nat} (h : FilledT T xs k) (hl : xs.length = T.sz * 2) (hm : m < T.sz) (hp : T.pos (m : Int) = (k : Int)) :
    FilledT T ((xs.set (m * 2) (.int .i64 (m : Int))).set (m * 2 + 1) (.int .i64 (k : Int))) (k + 1) := by
  intro j hj hjk
  simp only [List.getElem?_set]
  by_cases h1 : j = m
  · subst h1
    have : T.posN j = (k : Int) := hp
    simp [this]
    omega
  · have hne : T.pos (j : Int) ≠ (k : Int) := fun e => h1 (by have := T.pos_inj (j : Int) (m : Int) (by omega) (by omega) (by omega) (by omega) (by omega); omega)
    obtain ⟨h2, h3⟩ := h j hj (by omega)
    rw [if_neg (by omega), if_neg (by omega), if_neg (by omega), if_neg (by omega)]
    exact ⟨h2, h3⟩
theorem FilledT.all {T : Tm} {xs : List Value} (h : FilledT T xs T.sz) : Filled xs T.sz T.posN := fun j hj => h j hj (T.pos_lt (j : Int) (by omega) (by omega)).2

set_option maxHeartbeats 1000000 in
theorem dmarks_any (T : Tm) (h : Hd) (w : World) (hT : TIn w w.heap.size T h) (hs : T.sz ≤ 1048576) :
    Calls Try.prog 16 #[.agg h.cells] w fun e w' => ∃ A c xs, e = .returned (.slice A T.sz c) ∧ w'.ownsRow w.heap.size 34 2 (.slice A T.sz c) T.sz xs ∧ Filled xs T.sz T.posN ∧ Below w.heap.size w w' := by
  have key : ∃ w1, w1 = w.alloc (.cells h.cells 26) ∧ Below w.heap.size w w1 ∧ TB 26 w1 w.heap.size h := ⟨_, rfl, (Below.refl _ _).alloc (Nat.le_refl _) _, TB.new _ _ _⟩
  obtain ⟨w1, hw1, hb1, ht1⟩ := key
  have hs1 : w.heap.size + 1 = w1.heap.size := by rw [hw1]; simp
  have hT1 := (hT.below hb1 (Nat.le_refl _)).more (show w.heap.size ≤ w1.heap.size by omega)
  have hc := dturn_any T h w1 0 hT1 (by omega)
  have HC : Hid (Calls Try.prog 23 #[.agg h.cells, .int .i64 0] w1 _) := Lib.hid hc
  have hat := T.turned_at 0
  have htl := T.turned_len 0
  obtain ⟨Z, hZ⟩ : ∃ Z, Z = T.turned ((0 : Nat) : Int) := ⟨_, rfl⟩
  have hZ2 : T.turned 0 = Z := hZ.symm
  rw [hZ2] at hat htl
  rw [← hZ] at HC
  obtain ⟨k, c, x, l, A, m, cap⟩ := h
  dsimp only [Hd.cells] at hw1 HC ⊢
  obtain ⟨i0, hi, hz0, hz1, hz2⟩ := Try.infoPairP
  obtain ⟨n, hn⟩ : ∃ n, n = T.sz := ⟨_, rfl⟩
  have hat2 : ∀ j, j < n → ∃ q : Nat, q < n ∧ z0 Z j = (q : Int) ∧ T.pos (q : Int) = (j : Int) := fun j hj => by
    obtain ⟨q, q0, q1, h1, h2⟩ := hat j (by omega)
    refine ⟨q.toNat, by omega, ?_, by rw [Int.toNat_of_nonneg q0]; exact h2⟩
    unfold z0
    simp only [List.getD, h1, Option.getD_some]
    omega
  rw [← hn] at HC hs ⊢
  have HA := Lib.hid hat2
  have HN := Lib.hid hn
  have HB1 := Lib.hid hb1
  have HS1 : Hid (w.heap.size ≤ w1.heap.size) := Lib.hid (by omega)
  clear hc hT1 hT ht1 hs1 hat htl hat2 hb1 hZ hZ2 hn
  go_enter Try.func16, Try.ntmps16
  go_wp2_with (first
    | (rw [← hw1]; refine HC.out.mono ?_; rintro e w2 ⟨v2, rfl, hown, hb2⟩; obtain ⟨A2, c2, rfl⟩ := own_form hown)
    | (at_make; refine wpList_make_full _ rfl _ _ 32 rfl w2.heap.size 34 i0 _ 2 Try.underlying32 hi hz0 hz1 .i64 .i64 _ _ n rfl rfl (by first | rfl | omega) (by first | rfl | omega) (by rw [hz2]; omega) (by unfold maxLen; omega) (Nat.le_refl _) ?_; intro w3 hown3 hgrow3)
    | fail)
  have hb23 : Below w2.heap.size w2 w3 := (Below.refl _ _).grown hgrow3 (Nat.le_refl _) fun j ej => by cases ej
  have hb3 : Below w.heap.size w w3 := HB1.out.trans ((hb2.trans (hb23.mono hb2.size)).mono HS1.out)
  obtain ⟨G, hG⟩ : ∃ G, G = w2.heap.size := ⟨_, rfl⟩
  have hr3 := own_step hown hb23 (Nat.le_refl _)
  have hgG : ∀ j, (Value.slice A2 n c2).ownBlock = some j → j < G := fun j ej => by rw [hG]; exact (hown.lt j ej).2
  have HGC : Hid (w.heap.size ≤ G) := Lib.hid (by have := hb2.size; have := HS1.out; omega)
  rw [← hG] at hown3 hb23 ⊢
  have HW3 := Lib.hid (Below.refl G w3)
  have HR3 := Lib.hid hr3
  have HO3 := Lib.hid hown3
  have HB3 := Lib.hid hb3
  have HGG := Lib.hid hgG
  clear hown hb2 hgrow3 hb23 hG hr3 hown3 hb3 hgG hw1
  go_loopw [14] (fun i wr => ∃ (k : Nat) (xs : List Value), k ≤ n ∧ i = .int .i64 k ∧ Hid (wr.ownsRow G 34 2 (.slice (some ⟨G, 0, none⟩) n n) n xs) ∧ Hid (FilledT T xs k) ∧ Hid (Below G w3 wr)) (fun i _ => n - (intOf i).toNat)
  case atStart => exact ⟨0, _, Nat.zero_le _, rfl, HO3, Lib.hid (fun j hj hp => by have := (T.pos_lt (j : Int) (by omega) (by omega)).1; omega), HW3⟩
  case round =>
    obtain ⟨k, xs, hk, rfl, hrow, hfill, hbr⟩ := hrel
    by_cases hlt : k < n
    · have hrr := own_below HR3.out hbr.out HGG.out
      obtain ⟨q, hq, hzq, hpq⟩ := HA.out k hlt
      obtain ⟨g, gcap, hAe, _, _⟩ := hrr.form (by omega)
      injection hAe with hA2 _ hc2
      subst hA2
      subst hc2
      have hz := own_cell1 hrr k (by omega)
      rw [hzq] at hz
      have hfz := own_frozen hrow.out
      have hsz := hrow.out.1
      have hx0 : wr.cell? ⟨G, q * 2, none⟩ = some (xs[q * 2]'(by omega)) := by rw [hrow.out.cellAt (q * 2) (by omega)]; exact List.getElem?_eq_getElem _
      have hx1 : wr.cell? ⟨G, q * 2 + 1, none⟩ = some (xs[q * 2 + 1]'(by omega)) := by rw [hrow.out.cellAt (q * 2 + 1) (by omega)]; exact List.getElem?_eq_getElem _
      generalize xs[q * 2]'(by omega) = y0 at hx0
      generalize xs[q * 2 + 1]'(by omega) = y1 at hx1
      have HX := Lib.hid (hfill.out.next (by rw [← HN.out]; exact hsz) (by rw [← HN.out]; exact hq) hpq)
      have HRW : Hid (((wr.setCell ⟨G, q * 2, none⟩ (.int .i64 (q : Int))).setCell ⟨G, q * 2 + 1, none⟩ (.int .i64 (k : Int))).ownsRow G 34 2 (.slice (some ⟨G, 0, none⟩) n n) n _) := Lib.hid (own_set (own_set hrow.out _) _)
      have HBW : Hid (Below G w3 ((wr.setCell ⟨G, q * 2, none⟩ (.int .i64 (q : Int))).setCell ⟨G, q * 2 + 1, none⟩ (.int .i64 (k : Int)))) := Lib.hid ((hbr.out.setCell (p := ⟨G, q * 2, none⟩) (Nat.le_refl _) _).setCell (p := ⟨G, q * 2 + 1, none⟩) (Nat.le_refl _) _)
      have n1 : (0 : Int) ≤ (k : Int) := by omega
      have n2 : (k : Int) < (n : Int) := by omega
      have n3 : (0 : Int) ≤ (q : Int) := by omega
      have n4 : (q : Int) < (n : Int) := by omega
      clear hrr hfill hsz hzq hpq
      go_wp2_with fail
      go_roundw
      case rel => exact ⟨k + 1, _, by omega, by go_num, HRW, HX, HBW⟩
      case measure => simp [intOf]; omega
    · obtain rfl : k = n := by omega
      have hf := hfill.out
      go_wp2_with fail
      go_ret
      refine ⟨_, _, xs, rfl, own_more hrow.out HGC.out, ?_, HB3.out.trans (hbr.out.mono HGC.out)⟩
      have h2 := HN.out
      subst h2
      exact hf.all

/-- a slice of pairs -/
structure RdPr (w : World) (B : Nat) (A : Option Addr) (n : Nat) (f : Nat → Int) : Prop where
  rd : 0 < n → ∃ b off, A = some ⟨b, off, none⟩ ∧ b < B ∧ ∀ k, k < n → w.cell? ⟨b, off + k * 2, none⟩ = some (.int .i64 (k : Int)) ∧ w.cell? ⟨b, off + k * 2 + 1, none⟩ = some (.int .i64 (f k))
theorem own_rdPr {w : World} {base n c : Nat} {e : TypeId} {A : Option Addr} {xs : List Value} {f : Nat → Int} (h : w.ownsRow base e 2 (.slice A n c) n xs) (hf : Filled xs n f) : RdPr w w.heap.size A n f := by
  refine ⟨fun hn => ?_⟩
  rcases h.2 with ⟨_, h0⟩ | ⟨g, cap, cur, hv, hb, hg, _⟩
  · omega
  · injection hv with hA _ hc
    subst hA
    subst hc
    refine ⟨g, 0, rfl, (Array.getElem?_eq_some_iff.1 hg).1, fun k hk => ?_⟩
    rw [Nat.zero_add, h.cellAt (k * 2) (by omega), h.cellAt (k * 2 + 1) (by omega)]
    exact hf k hk

set_option maxHeartbeats 1000000 in
theorem equalPr_same (A A' : Option Addr) (c c' n : Nat) (f : Nat → Int) (w : World) (hn : n ≤ 1048576) (hx : RdPr w w.heap.size A n f) (hy : RdPr w w.heap.size A' n f) :
    Calls Try.prog 14 #[.slice A n c, .slice A' n c'] w fun e w' => e = .returned (.bool true) ∧ Below w.heap.size w w' := by
  have hl : ((n : Int) != (n : Int)) = false := by simp
  go_enter Try.func14, Try.ntmps14
  go_wp2
  go_loopw [13] (fun i wr => ∃ k q : Nat, k ≤ n ∧ i = .int .i64 k ∧ wr = w.drewN q) (fun i _ => n - (intOf i).toNat)
  case atStart => exact ⟨0, 0, Nat.zero_le _, rfl, rfl⟩
  case round =>
    obtain ⟨k, q, hk, rfl, rfl⟩ := hrel
    by_cases hlt : k < n
    · obtain ⟨b, off, rfl, _, hc⟩ := hx.rd (by omega)
      obtain ⟨b', off', rfl, _, hc'⟩ := hy.rd (by omega)
      obtain ⟨ha1, ha2⟩ := hc k hlt
      obtain ⟨hb1, hb2⟩ := hc' k hlt
      clear hc hc'
      go_wp2
      go_quiet (fail)
      go_wp2
      go_roundw
      case rel => exact ⟨k + 1, _, by omega, by go_num, rfl⟩
      case measure => simp [intOf]; omega
    · go_wp2
      go_ret
      exact ⟨rfl, below_draws (Below.refl _ _) q⟩
end Go.Proofs.Ytafdpimkfkddaaa
