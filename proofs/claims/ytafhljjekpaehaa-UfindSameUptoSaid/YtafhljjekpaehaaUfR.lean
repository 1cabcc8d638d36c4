/-
  Contract of the reference's HPlay, for every slice of at most 2^20 + 1 operations.
-/
import Derived.Test.YtafhljjekpaehaaUfM
import Derived.Test.YtafhljjekpaehaaTrMem
import Derived.Test.YtafhljjekpaehaaBsB
import Derived.Deep.OwnRows
import Derived.Maps.AppendAt
import Derived.RangeFuncRecord
import Derived.Deep.CutRange
namespace Go.Proofs.Ytafhljjekpaehaa
open Go.RowKit
set_option maxRecDepth 100000

/-- the error and the answers of Play -/
def plE (n : Int) : Int := if 0 ≤ n ∧ n ≤ 200 then 0 else 2
def plL (n : Int) (ops : List SOp) : List Int := if 0 ≤ n ∧ n ≤ 200 then urun n.toNat id ops else []
/-- what a call of Play answers -/
def PlayR (n : Int) (ops : List SOp) (w : World) (e : Ending) (w' : World) : Prop := ∃ A1 c1, e = .returned (.tuple #[.slice A1 (plL n ops).length c1, .int .i64 (plE n)]) ∧ (plL n ops).length ≤ c1 ∧ RdI w' w'.heap.size A1 (plL n ops) ∧ Below w.heap.size w w'

theorem rowIs_grown' {w w' : World} {g t m : Nat} {f : Nat → Value} {row : Option Nat} (h : w.rowIs g t m f) (hg : w.grownBy w' row) (hne : some g ≠ row) : w'.rowIs g t m f := h.of_block (hg.block g h.lt hne)
theorem rowIs_below' {w w' : World} {B g t m : Nat} {f : Nat → Value} (h : w.rowIs g t m f) (hb : Below B w w') (hg : g < B) : w'.rowIs g t m f := h.of_block (hb.block g hg)
theorem below_app2 {W wr w1 : World} {base b2 n : Nat} {e : TypeId} {v : Value} {xs : List Value} (hB : Below base W wr) (hb : base ≤ b2) (h : wr.ownsRow b2 e 1 v n xs) (hs : b2 ≤ wr.heap.size) {o : Obj} (hg : (wr.alloc o).grownBy w1 v.ownBlock) : Below base W w1 :=
  (hB.alloc (Nat.le_trans hb hs) o).grown hg (by simp; omega) (fun k hk => Nat.le_trans hb (own_base h k hk))
theorem own_capI {w : World} {base e size n c : Nat} {A : Option Addr} {xs : List Value} (h : w.ownsRow base e size (.slice A n c) n xs) : n ≤ c := by
  rcases h.2 with ⟨h1, rfl⟩ | ⟨g, cap, cur, h1, _, _, h2, _⟩
  · exact Nat.zero_le _
  · injection h1 with _ _ h1
    omega
theorem own_stpU {w w' : World} {base e size n : Nat} {v : Value} {xs : List Value} (h : w.ownsRow base e size v n xs) (hb : Below w.heap.size w w') : w'.ownsRow base e size v n xs := by
  rcases h.2 with h0 | ⟨g, cap, cur, hv, hg, hh, hr⟩
  · exact ⟨h.1, .inl h0⟩
  · exact ⟨h.1, .inr ⟨g, cap, cur, hv, hg, (hb.block g (Array.getElem?_eq_some_iff.1 hh).1).trans hh, hr⟩⟩
theorem ust_take (n : Nat) (ops : List SOp) (k : Nat) (hk : k < ops.length) : ust n id (ops.take (k + 1)) = ustep n (ust n id (ops.take k)) (tr3 ops k) := by
  rw [List.take_succ_eq_append_getElem hk, ust_snoc]
  unfold tr3
  simp [List.getD, hk]
theorem urun_take (n : Nat) (ops : List SOp) (k : Nat) (hk : k < ops.length) : urun n id (ops.take (k + 1)) = urun n id (ops.take k) ++ [uans n (ust n id (ops.take k)) (tr3 ops k)] := by
  rw [List.take_succ_eq_append_getElem hk, urun_snoc]
  unfold tr3
  simp [List.getD, hk]
theorem usz_le (n : Nat) (s : Nat → Nat) (x : Nat) : usz n s x ≤ n := by
  unfold usz
  have := List.countP_le_length (p := fun y => s y == s x) (l := List.range n)
  simpa using this
theorem uans_bd (n : Nat) (s : Nat → Nat) (o : SOp) : -1 ≤ uans n s o ∧ uans n s o ≤ (n : Int) + 1 := by
  have := usz_le n s o.2.1.toNat
  unfold uans
  repeat' split
  all_goals omega
theorem urun_bd (n : Nat) : ∀ (ops : List SOp) (s : Nat → Nat) (x : Int), x ∈ urun n s ops → -1 ≤ x ∧ x ≤ (n : Int) + 1
  | [], _, _, h => by simp [urun] at h
  | o :: os, s, x, h => by
    rcases List.mem_cons.1 h with e | e
    · rw [e]; exact uans_bd n s o
    · exact urun_bd n os _ x e
theorem zd_bd {l : List Int} {lo hi : Int} (h0 : lo ≤ 0 ∧ 0 ≤ hi) (h : ∀ x, x ∈ l → lo ≤ x ∧ x ≤ hi) (k : Nat) : lo ≤ zd l k ∧ zd l k ≤ hi := by
  unfold zd
  rcases Nat.lt_or_ge k l.length with hk | hk
  · simp only [List.getD, List.getElem?_eq_getElem hk, Option.getD_some]
    exact h _ (List.getElem_mem hk)
  · simp only [List.getD, List.getElem?_eq_none hk, Option.getD_none]
    exact h0
theorem plL_bd (n : Int) (ops : List SOp) (k : Nat) : -1 ≤ zd (plL n ops) k ∧ zd (plL n ops) k ≤ 201 := by
  unfold plL
  split
  · rename_i h
    have := zd_bd (l := urun n.toNat id ops) (lo := -1) (hi := 201) (by omega) (fun x hx => by have := urun_bd n.toNat ops id x hx; omega) k
    exact this
  · simp [zd]
theorem plL_len (n : Int) (ops : List SOp) : (plL n ops).length = if 0 ≤ n ∧ n ≤ 200 then ops.length else 0 := by
  unfold plL
  split
  · exact urun_len _ _ _
  · rfl
/-! ### what each kind does -/
theorem inS_nat {n i : Nat} : inS n (i : Int) = decide (i < n) := by unfold inS; simp
theorem u_no {n : Nat} {s : Nat → Nat} {K I J : Int} (h : (K ≠ 1 ∧ K ≠ 2 ∧ (K ≠ 3 ∨ inS n I = false)) ∨ (K ≠ 3 ∧ (inS n I = false ∨ inS n J = false)) ∨ (inS n I = false)) : uans n s (K, I, J) = -1 ∧ ustep n s (K, I, J) = s := by
  unfold uans ustep isJ inS2
  dsimp only
  have h1 : (decide (K = 1) && (inS n I && inS n J)) = false := by
    rcases h with ⟨h, _⟩ | ⟨_, h | h⟩ | h <;> simp [h]
  have h2 : (decide (K = 2) && (inS n I && inS n J)) = false := by
    rcases h with ⟨_, h, _⟩ | ⟨_, h | h⟩ | h <;> simp [h]
  have h3 : (decide (K = 3) && inS n I) = false := by
    rcases h with ⟨_, _, h | h⟩ | ⟨h, _⟩ | h <;> simp [h]
  simp [h1, h2, h3]
theorem u_join {n : Nat} {s : Nat → Nat} {i j : Nat} (hi : i < n) (hj : j < n) : uans n s (1, (i : Int), (j : Int)) = (if s i = s j then 0 else 1) ∧ ustep n s (1, (i : Int), (j : Int)) = rel s i j := by
  unfold uans ustep isJ inS2
  simp [inS_nat, hi, hj]
theorem rel_same {s : Nat → Nat} {i j : Nat} (h : s i = s j) : rel s i j = s := by
  funext x
  unfold rel
  split
  · rename_i h2; rw [h, h2]
  · rfl
theorem u_same {n : Nat} {s : Nat → Nat} {i j : Nat} (hi : i < n) (hj : j < n) : uans n s (2, (i : Int), (j : Int)) = (if s i = s j then 1 else 0) ∧ ustep n s (2, (i : Int), (j : Int)) = s := by
  unfold uans ustep isJ inS2
  simp [inS_nat, hi, hj]
theorem u_size {n : Nat} {s : Nat → Nat} {i : Nat} (hi : i < n) (J : Int) : uans n s (3, (i : Int), J) = (usz n s i : Nat) ∧ ustep n s (3, (i : Int), J) = s := by
  unfold uans ustep isJ inS2
  simp [inS_nat, hi]
theorem in2 {n : Nat} {o : SOp} (h1 : inS n o.2.1 = true) (h2 : inS n o.2.2 = true) : inS2 n o = true := by unfold inS2; rw [h1, h2]; rfl

set_option maxHeartbeats 8000000 in
theorem hplay_ok (N : Nat) (hN : N ≤ 200) (A : Option Addr) (c : Nat) (ops : List SOp) (w : World) (ho : Rd3 w w.heap.size A ops) (hl : ops.length ≤ 1048577) :
    Calls Try.prog 8 #[.int .i64 (N : Int), .slice A ops.length c] w (PlayR (N : Int) ops w) := by
  obtain ⟨i0, hi, hz0, hz1, hz2⟩ := info_parts Try.infoInt
  have hmk := run_make_row' (P := Try.prog) 23 3 (.int .i64 0) 8 Try.underlying23 Try.infoInt rfl .i64 .i64 N (by omega) (by omega)
  have R := World.rowIs_made w (.int .i64 0) N 3
  have hBn := (Below.refl w.heap.size w).alloc (Nat.le_refl _) (.cells (madeCells #[.int .i64 0] N) 3)
  obtain ⟨g, hg⟩ : ∃ g, g = w.heap.size := ⟨_, rfl⟩
  have hg0 : Hid (w.heap.size ≤ g + 1) := by rw [hg]; exact Nat.le_succ _
  have hgl : g + 1 ≤ (w.alloc (.cells (madeCells #[.int .i64 0] N) 3)).heap.size := by rw [hg]; simp
  have R0 : (w.alloc (.cells (madeCells #[.int .i64 0] N) 3)).rowIs g 3 N (fun x => .int .i64 ((if x < 0 then x else 0 : Nat) : Int)) := by rw [hg]; simpa using R
  obtain ⟨w1, hw1⟩ : ∃ w1, w1 = w.alloc (.cells (madeCells #[.int .i64 0] N) 3) := ⟨_, rfl⟩
  rw [← hw1] at hBn hgl R0
  have HW1 := Lib.hid hw1
  have hgw : Hid (g = w.heap.size) := hg
  clear R hw1 hg
  go_enter Try.func8, Try.ntmps8
  go_upto_region 4 with fail
  rw [← HW1.out, ← hgw.out]
  go_wp2_with fail
  obtain ⟨wo, rfl⟩ : ∃ wo : World, wo = w1 := ⟨_, rfl⟩
  go_loopw [29] (fun i wr => ∃ q : Nat, q ≤ N ∧ i = .int .i64 q ∧ wr.rowIs g 3 N (fun x => .int .i64 ((if x < q then x else 0 : Nat) : Int)) ∧ Below w.heap.size w wr ∧ g + 1 ≤ wr.heap.size) (fun i _ => N - (intOf i).toNat)
  case atStart => exact ⟨0, Nat.zero_le _, rfl, R0, hBn, hgl⟩
  case round =>
    obtain ⟨q, hq, rfl, hr, hbr, hgr⟩ := hrel
    clear R0 hBn hgl
    by_cases hlt : q < N
    · have hcell := hr.cell (i := q) hlt
      have hfz := hr.frozen q
      have R3 : (wr.setCell ⟨g, q, none⟩ (.int .i64 (q : Int))).rowIs g 3 N (fun x => .int .i64 ((if x < q + 1 then x else 0 : Nat) : Int)) := (hr.set q (.int .i64 (q : Int))).congr fun j _ => by
        by_cases e : j = q
        · subst e; rw [if_pos rfl, if_pos (by omega)]
        · rw [if_neg e]
          by_cases e2 : j < q
          · rw [if_pos e2, if_pos (by omega)]
          · rw [if_neg e2, if_neg (by omega)]
      have X := Lib.hid (And.intro R3 (And.intro (hbr.setCell (p := ⟨g, q, none⟩) (by rw [hgw.out]; exact Nat.le_refl _) (.int .i64 (q : Int))) (show g + 1 ≤ (wr.setCell ⟨g, q, none⟩ (.int .i64 (q : Int))).heap.size by simpa [World.setCell] using hgr)))
      clear R3 hr hbr
      go_wp2_with fail
      go_roundw
      case rel => exact ⟨q + 1, by omega, by go_num, X.out.1, X.out.2.1, X.out.2.2⟩
      case measure => simp [intOf]; omega
    · obtain rfl : q = N := by omega
      have R1 : wr.rowIs g 3 q (fun x => .int .i64 ((ust q id (ops.take 0) x : Nat) : Int)) := hr.congr fun j hj => by rw [if_pos hj]; rfl
      clear hr hlt hq
      go_wp2_with fail
      obtain ⟨wo, rfl⟩ : ∃ wo : World, wo = wr := ⟨_, rfl⟩
      go_loopw [8, 39] (fun v i wr => ∃ k : Nat, k ≤ ops.length ∧ i = .int .i64 k ∧ wr.rowIs g 3 q (fun x => .int .i64 ((ust q id (ops.take k) x : Nat) : Int)) ∧ wr.ownsRow (g + 1) 3 1 v (urun q id (ops.take k)).length (iVals (urun q id (ops.take k))) ∧ Below w.heap.size w wr ∧ g + 1 ≤ wr.heap.size) (fun _ i _ => ops.length - (intOf i).toNat)
      case atStart => exact ⟨0, Nat.zero_le _, rfl, R1, World.ownsRow_nil _ _ _ _, hbr, hgr⟩
      case round =>
        obtain ⟨k, hk, rfl, hr, hown, hB, hgr2⟩ := hrel
        clear R1 hbr hgr
        obtain ⟨N, hqN⟩ : ∃ N, N = q := ⟨_, rfl⟩
        subst hqN
        by_cases hlt : k < ops.length
        · obtain ⟨b, off, rfl, hb, hc⟩ := ho.rd (by omega)
          obtain ⟨q0, q1, q2⟩ := hc k hlt
          obtain ⟨in1, in2, in3⟩ := ho.int k
          have HS := Lib.hid (ust_take N ops k hlt)
          have HL := Lib.hid (urun_take N ops k hlt)
          obtain ⟨L, hL⟩ : ∃ L, L = urun N id (ops.take k) := ⟨_, rfl⟩
          obtain ⟨s, hs⟩ : ∃ s, s = ust N id (ops.take k) := ⟨_, rfl⟩
          have hLb : L.length ≤ 1048577 := by rw [hL, urun_len, List.length_take]; omega
          have hsl : ∀ x, x < N → s x < N := by rw [hs]; exact ust_lt _ (fun x h => h)
          rw [← hs] at hr HS HL
          rw [← hL] at hown HL
          obtain ⟨A8, c8, rfl⟩ := own_any hown
          replace q0 := (hB.cell (p := ⟨b, off + k * 3, none⟩) hb).trans q0
          replace q1 := (hB.cell (p := ⟨b, off + k * 3 + 1, none⟩) hb).trans q1
          replace q2 := (hB.cell (p := ⟨b, off + k * 3 + 2, none⟩) hb).trans q2
          obtain ⟨T, hT⟩ : ∃ T, T = tr3 ops k := ⟨_, rfl⟩
          rw [← hT] at HS HL q0 q1 q2 in1 in2 in3
          clear hc hs hL hT
          obtain ⟨K, I, J⟩ := T
          dsimp only at q0 q1 q2 in1 in2 in3
          have e1 := World.alloc_heap_new wr (.cells #[.int .i64 K, .int .i64 I, .int .i64 J] 32)
          obtain ⟨w2, hw2⟩ : ∃ w2, w2 = wr.alloc (.cells #[.int .i64 K, .int .i64 I, .int .i64 J] 32) := ⟨_, rfl⟩
          have hr2 : w2.rowIs g 3 N (fun x => .int .i64 ((s x : Nat) : Int)) := by rw [hw2]; exact hr.alloc _
          have hown2 : w2.ownsRow (g + 1) 3 1 (.slice A8 L.length c8) L.length (iVals L) := by rw [hw2]; exact hown.alloc _
          have hB2 : Below w.heap.size w w2 := by rw [hw2]; exact hB.alloc hB.size _
          have hg2 : g + 1 ≤ w2.heap.size := by rw [hw2]; simp; omega
          have hBg : g < wr.heap.size := by omega
          obtain ⟨B, hBe⟩ : ∃ B, B = wr.heap.size := ⟨_, rfl⟩
          rw [← hw2, ← hBe] at e1
          have b0 : w2.cell? ⟨B, 0, none⟩ = some (.int .i64 K) := by simp only [World.cell?, e1]; rfl
          have b1 : w2.cell? ⟨B, 1, none⟩ = some (.int .i64 I) := by simp only [World.cell?, e1]; rfl
          have b2 : w2.cell? ⟨B, 2, none⟩ = some (.int .i64 J) := by simp only [World.cell?, e1]; rfl
          have hB2s : B < w2.heap.size := by rw [hw2, hBe]; simp
          have HW2 := Lib.hid hw2
          have HBe := Lib.hid hBe
          have hgB : g < B := by omega
          clear e1 hr hown hB hgr2 hBg hw2
          go_upto_region 13 with fail
          rw [← HW2.out, ← HBe.out]
          clear q0 q1 q2 hBe
          by_cases hI : 0 ≤ I ∧ I < (N : Int)
          · obtain ⟨i, rfl⟩ : ∃ i : Nat, I = (i : Int) := ⟨I.toNat, by omega⟩
            have hi2 : i < N := by omega
            by_cases hJ : 0 ≤ J ∧ J < (N : Int)
            · obtain ⟨j, rfl⟩ : ∃ j : Nat, J = (j : Int) := ⟨J.toNat, by omega⟩
              have hj2 : j < N := by omega
              by_cases k1 : K = 1
              · subst k1
                have HU := Lib.hid (u_join (n := N) (s := s) hi2 hj2)
                have HR := Lib.hid (fun h => rel_same (s := s) (i := i) (j := j) h)
                obtain ⟨T, hT⟩ : ∃ T : SOp, T = (1, (i : Int), (j : Int)) := ⟨_, rfl⟩
                rw [← hT] at HS HL HU
                clear hT
                have ci := hr2.cell hi2
                have cj := hr2.cell hj2
                by_cases he : s i = s j
                · rw [← he] at cj
                  have HE := Lib.hid he
                  clear he
                  go_wp2_with fail
                  go_quiet (fail)
                  have hown5 : (w2.drewN nq).ownsRow (g + 1) 3 1 (.slice A8 L.length c8) L.length (iVals L) := hown2
                  have hB5 : Below w.heap.size w (w2.drewN nq) := below_drewN hB2 nq
                  have hg5 : g + 1 ≤ (w2.drewN nq).heap.size := hg2
                  have hrow5 : (w2.drewN nq).rowIs g 3 N (fun x => .int .i64 ((ustep N s T x : Nat) : Int)) := by rw [HU.out.2, HR.out HE.out]; exact hr2
                  have hne5 : (Value.slice A8 L.length c8).ownBlock ≠ some g := fun e => by have := own_base hown5 g e; omega
                  have X5 := Lib.hid (And.intro hrow5 hB5)
                  clear hown2 hB2 ci cj
                  go_wp2_with (at_builtin; refine wpList_append_own _ rfl _ _ 23 rfl (g + 1) 3 i0 (.int .i64 0) 1 8 Try.underlying23 hi hz0 hz1 hz2 rfl (by decide) _ _ _ rfl (hown5.alloc _) ⟨(w2.drewN nq).heap.size, 0, none⟩ 1 1 [.int .i64 0] rfl rfl (cell_one_new _ _ _) (by simp [Value.oneCell']) (by unfold maxLen; omega) (by omega) (by simp; omega) ?_; intro v' w6 hown6 hgrow6 _)
                  have hB6 := below_app2 X5.out.2 hg0.out hown5 hg5 hgrow6
                  have hrow6 := rowIs_grown' (X5.out.1.alloc _) hgrow6 (fun e => hne5 e.symm)
                  have hg6 : g + 1 ≤ w6.heap.size := by have := hgrow6.size; simp at this; omega
                  rw [iVals_snoc] at hown6
                  clear hown5 hgrow6 hB5
                  go_roundw
                  case rel => exact ⟨k + 1, by omega, by go_num, by rw [HS.out]; exact hrow6, by rw [HL.out, HU.out.1, if_pos HE.out, List.length_append, List.length_singleton]; exact hown6, hB6, hg6⟩
                  case measure => simp [intOf]; omega
                · obtain ⟨p, hp⟩ : ∃ p, p = s i := ⟨_, rfl⟩
                  obtain ⟨r, hr0⟩ : ∃ r, r = s j := ⟨_, rfl⟩
                  have HE := Lib.hid he
                  rw [← hp, ← hr0] at he
                  rw [← hp] at ci
                  rw [← hr0] at cj
                  have n1 : ((p : Int) != (r : Int)) = true := by simp; omega
                  have n2 : ¬ ((p : Int) = (r : Int)) := by omega
                  have HREL : Hid (∀ x, rel s i j x = if s x = r then p else s x) := fun x => by unfold rel; rw [hp, hr0]
                  clear he hp hr0
                  go_wp2_with fail
                  go_quiet (fail)
                  go_wp2_with fail
                  have hr3 : (w2.drewN nq).rowIs g 3 N (fun x => .int .i64 ((if x < 0 then rel s i j x else s x : Nat) : Int)) := (show (w2.drewN nq).rowIs g 3 N (fun x => .int .i64 ((s x : Nat) : Int)) from hr2).congr fun j _ => by rw [if_neg (by omega)]
                  have hown3 : (w2.drewN nq).ownsRow (g + 1) 3 1 (.slice A8 L.length c8) L.length (iVals L) := hown2
                  have hB3 : Below w.heap.size w (w2.drewN nq) := below_drewN hB2 nq
                  have hg3 : g + 1 ≤ (w2.drewN nq).heap.size := hg2
                  clear hr2 hown2 hB2 ci cj
                  go_loopw [86] (fun i86 wr => ∃ x : Nat, x ≤ N ∧ i86 = .int .i64 x ∧ wr.rowIs g 3 N (fun y => .int .i64 ((if y < x then rel s i j y else s y : Nat) : Int)) ∧ wr.ownsRow (g + 1) 3 1 (.slice A8 L.length c8) L.length (iVals L) ∧ Below w.heap.size w wr ∧ g + 1 ≤ wr.heap.size) (fun i86 _ => N - (intOf i86).toNat)
                  case atStart => exact ⟨0, Nat.zero_le _, rfl, hr3, hown3, hB3, hg3⟩
                  case round =>
                    obtain ⟨x, hx, rfl, hr4, hown4, hB4, hg4⟩ := hrel
                    clear hr3 hown3 hB3 hg3
                    by_cases hxl : x < N
                    · have cx := hr4.cell hxl
                      rw [if_neg (by omega)] at cx
                      have hfz := hr4.frozen x
                      obtain ⟨y, hy⟩ : ∃ y, y = s x := ⟨_, rfl⟩
                      rw [← hy] at cx
                      by_cases e : y = r
                      · subst e
                        have R3 : (wr.setCell ⟨g, x, none⟩ (.int .i64 (p : Int))).rowIs g 3 N (fun z => .int .i64 ((if z < x + 1 then rel s i j z else s z : Nat) : Int)) := (hr4.set x (.int .i64 (p : Int))).congr fun z _ => by
                          by_cases e : z = x
                          · subst e; rw [if_pos rfl, if_pos (by omega), HREL.out, if_pos hy.symm]
                          · rw [if_neg e]
                            by_cases e2 : z < x
                            · rw [if_pos e2, if_pos (by omega)]
                            · rw [if_neg e2, if_neg (by omega)]
                        have hne4 : (Value.slice A8 L.length c8).ownBlock ≠ some g := fun e => by have := own_base hown4 g e; omega
                        have X := Lib.hid (And.intro R3 (And.intro (ownsRow_setCell_other hown4 (a := ⟨g, x, none⟩) hne4 (.int .i64 (p : Int))) (And.intro (hB4.setCell (p := ⟨g, x, none⟩) (by show w.heap.size ≤ g; rw [hgw.out]; exact Nat.le_refl _) (.int .i64 (p : Int))) (show g + 1 ≤ (wr.setCell ⟨g, x, none⟩ (.int .i64 (p : Int))).heap.size by simpa [World.setCell] using hg4))))
                        clear R3 hr4 hown4 hB4 hne4
                        go_wp2_with fail
                        go_roundw
                        case rel => exact ⟨x + 1, by omega, by go_num, X.out.1, X.out.2.1, X.out.2.2.1, X.out.2.2.2⟩
                        case measure => simp [intOf]; omega
                      · have e1 : ((y : Int) == (r : Int)) = false := by rw [beq_eq_false_iff_ne]; omega
                        have e2 : ¬ ((y : Int) = (r : Int)) := by omega
                        have R3 : wr.rowIs g 3 N (fun z => .int .i64 ((if z < x + 1 then rel s i j z else s z : Nat) : Int)) := hr4.congr fun z _ => by
                          by_cases e5 : z = x
                          · subst e5; rw [if_neg (by omega), if_pos (by omega), HREL.out, if_neg (by rw [← hy]; exact e)]
                          · by_cases e2 : z < x
                            · rw [if_pos e2, if_pos (by omega)]
                            · rw [if_neg e2, if_neg (by omega)]
                        have X := Lib.hid (And.intro R3 (And.intro hown4 hB4))
                        clear R3 hr4 hown4 hB4 e hy
                        go_wp2_with fail
                        go_roundw
                        case rel => exact ⟨x + 1, by omega, by go_num, X.out.1, X.out.2.1, X.out.2.2, hg4⟩
                        case measure => simp [intOf]; omega
                    · obtain rfl : N = x := by omega
                      clear hxl hx
                      have hown5 : wr.ownsRow (g + 1) 3 1 (.slice A8 L.length c8) L.length (iVals L) := hown4
                      have hB5 : Below w.heap.size w wr := hB4
                      have hg5 : g + 1 ≤ wr.heap.size := hg4
                      have hrow5 : wr.rowIs g 3 N (fun x => .int .i64 ((ustep N s T x : Nat) : Int)) := hr4.congr fun z hz => by rw [if_pos hz, HU.out.2]
                      have hne5 : (Value.slice A8 L.length c8).ownBlock ≠ some g := fun e => by have := own_base hown5 g e; omega
                      have X5 := Lib.hid (And.intro hrow5 hB5)
                      clear hown4 hB4
                      go_wp2_with (at_builtin; refine wpList_append_own _ rfl _ _ 23 rfl (g + 1) 3 i0 (.int .i64 0) 1 8 Try.underlying23 hi hz0 hz1 hz2 rfl (by decide) _ _ _ rfl (hown5.alloc _) ⟨wr.heap.size, 0, none⟩ 1 1 [.int .i64 1] rfl rfl (cell_one_new _ _ _) (by simp [Value.oneCell']) (by unfold maxLen; omega) (by omega) (by simp; omega) ?_; intro v' w6 hown6 hgrow6 _)
                      have hB6 := below_app2 X5.out.2 hg0.out hown5 hg5 hgrow6
                      have hrow6 := rowIs_grown' (X5.out.1.alloc _) hgrow6 (fun e => hne5 e.symm)
                      have hg6 : g + 1 ≤ w6.heap.size := by have := hgrow6.size; simp at this; omega
                      rw [iVals_snoc] at hown6
                      clear hown5 hgrow6 hB5
                      go_roundw
                      case rel => exact ⟨k + 1, by omega, by go_num, by rw [HS.out]; exact hrow6, by rw [HL.out, HU.out.1, if_neg HE.out, List.length_append, List.length_singleton]; exact hown6, hB6, hg6⟩
                      case measure => simp [intOf]; omega
              · by_cases k2 : K = 2
                · subst k2
                  have HU := Lib.hid (u_same (n := N) (s := s) hi2 hj2)
                  obtain ⟨T, hT⟩ : ∃ T : SOp, T = (2, (i : Int), (j : Int)) := ⟨_, rfl⟩
                  rw [← hT] at HS HL HU
                  clear hT
                  have ci := hr2.cell hi2
                  have cj := hr2.cell hj2
                  by_cases he : s i = s j
                  · rw [← he] at cj
                    have HE := Lib.hid he
                    clear he
                    go_wp2_with fail
                    go_quiet (fail)
                    have hown5 : (w2.drewN nq).ownsRow (g + 1) 3 1 (.slice A8 L.length c8) L.length (iVals L) := hown2
                    have hB5 : Below w.heap.size w (w2.drewN nq) := below_drewN hB2 nq
                    have hg5 : g + 1 ≤ (w2.drewN nq).heap.size := hg2
                    have hrow5 : (w2.drewN nq).rowIs g 3 N (fun x => .int .i64 ((ustep N s T x : Nat) : Int)) := by rw [HU.out.2]; exact hr2
                    have hne5 : (Value.slice A8 L.length c8).ownBlock ≠ some g := fun e => by have := own_base hown5 g e; omega
                    have X5 := Lib.hid (And.intro hrow5 hB5)
                    clear hown2 hB2 ci cj
                    go_wp2_with (at_builtin; refine wpList_append_own _ rfl _ _ 23 rfl (g + 1) 3 i0 (.int .i64 0) 1 8 Try.underlying23 hi hz0 hz1 hz2 rfl (by decide) _ _ _ rfl (hown5.alloc _) ⟨(w2.drewN nq).heap.size, 0, none⟩ 1 1 [.int .i64 1] rfl rfl (cell_one_new _ _ _) (by simp [Value.oneCell']) (by unfold maxLen; omega) (by omega) (by simp; omega) ?_; intro v' w6 hown6 hgrow6 _)
                    have hB6 := below_app2 X5.out.2 hg0.out hown5 hg5 hgrow6
                    have hrow6 := rowIs_grown' (X5.out.1.alloc _) hgrow6 (fun e => hne5 e.symm)
                    have hg6 : g + 1 ≤ w6.heap.size := by have := hgrow6.size; simp at this; omega
                    rw [iVals_snoc] at hown6
                    clear hown5 hgrow6 hB5
                    go_roundw
                    case rel => exact ⟨k + 1, by omega, by go_num, by rw [HS.out]; exact hrow6, by rw [HL.out, HU.out.1, if_pos HE.out, List.length_append, List.length_singleton]; exact hown6, hB6, hg6⟩
                    case measure => simp [intOf]; omega
                  · obtain ⟨p, hp⟩ : ∃ p, p = s i := ⟨_, rfl⟩
                    obtain ⟨r, hr0⟩ : ∃ r, r = s j := ⟨_, rfl⟩
                    have HE := Lib.hid he
                    rw [← hp, ← hr0] at he
                    rw [← hp] at ci
                    rw [← hr0] at cj
                    have n1 : ((p : Int) == (r : Int)) = false := by rw [beq_eq_false_iff_ne]; omega
                    have n2 : ¬ ((p : Int) = (r : Int)) := by omega
                    clear he hp hr0
                    go_wp2_with fail
                    go_quiet (fail)
                    have hown5 : (w2.drewN nq).ownsRow (g + 1) 3 1 (.slice A8 L.length c8) L.length (iVals L) := hown2
                    have hB5 : Below w.heap.size w (w2.drewN nq) := below_drewN hB2 nq
                    have hg5 : g + 1 ≤ (w2.drewN nq).heap.size := hg2
                    have hrow5 : (w2.drewN nq).rowIs g 3 N (fun x => .int .i64 ((ustep N s T x : Nat) : Int)) := by rw [HU.out.2]; exact hr2
                    have hne5 : (Value.slice A8 L.length c8).ownBlock ≠ some g := fun e => by have := own_base hown5 g e; omega
                    have X5 := Lib.hid (And.intro hrow5 hB5)
                    clear hown2 hB2 ci cj
                    go_wp2_with (at_builtin; refine wpList_append_own _ rfl _ _ 23 rfl (g + 1) 3 i0 (.int .i64 0) 1 8 Try.underlying23 hi hz0 hz1 hz2 rfl (by decide) _ _ _ rfl (hown5.alloc _) ⟨(w2.drewN nq).heap.size, 0, none⟩ 1 1 [.int .i64 0] rfl rfl (cell_one_new _ _ _) (by simp [Value.oneCell']) (by unfold maxLen; omega) (by omega) (by simp; omega) ?_; intro v' w6 hown6 hgrow6 _)
                    have hB6 := below_app2 X5.out.2 hg0.out hown5 hg5 hgrow6
                    have hrow6 := rowIs_grown' (X5.out.1.alloc _) hgrow6 (fun e => hne5 e.symm)
                    have hg6 : g + 1 ≤ w6.heap.size := by have := hgrow6.size; simp at this; omega
                    rw [iVals_snoc] at hown6
                    clear hown5 hgrow6 hB5
                    go_roundw
                    case rel => exact ⟨k + 1, by omega, by go_num, by rw [HS.out]; exact hrow6, by rw [HL.out, HU.out.1, if_neg HE.out, List.length_append, List.length_singleton]; exact hown6, hB6, hg6⟩
                    case measure => simp [intOf]; omega
                · by_cases k3 : K = 3
                  · subst k3
                    have HU := Lib.hid (u_size (n := N) (s := s) hi2 (j : Int))
                    obtain ⟨T, hT⟩ : ∃ T : SOp, T = (3, (i : Int), (j : Int)) := ⟨_, rfl⟩
                    rw [← hT] at HS HL HU
                    clear hT
                    have ci := hr2.cell hi2
                    obtain ⟨p, hp⟩ : ∃ p, p = s i := ⟨_, rfl⟩
                    rw [← hp] at ci
                    have HU2 : Hid (uans N s T = ((List.range N).countP (fun y => s y == p) : Nat)) := by rw [HU.out.1]; unfold usz; rw [hp]; exact rfl
                    clear hp
                    go_wp2_with fail
                    go_loop [11, 127] (fun a i => ∃ x : Nat, x ≤ N ∧ i = .int .i64 x ∧ a = .int .i64 (((List.range x).countP (fun y => s y == p) : Nat) : Int)) (fun _ i => N - (intOf i).toNat)
                    case atStart => exact ⟨0, Nat.zero_le _, rfl, rfl⟩
                    case round =>
                      obtain ⟨x, hx, rfl, rfl⟩ := hrel
                      by_cases hxl : x < N
                      · have cx := hr2.cell hxl
                        have hcl : (List.range x).countP (fun y => s y == p) ≤ 200 := by have := List.countP_le_length (p := fun y => s y == p) (l := List.range x); simp at this; omega
                        obtain ⟨y, hy⟩ : ∃ y, y = s x := ⟨_, rfl⟩
                        rw [← hy] at cx
                        have hcs : (List.range (x + 1)).countP (fun y => s y == p) = (List.range x).countP (fun y => s y == p) + (if y = p then 1 else 0) := by rw [List.range_succ, List.countP_append, List.countP_singleton, ← hy]; by_cases e : y = p <;> simp [e]
                        obtain ⟨C, hC⟩ : ∃ C, C = (List.range x).countP (fun y => s y == p) := ⟨_, rfl⟩
                        rw [← hC] at hcs hcl ⊢
                        have HC := Lib.hid hcs
                        clear hcs hC hy
                        by_cases e : y = p
                        · subst e
                          go_wp2_with fail
                          go_round
                          case rel => exact ⟨x + 1, by omega, by go_num, by rw [HC.out, if_pos rfl]; go_num⟩
                          case measure => simp [intOf]; omega
                        · have e1 : ((y : Int) == (p : Int)) = false := by rw [beq_eq_false_iff_ne]; omega
                          have e2 : ¬ ((y : Int) = (p : Int)) := by omega
                          have E := Lib.hid e
                          clear e
                          go_wp2_with fail
                          go_round
                          case rel => exact ⟨x + 1, by omega, by go_num, by rw [HC.out, if_neg E.out]; rfl⟩
                          case measure => simp [intOf]; omega
                      · obtain rfl : N = x := by omega
                        clear hxl hx ci
                        have hown5 : w2.ownsRow (g + 1) 3 1 (.slice A8 L.length c8) L.length (iVals L) := hown2
                        have hB5 : Below w.heap.size w w2 := hB2
                        have hg5 : g + 1 ≤ w2.heap.size := hg2
                        have hrow5 : w2.rowIs g 3 N (fun x => .int .i64 ((ustep N s T x : Nat) : Int)) := by rw [HU.out.2]; exact hr2
                        have hne5 : (Value.slice A8 L.length c8).ownBlock ≠ some g := fun e => by have := own_base hown5 g e; omega
                        have X5 := Lib.hid (And.intro hrow5 hB5)
                        clear hown2 hB2
                        go_wp2_with (at_builtin; refine wpList_append_own _ rfl _ _ 23 rfl (g + 1) 3 i0 (.int .i64 0) 1 8 Try.underlying23 hi hz0 hz1 hz2 rfl (by decide) _ _ _ rfl (hown5.alloc _) ⟨w2.heap.size, 0, none⟩ 1 1 [.int .i64 (((List.range N).countP (fun y => s y == p) : Nat) : Int)] rfl rfl (cell_one_new _ _ _) (by simp [Value.oneCell']) (by unfold maxLen; omega) (by omega) (by simp; omega) ?_; intro v' w6 hown6 hgrow6 _)
                        have hB6 := below_app2 X5.out.2 hg0.out hown5 hg5 hgrow6
                        have hrow6 := rowIs_grown' (X5.out.1.alloc _) hgrow6 (fun e => hne5 e.symm)
                        have hg6 : g + 1 ≤ w6.heap.size := by have := hgrow6.size; simp at this; omega
                        rw [iVals_snoc] at hown6
                        clear hown5 hgrow6 hB5
                        go_roundw
                        case rel => exact ⟨k + 1, by omega, by go_num, by rw [HS.out]; exact hrow6, by rw [HL.out, HU2.out, List.length_append, List.length_singleton]; exact hown6, hB6, hg6⟩
                        case measure => simp [intOf]; omega
                  · have HU := Lib.hid (u_no (n := N) (s := s) (K := K) (I := (i : Int)) (J := (j : Int)) (.inl ⟨k1, k2, .inl k3⟩))
                    obtain ⟨T, hT⟩ : ∃ T : SOp, T = (K, (i : Int), (j : Int)) := ⟨_, rfl⟩
                    rw [← hT] at HS HL HU
                    clear hT
                    have hown5 : w2.ownsRow (g + 1) 3 1 (.slice A8 L.length c8) L.length (iVals L) := hown2
                    have hB5 : Below w.heap.size w w2 := hB2
                    have hg5 : g + 1 ≤ w2.heap.size := hg2
                    have hrow5 : w2.rowIs g 3 N (fun x => .int .i64 ((ustep N s T x : Nat) : Int)) := by rw [HU.out.2]; exact hr2
                    have hne5 : (Value.slice A8 L.length c8).ownBlock ≠ some g := fun e => by have := own_base hown5 g e; omega
                    have X5 := Lib.hid (And.intro hrow5 hB5)
                    clear hown2 hB2
                    go_wp2_with (at_builtin; refine wpList_append_own _ rfl _ _ 23 rfl (g + 1) 3 i0 (.int .i64 0) 1 8 Try.underlying23 hi hz0 hz1 hz2 rfl (by decide) _ _ _ rfl (hown5.alloc _) ⟨w2.heap.size, 0, none⟩ 1 1 [.int .i64 (-1)] rfl rfl (cell_one_new _ _ _) (by simp [Value.oneCell']) (by unfold maxLen; omega) (by omega) (by simp; omega) ?_; intro v' w6 hown6 hgrow6 _)
                    have hB6 := below_app2 X5.out.2 hg0.out hown5 hg5 hgrow6
                    have hrow6 := rowIs_grown' (X5.out.1.alloc _) hgrow6 (fun e => hne5 e.symm)
                    have hg6 : g + 1 ≤ w6.heap.size := by have := hgrow6.size; simp at this; omega
                    rw [iVals_snoc] at hown6
                    clear hown5 hgrow6 hB5
                    go_roundw
                    case rel => exact ⟨k + 1, by omega, by go_num, by rw [HS.out]; exact hrow6, by rw [HL.out, HU.out.1, List.length_append, List.length_singleton]; exact hown6, hB6, hg6⟩
                    case measure => simp [intOf]; omega
            · have hno : inS N J = false := by rw [← Bool.not_eq_true, inS_iff]; exact hJ
              by_cases k3 : K = 3
              · subst k3
                clear hno
                rcases (show J < 0 ∨ (0 ≤ J ∧ (N : Int) ≤ J) by omega) with h | ⟨h, h'⟩
                all_goals
                  clear hJ
                  have HU := Lib.hid (u_size (n := N) (s := s) hi2 J)
                  obtain ⟨T, hT⟩ : ∃ T : SOp, T = (3, (i : Int), J) := ⟨_, rfl⟩
                  rw [← hT] at HS HL HU
                  clear hT
                  have ci := hr2.cell hi2
                  obtain ⟨p, hp⟩ : ∃ p, p = s i := ⟨_, rfl⟩
                  rw [← hp] at ci
                  have HU2 : Hid (uans N s T = ((List.range N).countP (fun y => s y == p) : Nat)) := by rw [HU.out.1]; unfold usz; rw [hp]; exact rfl
                  clear hp
                  go_wp2_with fail
                  go_loop [11, 127] (fun a i => ∃ x : Nat, x ≤ N ∧ i = .int .i64 x ∧ a = .int .i64 (((List.range x).countP (fun y => s y == p) : Nat) : Int)) (fun _ i => N - (intOf i).toNat)
                  case atStart => exact ⟨0, Nat.zero_le _, rfl, rfl⟩
                  case round =>
                    obtain ⟨x, hx, rfl, rfl⟩ := hrel
                    by_cases hxl : x < N
                    · have cx := hr2.cell hxl
                      have hcl : (List.range x).countP (fun y => s y == p) ≤ 200 := by have := List.countP_le_length (p := fun y => s y == p) (l := List.range x); simp at this; omega
                      obtain ⟨y, hy⟩ : ∃ y, y = s x := ⟨_, rfl⟩
                      rw [← hy] at cx
                      have hcs : (List.range (x + 1)).countP (fun y => s y == p) = (List.range x).countP (fun y => s y == p) + (if y = p then 1 else 0) := by rw [List.range_succ, List.countP_append, List.countP_singleton, ← hy]; by_cases e : y = p <;> simp [e]
                      obtain ⟨C, hC⟩ : ∃ C, C = (List.range x).countP (fun y => s y == p) := ⟨_, rfl⟩
                      rw [← hC] at hcs hcl ⊢
                      have HC := Lib.hid hcs
                      clear hcs hC hy
                      by_cases e : y = p
                      · subst e
                        go_wp2_with fail
                        go_round
                        case rel => exact ⟨x + 1, by omega, by go_num, by rw [HC.out, if_pos rfl]; go_num⟩
                        case measure => simp [intOf]; omega
                      · have e1 : ((y : Int) == (p : Int)) = false := by rw [beq_eq_false_iff_ne]; omega
                        have e2 : ¬ ((y : Int) = (p : Int)) := by omega
                        have E := Lib.hid e
                        clear e
                        go_wp2_with fail
                        go_round
                        case rel => exact ⟨x + 1, by omega, by go_num, by rw [HC.out, if_neg E.out]; rfl⟩
                        case measure => simp [intOf]; omega
                    · obtain rfl : N = x := by omega
                      clear hxl hx ci
                      have hown5 : w2.ownsRow (g + 1) 3 1 (.slice A8 L.length c8) L.length (iVals L) := hown2
                      have hB5 : Below w.heap.size w w2 := hB2
                      have hg5 : g + 1 ≤ w2.heap.size := hg2
                      have hrow5 : w2.rowIs g 3 N (fun x => .int .i64 ((ustep N s T x : Nat) : Int)) := by rw [HU.out.2]; exact hr2
                      have hne5 : (Value.slice A8 L.length c8).ownBlock ≠ some g := fun e => by have := own_base hown5 g e; omega
                      have X5 := Lib.hid (And.intro hrow5 hB5)
                      clear hown2 hB2
                      go_wp2_with (at_builtin; refine wpList_append_own _ rfl _ _ 23 rfl (g + 1) 3 i0 (.int .i64 0) 1 8 Try.underlying23 hi hz0 hz1 hz2 rfl (by decide) _ _ _ rfl (hown5.alloc _) ⟨w2.heap.size, 0, none⟩ 1 1 [.int .i64 (((List.range N).countP (fun y => s y == p) : Nat) : Int)] rfl rfl (cell_one_new _ _ _) (by simp [Value.oneCell']) (by unfold maxLen; omega) (by omega) (by simp; omega) ?_; intro v' w6 hown6 hgrow6 _)
                      have hB6 := below_app2 X5.out.2 hg0.out hown5 hg5 hgrow6
                      have hrow6 := rowIs_grown' (X5.out.1.alloc _) hgrow6 (fun e => hne5 e.symm)
                      have hg6 : g + 1 ≤ w6.heap.size := by have := hgrow6.size; simp at this; omega
                      rw [iVals_snoc] at hown6
                      clear hown5 hgrow6 hB5
                      go_roundw
                      case rel => exact ⟨k + 1, by omega, by go_num, by rw [HS.out]; exact hrow6, by rw [HL.out, HU2.out, List.length_append, List.length_singleton]; exact hown6, hB6, hg6⟩
                      case measure => simp [intOf]; omega
              · have HU := Lib.hid (u_no (n := N) (s := s) (K := K) (I := (i : Int)) (J := J) (.inr (.inl ⟨k3, .inr hno⟩)))
                obtain ⟨T, hT⟩ : ∃ T : SOp, T = (K, (i : Int), J) := ⟨_, rfl⟩
                rw [← hT] at HS HL HU
                clear hT
                clear hno
                rcases (show J < 0 ∨ (0 ≤ J ∧ (N : Int) ≤ J) by omega) with h | ⟨h, h'⟩ <;> by_cases k1 : K = 1 <;> by_cases k2 : K = 2
                all_goals first | (exfalso; omega) | skip
                all_goals
                  clear hJ
                  have hown5 : w2.ownsRow (g + 1) 3 1 (.slice A8 L.length c8) L.length (iVals L) := hown2
                  have hB5 : Below w.heap.size w w2 := hB2
                  have hg5 : g + 1 ≤ w2.heap.size := hg2
                  have hrow5 : w2.rowIs g 3 N (fun x => .int .i64 ((ustep N s T x : Nat) : Int)) := by rw [HU.out.2]; exact hr2
                  have hne5 : (Value.slice A8 L.length c8).ownBlock ≠ some g := fun e => by have := own_base hown5 g e; omega
                  have X5 := Lib.hid (And.intro hrow5 hB5)
                  clear hown2 hB2
                  go_wp2_with (at_builtin; refine wpList_append_own _ rfl _ _ 23 rfl (g + 1) 3 i0 (.int .i64 0) 1 8 Try.underlying23 hi hz0 hz1 hz2 rfl (by decide) _ _ _ rfl (hown5.alloc _) ⟨w2.heap.size, 0, none⟩ 1 1 [.int .i64 (-1)] rfl rfl (cell_one_new _ _ _) (by simp [Value.oneCell']) (by unfold maxLen; omega) (by omega) (by simp; omega) ?_; intro v' w6 hown6 hgrow6 _)
                  have hB6 := below_app2 X5.out.2 hg0.out hown5 hg5 hgrow6
                  have hrow6 := rowIs_grown' (X5.out.1.alloc _) hgrow6 (fun e => hne5 e.symm)
                  have hg6 : g + 1 ≤ w6.heap.size := by have := hgrow6.size; simp at this; omega
                  rw [iVals_snoc] at hown6
                  clear hown5 hgrow6 hB5
                  go_roundw
                  case rel => exact ⟨k + 1, by omega, by go_num, by rw [HS.out]; exact hrow6, by rw [HL.out, HU.out.1, List.length_append, List.length_singleton]; exact hown6, hB6, hg6⟩
                  case measure => simp [intOf]; omega
          · have hno : inS N I = false := by rw [← Bool.not_eq_true, inS_iff]; exact hI
            have HU := Lib.hid (u_no (n := N) (s := s) (K := K) (I := I) (J := J) (.inr (.inr hno)))
            obtain ⟨T, hT⟩ : ∃ T : SOp, T = (K, I, J) := ⟨_, rfl⟩
            rw [← hT] at HS HL HU
            clear hT hno
            rcases (show I < 0 ∨ (0 ≤ I ∧ (N : Int) ≤ I) by omega) with h | ⟨h, h'⟩ <;> by_cases k1 : K = 1 <;> by_cases k2 : K = 2 <;> by_cases k3 : K = 3
            all_goals first | (exfalso; omega) | skip
            all_goals
              clear hI
              have hown5 : w2.ownsRow (g + 1) 3 1 (.slice A8 L.length c8) L.length (iVals L) := hown2
              have hB5 : Below w.heap.size w w2 := hB2
              have hg5 : g + 1 ≤ w2.heap.size := hg2
              have hrow5 : w2.rowIs g 3 N (fun x => .int .i64 ((ustep N s T x : Nat) : Int)) := by rw [HU.out.2]; exact hr2
              have hne5 : (Value.slice A8 L.length c8).ownBlock ≠ some g := fun e => by have := own_base hown5 g e; omega
              have X5 := Lib.hid (And.intro hrow5 hB5)
              clear hown2 hB2
              go_wp2_with (at_builtin; refine wpList_append_own _ rfl _ _ 23 rfl (g + 1) 3 i0 (.int .i64 0) 1 8 Try.underlying23 hi hz0 hz1 hz2 rfl (by decide) _ _ _ rfl (hown5.alloc _) ⟨w2.heap.size, 0, none⟩ 1 1 [.int .i64 (-1)] rfl rfl (cell_one_new _ _ _) (by simp [Value.oneCell']) (by unfold maxLen; omega) (by omega) (by simp; omega) ?_; intro v' w6 hown6 hgrow6 _)
              have hB6 := below_app2 X5.out.2 hg0.out hown5 hg5 hgrow6
              have hrow6 := rowIs_grown' (X5.out.1.alloc _) hgrow6 (fun e => hne5 e.symm)
              have hg6 : g + 1 ≤ w6.heap.size := by have := hgrow6.size; simp at this; omega
              rw [iVals_snoc] at hown6
              clear hown5 hgrow6 hB5
              go_roundw
              case rel => exact ⟨k + 1, by omega, by go_num, by rw [HS.out]; exact hrow6, by rw [HL.out, HU.out.1, List.length_append, List.length_singleton]; exact hown6, hB6, hg6⟩
              case measure => simp [intOf]; omega
        · obtain rfl : k = ops.length := by omega
          rw [List.take_length] at hown
          go_wp2
          go_ret2
          have hP : plL (N : Int) ops = urun N id ops := by unfold plL; rw [if_pos (by omega)]; rfl
          have hE : plE (N : Int) = 0 := if_pos (by omega)
          obtain ⟨A1, c1, h1, hr1⟩ := own_rdI hown (fun k => by have := plL_bd (N : Int) ops k; rw [hP] at this; omega) (fun k => by have := plL_bd (N : Int) ops k; rw [hP] at this; omega) (by rw [urun_len]; omega)
          subst h1
          exact ⟨A1, c1, by rw [hP, hE]; rfl, by rw [hP]; exact own_capI hown, by rw [hP]; exact hr1, hB⟩
end Go.Proofs.Ytafhljjekpaehaa
