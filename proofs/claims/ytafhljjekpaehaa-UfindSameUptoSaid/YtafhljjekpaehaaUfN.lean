/-
  Contract of the program's ufind.Play, for every number of elements from 0 to 200 and every slice of at most 2^20 + 1 operations.
-/
import Derived.Test.YtafhljjekpaehaaUfG
namespace Go.Proofs.Ytafhljjekpaehaa
open Go.RowKit
set_option maxRecDepth 100000

theorem UM.keep {N : Nat} {s : Nat → Nat} {g h : Nat} {W W' : World} {p : Nat → Prop} (k : UM N s g h W) (hk : Keeps p W W') (hg : p g) (hh : p h) : UM N s g h W' := by
  obtain ⟨a, z, f, d, h1, h2, h3⟩ := k
  exact ⟨a, z, f, d, h1, rowKeeps h2 hk hg, rowKeeps h3 hk hh⟩
theorem UM.lt {N : Nat} {s : Nat → Nat} {g h : Nat} {W : World} (k : UM N s g h W) : g < W.heap.size ∧ h < W.heap.size := by
  obtain ⟨a, z, f, d, h1, h2, h3⟩ := k
  exact ⟨h2.lt, h3.lt⟩
theorem row_rdIU {w : World} {g t : Nat} {L : List Int} (h : w.rowIs g t L.length (fun k => .int .i64 (zd L k))) (h1 : ∀ k, -9223372036854775808 ≤ zd L k ∧ zd L k ≤ 9223372036854775807) (h2 : L.length ≤ 1152921504606846976) : RdI w w.heap.size (some ⟨g, 0, none⟩) L :=
  ⟨fun k => (h1 k).1, fun k => (h1 k).2, h2, fun _ => ⟨g, 0, rfl, h.lt, fun k hk => by rw [Nat.zero_add]; exact h.cell hk⟩⟩
/-- the answers to the first k, zeros behind -/
def ansT (n : Nat) (ops : List SOp) (k : Nat) : Nat → Int := fun x => if x < k then zd (urun n id ops) x else 0
theorem urun_atN (n : Nat) : ∀ (ops : List SOp) (s : Nat → Nat) (k : Nat), k < ops.length → zd (urun n s ops) k = uans n (ust n s (ops.take k)) (tr3 ops k)
  | [], _, k, h => by simp at h
  | o :: os, s, 0, _ => rfl
  | o :: os, s, k + 1, h => by
    have ih := urun_atN n os (ustep n s o) k (by simpa using h)
    exact ih
theorem ans_bd (n : Nat) (ops : List SOp) (k x : Nat) : -1 ≤ ansT n ops k x ∧ ansT n ops k x ≤ (n : Int) + 1 := by
  unfold ansT
  split
  · exact zd_bd (by omega) (fun y hy => urun_bd n ops id y hy) x
  · omega

set_option maxHeartbeats 8000000 in
theorem play_ok (N : Nat) (hN : N ≤ 200) (A : Option Addr) (c : Nat) (ops : List SOp) (w : World) (ho : Rd3 w w.heap.size A ops) (hl : ops.length ≤ 1048577) :
    Calls Try.prog 7 #[.int .i64 (N : Int), .slice A ops.length c] w (PlayR (N : Int) ops w) := by
  have hmk := run_make_row' (P := Try.prog) 23 3 (.int .i64 0) 8 Try.underlying23 Try.infoInt rfl .i64 .i64 ops.length (by omega) (by omega)
  have hP : plL (N : Int) ops = urun N id ops := by unfold plL; rw [if_pos (by omega)]; rfl
  have hE : plE (N : Int) = 0 := if_pos (by omega)
  have HPE := Lib.hid (And.intro hP hE)
  obtain ⟨L, hL⟩ : ∃ L, L = ops.length := ⟨_, rfl⟩
  have HLL := Lib.hid hL
  have HO := Lib.hid ho
  rw [← hL] at hmk hl ⊢
  clear hP hE ho hL
  go_enter Try.func7, Try.ntmps7
  go_wp2_with fail
  refine (singles_any N hN w).mono ?_
  rintro e w1 ⟨g, h, rfl, hgh, hg, hh, hU, hb1⟩
  have hlt := hU.lt
  have hs1 := hb1.size
  -- the box of the sets, and the row of the answers
  have hB2 := N2.new w1 g h N
  have hU2 := hU.keep (p := fun _ => True) ((Keeps.refl _ w1).alloc (.cells #[.slice (some ⟨g, 0, none⟩) N N, .slice (some ⟨h, 0, none⟩) N N] 39)) trivial trivial
  have hb2 : Below w.heap.size w (w1.alloc (.cells #[.slice (some ⟨g, 0, none⟩) N N, .slice (some ⟨h, 0, none⟩) N N] 39)) := hb1.alloc hs1 _
  obtain ⟨w2, hw2⟩ : ∃ w2, w2 = w1.alloc (.cells #[.slice (some ⟨g, 0, none⟩) N N, .slice (some ⟨h, 0, none⟩) N N] 39) := ⟨_, rfl⟩
  have hs2 : w2.heap.size = w1.heap.size + 1 := by rw [hw2]; simp
  rw [← hw2] at hB2 hU2 hb2
  have hr3 := World.rowIs_made w2 (.int .i64 0) L 3
  have hB3 := hB2.keep (p := fun _ => True) ((Keeps.refl _ w2).alloc (.cells (madeCells #[.int .i64 0] L) 3)) trivial
  have hU3 := hU2.keep (p := fun _ => True) ((Keeps.refl _ w2).alloc (.cells (madeCells #[.int .i64 0] L) 3)) trivial trivial
  have hb3 : Below w.heap.size w (w2.alloc (.cells (madeCells #[.int .i64 0] L) 3)) := hb2.alloc (by omega) _
  obtain ⟨w3, hw3⟩ : ∃ w3, w3 = w2.alloc (.cells (madeCells #[.int .i64 0] L) 3) := ⟨_, rfl⟩
  have hs3 : w3.heap.size = w2.heap.size + 1 := by rw [hw3]; simp
  rw [← hw3] at hr3 hB3 hU3 hb3
  obtain ⟨B, hBe⟩ : ∃ B, B = w1.heap.size := ⟨_, rfl⟩
  obtain ⟨G, hGe⟩ : ∃ G, G = w1.heap.size + 1 := ⟨_, rfl⟩
  rw [show w2.heap.size = G by omega] at hr3
  rw [← hBe] at hB3
  have hGg : G ≠ g := by omega
  have hGh : G ≠ h := by omega
  have hBg : B ≠ g := by omega
  have hBh : B ≠ h := by omega
  have hBG : B ≠ G := by omega
  have hwG : Hid (w.heap.size ≤ G ∧ w.heap.size ≤ g ∧ w.heap.size ≤ h ∧ w3.heap.size = G + 1) := Lib.hid (by omega)
  have HW2 := Lib.hid hw2
  have HW3 := Lib.hid hw3
  have HBe := Lib.hid hBe
  have HGe := Lib.hid hGe
  have hr0 : w3.rowIs G 3 L (fun x => .int .i64 (ansT N ops 0 x)) := hr3.congr fun j _ => by unfold ansT; rw [if_neg (by omega)]
  have HB3 := Lib.hid hb3
  clear hr3 hb3 hs3 hw3 hBe hGe hB2 hU2 hb2 hs2 hw2 hU hb1 hs1 hlt hg hh
  go_wp2_with fail
  rw [← HW2.out]
  rw [← HW3.out, ← HGe.out, ← HBe.out]
  obtain ⟨wo, rfl⟩ : ∃ wo : World, wo = w3 := ⟨_, rfl⟩
  go_loopw [8, 9, 23] (fun v8 v9 v23 wr => ∃ k : Nat, k ≤ L ∧ v23 = .int .i64 (k : Int) ∧ UM N (ust N id (ops.take k)) g h wr ∧ wr.rowIs G 3 L (fun x => .int .i64 (ansT N ops k x)) ∧ Keeps (fun b => b ≠ g ∧ b ≠ h ∧ b ≠ G) wo wr) (fun _ _ i _ => L - (intOf i).toNat)
  case atStart => exact ⟨0, Nat.zero_le _, rfl, hU3, hr0, Keeps.refl _ _⟩
  case round =>
    obtain ⟨k, hk, rfl, hU, hr, hkp⟩ := hrel
    have hBr := hB3.keep hkp ⟨hBg, hBh, hBG⟩
    clear hU3 hr0 hB3
    by_cases hlt : k < L
    · have hkl : k < ops.length := by rw [← HLL.out]; exact hlt
      obtain ⟨b, off, hA, hb, hc⟩ := HO.out.rd (by omega)
      subst hA
      obtain ⟨q0, q1, q2⟩ := hc k hkl
      have hin := HO.out.int k
      have hbw : b ≠ g ∧ b ≠ h ∧ b ≠ G := by have := hwG.out; omega
      have hcb : ∀ o, wr.cell? ⟨b, o, none⟩ = w.cell? ⟨b, o, none⟩ := fun o => (World.cell?_of_block (a := ⟨b, o, none⟩) (hkp.block b (by have := hwG.out; show b < wo.heap.size; omega) hbw)).trans (HB3.out.cell (p := ⟨b, o, none⟩) hb)
      replace q0 := (hcb _).trans q0
      replace q1 := (hcb _).trans q1
      replace q2 := (hcb _).trans q2
      have HS := Lib.hid (ust_take N ops k hkl)
      have HV := Lib.hid (urun_atN N ops id k hkl)
      obtain ⟨T, hT⟩ : ∃ T, T = tr3 ops k := ⟨_, rfl⟩
      rw [← hT] at q0 q1 q2 hin HS HV
      obtain ⟨s, hs⟩ : ∃ s, s = ust N id (ops.take k) := ⟨_, rfl⟩
      rw [← hs] at hU HS HV
      clear hT hs hc hcb hbw
      obtain ⟨K, I, J⟩ := T
      dsimp only at q0 q1 q2
      have n0 := hBr.c0
      have n1 := hBr.c1
      have hgl := hr.lt
      have ht2 : T3 wr.heap.size K I J (wr.alloc (.cells #[.int .i64 K, .int .i64 I, .int .i64 J] 32)) := World.alloc_heap_new wr _
      have hB2 := hBr.keep (p := fun _ => True) ((Keeps.refl _ wr).alloc (.cells #[.int .i64 K, .int .i64 I, .int .i64 J] 32)) trivial
      have hU2 := hU.keep (p := fun _ => True) ((Keeps.refl _ wr).alloc (.cells #[.int .i64 K, .int .i64 I, .int .i64 J] 32)) trivial trivial
      have hr2 := hr.alloc (.cells #[.int .i64 K, .int .i64 I, .int .i64 J] 32)
      have hk2 := hkp.alloc (.cells #[.int .i64 K, .int .i64 I, .int .i64 J] 32)
      obtain ⟨w4, hw4⟩ : ∃ w4, w4 = wr.alloc (.cells #[.int .i64 K, .int .i64 I, .int .i64 J] 32) := ⟨_, rfl⟩
      obtain ⟨D, hD⟩ : ∃ D, D = wr.heap.size := ⟨_, rfl⟩
      rw [← hw4] at ht2 hB2 hU2 hr2 hk2
      rw [← hD] at ht2
      obtain ⟨t0, t1, t2⟩ := ht2.cells
      have m0 := hB2.c0
      have m1 := hB2.c1
      have HW4 := Lib.hid hw4
      have HD := Lib.hid hD
      have HIN := Lib.hid hin
      clear hU hr hkp hBr hw4 hD ht2 hB2 hkl hin
      go_upto_region 8 with fail
      rw [← HW4.out, ← HD.out]
      clear q0 q1 q2 n0 n1
      go_wp2_with fail
      refine (perform_any g h N hN hgh K I J HIN.out s w4 hU2).mono ?_
      rintro e w5 ⟨rfl, hU5, hk5⟩
      have hr5 := rowKeeps hr2 hk5 ⟨hGg, hGh⟩
      have hk6 := hk2.trans (hk5.mono fun b _ e => ⟨e.1, e.2.1⟩)
      rw [← HV.out]
      obtain ⟨V, hV⟩ : ∃ V, V = zd (urun N id ops) k := ⟨_, rfl⟩
      have HVV := Lib.hid hV
      rw [← hV]
      have hcG := hr5.cell hlt
      have hfG := hr5.frozen k
      have hr6 : (w5.setCell ⟨G, k, none⟩ (.int .i64 V)).rowIs G 3 L (fun x => .int .i64 (ansT N ops (k + 1) x)) := (hr5.set k (.int .i64 V)).congr fun j _ => by
        unfold ansT
        by_cases e : j = k
        · subst e; rw [if_pos rfl, if_pos (by omega), hV]
        · rw [if_neg e]
          by_cases e2 : j < k
          · rw [if_pos e2, if_pos (by omega)]
          · rw [if_neg e2, if_neg (by omega)]
      have X := Lib.hid (And.intro (hU5.keep (p := fun b => b ≠ G) ((Keeps.refl _ w5).setCell (q := ⟨G, k, none⟩) (fun _ hp => hp rfl) (.int .i64 V)) (fun e => hGg e.symm) (fun e => hGh e.symm)) (And.intro hr6 (hk6.setCell (q := ⟨G, k, none⟩) (fun _ hp => hp.2.2 rfl) (.int .i64 V))))
      obtain ⟨v0, hv0⟩ : ∃ v0, v0 = ansT N ops k k := ⟨_, rfl⟩
      rw [← hv0] at hcG
      clear hU5 hk5 hr5 hk6 hr6 hU2 hr2 hk2 t0 t1 t2 m0 m1 hV hv0
      go_wp2_with fail
      go_roundw
      case rel => exact ⟨k + 1, by omega, by go_num, by rw [HS.out]; exact X.out.1, X.out.2.1, X.out.2.2⟩
      case measure => simp [intOf]; omega
    · obtain rfl : k = L := by omega
      have hrd : wr.rowIs G 3 (urun N id ops).length (fun x => .int .i64 (zd (urun N id ops) x)) := by
        rw [urun_len, ← HLL.out]
        exact hr.congr fun j hj => by unfold ansT; rw [if_pos hj]
      have HR := Lib.hid (row_rdIU hrd (fun j => by have := zd_bd (l := urun N id ops) (lo := -1) (hi := 201) (by omega) (fun y hy => by have := urun_bd N ops id y hy; omega) j; omega) (by rw [urun_len, ← HLL.out]; omega))
      have HB := Lib.hid (HB3.out.trans (hkp.below (n := w.heap.size) HB3.out.size (fun b hb => by have := hwG.out; omega)))
      clear hrd hr hkp hU hBr hlt hk
      go_wp2_with fail
      go_ret2
      refine ⟨some ⟨G, 0, none⟩, k, ?_, ?_, ?_, HB.out⟩
      · rw [HPE.out.1, HPE.out.2, urun_len, ← HLL.out]; rfl
      · rw [HPE.out.1, urun_len, ← HLL.out]; exact Nat.le_refl _
      · rw [HPE.out.1]; exact HR.out
end Go.Proofs.Ytafhljjekpaehaa
