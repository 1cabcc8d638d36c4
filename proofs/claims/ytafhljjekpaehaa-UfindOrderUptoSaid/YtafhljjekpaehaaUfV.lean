/-
  Contract of ufind's own perform.
-/
import Derived.Test.YtafhljjekpaehaaUfW
import Derived.Test.YtafhljjekpaehaaUfR
namespace Go.Proofs.Ytafhljjekpaehaa
open Go.RowKit
set_option maxRecDepth 100000

theorem JR.um {N : Nat} {p z f d s : Nat → Nat} {D g h : Nat} {w W : World} (hU : Us N p z f d s) (k : JR N p z f d D g h w W) : UM N s g h W := by
  obtain ⟨⟨q, a, b, c⟩, hz, _, _⟩ := k
  exact ⟨q, z, f, d, hU.of a (fun x _ => b x), c, hz⟩
/-- a box of three ints -/
def T3 (T : Nat) (K I J : Int) (W : World) : Prop := W.heap[T]? = some (.cells #[.int .i64 K, .int .i64 I, .int .i64 J] 32 (0, 0))
theorem T3.cells {T : Nat} {K I J : Int} {W : World} (k : T3 T K I J W) : W.cell? ⟨T, 0, none⟩ = some (.int .i64 K) ∧ W.cell? ⟨T, 1, none⟩ = some (.int .i64 I) ∧ W.cell? ⟨T, 2, none⟩ = some (.int .i64 J) := by
  unfold T3 at k
  refine ⟨?_, ?_, ?_⟩ <;> (unfold World.cell?; dsimp only; rw [k]; rfl)
theorem T3.lt {T : Nat} {K I J : Int} {W : World} (k : T3 T K I J W) : T < W.heap.size := (Array.getElem?_eq_some_iff.1 k).1
abbrev HeldP (N : Nat) (p z f d : Nat → Nat) (D T g h : Nat) (K I J : Int) (w W : World) : Prop := W.cell? ⟨D, 0, none⟩ = some (.slice (some ⟨g, 0, none⟩) N N) ∧ W.cell? ⟨D, 1, none⟩ = some (.slice (some ⟨h, 0, none⟩) N N) ∧ W.cell? ⟨T, 0, none⟩ = some (.int .i64 K) ∧ W.cell? ⟨T, 1, none⟩ = some (.int .i64 I) ∧ W.cell? ⟨T, 2, none⟩ = some (.int .i64 J) ∧ JR N p z f d D g h w W
theorem HeldP.of {N : Nat} {p z f d : Nat → Nat} {D T g h : Nat} {K I J : Int} {w W : World} (hT : T3 T K I J w) (hTg : T ≠ g) (hTh : T ≠ h) (k : JR N p z f d D g h w W) : HeldP N p z f d D T g h K I J w W := by
  have h2 : T3 T K I J W := (k.2.2.2.block T hT.lt ⟨hTg, hTh⟩).trans hT
  exact ⟨k.2.2.1.c0, k.2.2.1.c1, h2.cells.1, h2.cells.2.1, h2.cells.2.2, k⟩
theorem JR.drew {N : Nat} {p z f d : Nat → Nat} {D g h : Nat} {w W : World} (k : JR N p z f d D g h w W) : JR N p z f d D g h w W.drew :=
  ⟨by obtain ⟨q, a, b, c⟩ := k.1; exact ⟨q, a, b, c.drew⟩, k.2.1.drew, k.2.2.1, k.2.2.2.drew⟩
theorem JR.step {N : Nat} {p z f d : Nat → Nat} {D g h : Nat} {w W W' : World} (k : JR N p z f d D g h w W) (hb : Below W.heap.size W W') : JR N p z f d D g h w W' := by
  have hk : Keeps (fun b => b ≠ g ∧ b ≠ h) W W' := Keeps.of_below hb (fun _ hk _ => hk)
  have hk' : Keeps (fun _ => True) W W' := Keeps.of_below hb (fun _ hk _ => hk)
  obtain ⟨⟨q, a, b, c⟩, hz, hn, hkk⟩ := k
  exact ⟨⟨q, a, b, rowKeeps c hk' trivial⟩, rowKeeps hz hk' trivial, hn.keep hk' trivial, hkk.trans hk⟩
/-- what a call of perform leaves -/
def PerfE (N : Nat) (s : Nat → Nat) (g h : Nat) (o : SOp) (w : World) (e : Ending) (w' : World) : Prop := e = .returned (.int .i64 (uans N s o)) ∧ UM N (ustep N s o) g h w' ∧ Keeps (fun b => b ≠ g ∧ b ≠ h) w w'
theorem inS_of {N i : Nat} (h : inS N (i : Int) = true) : i < N := by have := inS_iff.1 h; omega

set_option maxHeartbeats 4000000 in
theorem perform_noI (g h N : Nat) (hN : N ≤ 200) (hgh : g ≠ h) (K I J : Int) (hin : In3 (K, I, J)) (hI : inS N I = false) (s : Nat → Nat) (w : World) (hU : UM N s g h w) :
    Calls Try.prog 16 #[SetsV g h N, .agg #[.int .i64 K, .int .i64 I, .int .i64 J]] w (PerfE N s g h (K, I, J) w) := by
  obtain ⟨p, z, f, d, hUs, hrp, hrz⟩ := hU
  obtain ⟨b1, b2, b3⟩ := hin
  dsimp only at b1 b2 b3
  have hDg : w.heap.size ≠ g := by have := hrp.lt; omega
  have hDh : w.heap.size ≠ h := by have := hrz.lt; omega
  have hTg : w.heap.size + 1 ≠ g := by have := hrp.lt; omega
  have hTh : w.heap.size + 1 ≠ h := by have := hrz.lt; omega
  have hn1 := N2.new w g h N
  obtain ⟨w1, hw1⟩ : ∃ w1, w1 = w.alloc (.cells #[.slice (some ⟨g, 0, none⟩) N N, .slice (some ⟨h, 0, none⟩) N N] 39) := ⟨_, rfl⟩
  have hk1 : Keeps (fun b => b ≠ g ∧ b ≠ h) w w1 := by rw [hw1]; exact (Keeps.refl _ w).alloc _
  have hr1 : RowN w1 g N p := by rw [hw1]; exact hrp.alloc _
  have hz1 : RowN w1 h N z := by rw [hw1]; exact hrz.alloc _
  have hs1 : w1.heap.size = w.heap.size + 1 := by rw [hw1]; simp
  rw [← hw1] at hn1
  have hn2 : N2 w.heap.size g h N (w1.alloc (.cells #[.int .i64 K, .int .i64 I, .int .i64 J] 32)) := hn1.keep (p := fun _ => True) ((Keeps.refl _ _).alloc _) trivial
  have ht2 : T3 w1.heap.size K I J (w1.alloc (.cells #[.int .i64 K, .int .i64 I, .int .i64 J] 32)) := World.alloc_heap_new w1 _
  rw [hs1] at ht2
  obtain ⟨D, hD⟩ : ∃ D, D = w.heap.size := ⟨_, rfl⟩
  obtain ⟨T, hT⟩ : ∃ T, T = w.heap.size + 1 := ⟨_, rfl⟩
  obtain ⟨w2, hw2⟩ : ∃ w2, w2 = w1.alloc (.cells #[.int .i64 K, .int .i64 I, .int .i64 J] 32) := ⟨_, rfl⟩
  have hk2 : Keeps (fun b => b ≠ g ∧ b ≠ h) w w2 := by rw [hw2]; exact hk1.alloc _
  have hr2 : RowN w2 g N p := by rw [hw2]; exact hr1.alloc _
  have hz2 : RowN w2 h N z := by rw [hw2]; exact hz1.alloc _
  rw [← hD] at hn2 hDg hDh
  rw [← hT] at hTg hTh ht2
  rw [← hw2] at hn2 ht2
  have hJ2 : JR N p z f d D g h w2 w2 := ⟨⟨p, hUs.fr, fun _ => Iff.rfl, hr2⟩, hz2, hn2, Keeps.refl _ _⟩
  have HOF := Lib.hid (fun W (k : JR N p z f d D g h w2 W) => HeldP.of ht2 hTg hTh k)
  have HRT := Lib.hid (fun W x hx (k : HeldP N p z f d D T g h K I J w2 W) => (root_held g h N hN p z f d D hgh hDg w2 W x hx (HeldJ.of k.2.2.2.2.2)))
  have HFIN : Hid (∀ W, JR N p z f d D g h w2 W → UM N s g h W ∧ Keeps (fun b => b ≠ g ∧ b ≠ h) w W) := Lib.hid fun W k => ⟨k.um hUs, hk2.trans k.2.2.2⟩
  obtain ⟨c0, c1, t0, t1, t2, _⟩ := HOF.out _ hJ2
  have HW1 := Lib.hid hw1
  have HW2 := Lib.hid hw2
  have HD := Lib.hid (And.intro hD hT)
  have HUS := Lib.hid hUs
  clear hn1 hk1 hr1 hz1 hs1 hn2 ht2 hw1 hw2 hD hT hr2 hz2 hrp hrz hUs
  have HV := Lib.hid (u_no (n := N) (s := s) (J := J) (K := K) (.inr (.inr hI)))
  go_enter Try.func16, Try.ntmps16
  go_upto_region 1 with fail
  rw [← HW1.out, ← HW2.out, ← HD.out.2, ← HD.out.1]
  go_wp2_with fail
  refine (has_any g h N hN I w2 b2).mono ?_
  rintro e w3 ⟨rfl, hb3⟩
  rw [hI]
  have hJ3 := hJ2.step hb3
  clear c0 c1 t0 t1 t2 hb3 hJ2
  obtain ⟨c0, c1, t0, t1, t2, _⟩ := HOF.out _ hJ3
  go_wp2_with fail
  go_ret
  exact ⟨by rw [HV.out.1]; rfl, by rw [HV.out.2]; exact (HFIN.out _ hJ3).1, (HFIN.out _ hJ3).2⟩
set_option maxHeartbeats 4000000 in
theorem perform_size (g h N : Nat) (hN : N ≤ 200) (hgh : g ≠ h) (I : Nat) (J : Int) (hin : In3 (3, (I : Int), J)) (hi : I < N) (s : Nat → Nat) (w : World) (hU : UM N s g h w) :
    Calls Try.prog 16 #[SetsV g h N, .agg #[.int .i64 3, .int .i64 (I : Int), .int .i64 J]] w (PerfE N s g h (3, (I : Int), J) w) := by
  obtain ⟨p, z, f, d, hUs, hrp, hrz⟩ := hU
  obtain ⟨b1, b2, b3⟩ := hin
  dsimp only at b1 b2 b3
  have hDg : w.heap.size ≠ g := by have := hrp.lt; omega
  have hDh : w.heap.size ≠ h := by have := hrz.lt; omega
  have hTg : w.heap.size + 1 ≠ g := by have := hrp.lt; omega
  have hTh : w.heap.size + 1 ≠ h := by have := hrz.lt; omega
  have hn1 := N2.new w g h N
  obtain ⟨w1, hw1⟩ : ∃ w1, w1 = w.alloc (.cells #[.slice (some ⟨g, 0, none⟩) N N, .slice (some ⟨h, 0, none⟩) N N] 39) := ⟨_, rfl⟩
  have hk1 : Keeps (fun b => b ≠ g ∧ b ≠ h) w w1 := by rw [hw1]; exact (Keeps.refl _ w).alloc _
  have hr1 : RowN w1 g N p := by rw [hw1]; exact hrp.alloc _
  have hz1 : RowN w1 h N z := by rw [hw1]; exact hrz.alloc _
  have hs1 : w1.heap.size = w.heap.size + 1 := by rw [hw1]; simp
  rw [← hw1] at hn1
  have hn2 : N2 w.heap.size g h N (w1.alloc (.cells #[.int .i64 3, .int .i64 (I : Int), .int .i64 J] 32)) := hn1.keep (p := fun _ => True) ((Keeps.refl _ _).alloc _) trivial
  have ht2 : T3 w1.heap.size 3 (I : Int) J (w1.alloc (.cells #[.int .i64 3, .int .i64 (I : Int), .int .i64 J] 32)) := World.alloc_heap_new w1 _
  rw [hs1] at ht2
  obtain ⟨D, hD⟩ : ∃ D, D = w.heap.size := ⟨_, rfl⟩
  obtain ⟨T, hT⟩ : ∃ T, T = w.heap.size + 1 := ⟨_, rfl⟩
  obtain ⟨w2, hw2⟩ : ∃ w2, w2 = w1.alloc (.cells #[.int .i64 3, .int .i64 (I : Int), .int .i64 J] 32) := ⟨_, rfl⟩
  have hk2 : Keeps (fun b => b ≠ g ∧ b ≠ h) w w2 := by rw [hw2]; exact hk1.alloc _
  have hr2 : RowN w2 g N p := by rw [hw2]; exact hr1.alloc _
  have hz2 : RowN w2 h N z := by rw [hw2]; exact hz1.alloc _
  rw [← hD] at hn2 hDg hDh
  rw [← hT] at hTg hTh ht2
  rw [← hw2] at hn2 ht2
  have hJ2 : JR N p z f d D g h w2 w2 := ⟨⟨p, hUs.fr, fun _ => Iff.rfl, hr2⟩, hz2, hn2, Keeps.refl _ _⟩
  have HOF := Lib.hid (fun W (k : JR N p z f d D g h w2 W) => HeldP.of ht2 hTg hTh k)
  have HRT := Lib.hid (fun W x hx (k : HeldP N p z f d D T g h 3 (I : Int) J w2 W) => (root_held g h N hN p z f d D hgh hDg w2 W x hx (HeldJ.of k.2.2.2.2.2)))
  have HFIN : Hid (∀ W, JR N p z f d D g h w2 W → UM N s g h W ∧ Keeps (fun b => b ≠ g ∧ b ≠ h) w W) := Lib.hid fun W k => ⟨k.um hUs, hk2.trans k.2.2.2⟩
  obtain ⟨c0, c1, t0, t1, t2, _⟩ := HOF.out _ hJ2
  have HW1 := Lib.hid hw1
  have HW2 := Lib.hid hw2
  have HD := Lib.hid (And.intro hD hT)
  have HUS := Lib.hid hUs
  clear hn1 hk1 hr1 hz1 hs1 hn2 ht2 hw1 hw2 hD hT hr2 hz2 hrp hrz hUs
  have hI : inS N (I : Int) = true := by rw [inS_nat]; simp [hi]
  have HV := Lib.hid (u_size (n := N) (s := s) hi J)
  go_enter Try.func16, Try.ntmps16
  go_upto_region 1 with fail
  rw [← HW1.out, ← HW2.out, ← HD.out.2, ← HD.out.1]
  go_wp2_with fail
  refine (has_any g h N hN (I : Int) w2 b2).mono ?_
  rintro e w3 ⟨rfl, hb3⟩
  rw [hI]
  have hJ3 := hJ2.step hb3
  clear c0 c1 t0 t1 t2 hb3 hJ2
  obtain ⟨c0, c1, t0, t1, t2, _⟩ := HOF.out _ hJ3
  have hfi := HUS.out.fr.root hi
  have hsz := HUS.out.size hi
  have hca := hJ3.2.1.cell hfi.1
  have ha0 : (0 : Int) ≤ (f I : Int) := Int.natCast_nonneg _
  have ha1 : (f I : Int) < (N : Int) := by omega
  have HSZ := Lib.hid hsz
  have HF1 := Lib.hid hfi.1
  have HI := Lib.hid hi
  have HN3 : Hid (∀ W, JR N p z f d D g h w2 W → W.cell? ⟨h, f I, none⟩ = some (.int .i64 ((z (f I) : Nat) : Int))) := Lib.hid fun W k => k.2.1.cell HF1.out
  have HRT2 := Lib.hid (show ∀ W, (HeldP N p z f d D T g h 3 (I : Int) J w2 W ∧ W.cell? ⟨h, f I, none⟩ = some (.int .i64 ((z (f I) : Nat) : Int))) → Calls Try.prog 18 #[SetsV g h N, .int .i64 (I : Int)] W (fun e W' => e = .returned (.int .i64 ((f I : Nat) : Int)) ∧ (HeldP N p z f d D T g h 3 (I : Int) J w2 W' ∧ W'.cell? ⟨h, f I, none⟩ = some (.int .i64 ((z (f I) : Nat) : Int)))) from fun W k => (HRT.out W I hi k.1).mono fun e W' q => ⟨q.1, HOF.out _ q.2.2.2, HN3.out _ q.2.2.2⟩)
  have hh3 := And.intro (HOF.out _ hJ3) hca
  clear hfi hsz hi hI
  go_upto_region 4 with fail
  go_cut [4] from 15 to 22 (fun t wx => t = .int .i64 ((z (f I) : Nat) : Int) ∧ JR N p z f d D g h w2 wx)
  case first =>
    go_region_held3 (fun W => HeldP N p z f d D T g h 3 (I : Int) J w2 W ∧ W.cell? ⟨h, f I, none⟩ = some (.int .i64 ((z (f I) : Nat) : Int)))
      (first
        | (go_split_ands; refine ⟨⟨?_, ?_, ?_, ?_, ?_, ?_⟩, ?_⟩ <;> assumption)
        | (go_split_ands; refine ⟨⟨?_, ?_, ?_, ?_, ?_, JR.drew ?_⟩, ?_⟩ <;> assumption))
      (first
        | (go_at_call 18; with_reducible refine (HRT2.out _ (by assumption)).mono ?_; rintro e w6 ⟨rfl, h6⟩))
    all_goals
      go_wp2_with fail
      go_meet
      case rel => exact ⟨rfl, h6.1.2.2.2.2.2⟩
  case rest =>
    obtain ⟨rfl, hJ4⟩ := hcut
    go_wp2_with fail
    go_ret
    exact ⟨by rw [HV.out.1, HSZ.out]; rfl, by rw [HV.out.2]; exact (HFIN.out _ hJ4).1, (HFIN.out _ hJ4).2⟩
set_option maxHeartbeats 4000000 in
theorem perform_noJ (g h N : Nat) (hN : N ≤ 200) (hgh : g ≠ h) (K I J : Int) (hin : In3 (K, I, J)) (hI : inS N I = true) (hJ : inS N J = false) (h3 : K ≠ 3) (s : Nat → Nat) (w : World) (hU : UM N s g h w) :
    Calls Try.prog 16 #[SetsV g h N, .agg #[.int .i64 K, .int .i64 I, .int .i64 J]] w (PerfE N s g h (K, I, J) w) := by
  obtain ⟨p, z, f, d, hUs, hrp, hrz⟩ := hU
  obtain ⟨b1, b2, b3⟩ := hin
  dsimp only at b1 b2 b3
  have hDg : w.heap.size ≠ g := by have := hrp.lt; omega
  have hDh : w.heap.size ≠ h := by have := hrz.lt; omega
  have hTg : w.heap.size + 1 ≠ g := by have := hrp.lt; omega
  have hTh : w.heap.size + 1 ≠ h := by have := hrz.lt; omega
  have hn1 := N2.new w g h N
  obtain ⟨w1, hw1⟩ : ∃ w1, w1 = w.alloc (.cells #[.slice (some ⟨g, 0, none⟩) N N, .slice (some ⟨h, 0, none⟩) N N] 39) := ⟨_, rfl⟩
  have hk1 : Keeps (fun b => b ≠ g ∧ b ≠ h) w w1 := by rw [hw1]; exact (Keeps.refl _ w).alloc _
  have hr1 : RowN w1 g N p := by rw [hw1]; exact hrp.alloc _
  have hz1 : RowN w1 h N z := by rw [hw1]; exact hrz.alloc _
  have hs1 : w1.heap.size = w.heap.size + 1 := by rw [hw1]; simp
  rw [← hw1] at hn1
  have hn2 : N2 w.heap.size g h N (w1.alloc (.cells #[.int .i64 K, .int .i64 I, .int .i64 J] 32)) := hn1.keep (p := fun _ => True) ((Keeps.refl _ _).alloc _) trivial
  have ht2 : T3 w1.heap.size K I J (w1.alloc (.cells #[.int .i64 K, .int .i64 I, .int .i64 J] 32)) := World.alloc_heap_new w1 _
  rw [hs1] at ht2
  obtain ⟨D, hD⟩ : ∃ D, D = w.heap.size := ⟨_, rfl⟩
  obtain ⟨T, hT⟩ : ∃ T, T = w.heap.size + 1 := ⟨_, rfl⟩
  obtain ⟨w2, hw2⟩ : ∃ w2, w2 = w1.alloc (.cells #[.int .i64 K, .int .i64 I, .int .i64 J] 32) := ⟨_, rfl⟩
  have hk2 : Keeps (fun b => b ≠ g ∧ b ≠ h) w w2 := by rw [hw2]; exact hk1.alloc _
  have hr2 : RowN w2 g N p := by rw [hw2]; exact hr1.alloc _
  have hz2 : RowN w2 h N z := by rw [hw2]; exact hz1.alloc _
  rw [← hD] at hn2 hDg hDh
  rw [← hT] at hTg hTh ht2
  rw [← hw2] at hn2 ht2
  have hJ2 : JR N p z f d D g h w2 w2 := ⟨⟨p, hUs.fr, fun _ => Iff.rfl, hr2⟩, hz2, hn2, Keeps.refl _ _⟩
  have HOF := Lib.hid (fun W (k : JR N p z f d D g h w2 W) => HeldP.of ht2 hTg hTh k)
  have HRT := Lib.hid (fun W x hx (k : HeldP N p z f d D T g h K I J w2 W) => (root_held g h N hN p z f d D hgh hDg w2 W x hx (HeldJ.of k.2.2.2.2.2)))
  have HFIN : Hid (∀ W, JR N p z f d D g h w2 W → UM N s g h W ∧ Keeps (fun b => b ≠ g ∧ b ≠ h) w W) := Lib.hid fun W k => ⟨k.um hUs, hk2.trans k.2.2.2⟩
  obtain ⟨c0, c1, t0, t1, t2, _⟩ := HOF.out _ hJ2
  have HW1 := Lib.hid hw1
  have HW2 := Lib.hid hw2
  have HD := Lib.hid (And.intro hD hT)
  have HUS := Lib.hid hUs
  clear hn1 hk1 hr1 hz1 hs1 hn2 ht2 hw1 hw2 hD hT hr2 hz2 hrp hrz hUs
  have HV := Lib.hid (u_no (n := N) (s := s) (J := J) (I := I) (K := K) (.inr (.inl ⟨h3, .inr hJ⟩)))
  have e3 : ((K : Int) == 3) = false := by rw [beq_eq_false_iff_ne]; exact h3
  go_enter Try.func16, Try.ntmps16
  go_upto_region 1 with fail
  rw [← HW1.out, ← HW2.out, ← HD.out.2, ← HD.out.1]
  go_wp2_with fail
  refine (has_any g h N hN I w2 b2).mono ?_
  rintro e w3 ⟨rfl, hb3⟩
  rw [hI]
  have hJ3 := hJ2.step hb3
  clear c0 c1 t0 t1 t2 hb3 hJ2
  obtain ⟨c0, c1, t0, t1, t2, _⟩ := HOF.out _ hJ3
  go_wp2_with fail
  refine (has_any g h N hN J w3 b3).mono ?_
  rintro e w4 ⟨rfl, hb4⟩
  rw [hJ]
  have hJ4 := hJ3.step hb4
  clear c0 c1 t0 t1 t2 hb4 hJ3
  obtain ⟨c0, c1, t0, t1, t2, _⟩ := HOF.out _ hJ4
  go_wp2_with fail
  go_ret
  exact ⟨by rw [HV.out.1]; rfl, by rw [HV.out.2]; exact (HFIN.out _ hJ4).1, (HFIN.out _ hJ4).2⟩
set_option maxHeartbeats 4000000 in
theorem perform_same (g h N : Nat) (hN : N ≤ 200) (hgh : g ≠ h) (I J : Nat) (hin : In3 (2, (I : Int), (J : Int))) (hi : I < N) (hj : J < N) (s : Nat → Nat) (w : World) (hU : UM N s g h w) :
    Calls Try.prog 16 #[SetsV g h N, .agg #[.int .i64 2, .int .i64 (I : Int), .int .i64 (J : Int)]] w (PerfE N s g h (2, (I : Int), (J : Int)) w) := by
  obtain ⟨p, z, f, d, hUs, hrp, hrz⟩ := hU
  obtain ⟨b1, b2, b3⟩ := hin
  dsimp only at b1 b2 b3
  have hDg : w.heap.size ≠ g := by have := hrp.lt; omega
  have hDh : w.heap.size ≠ h := by have := hrz.lt; omega
  have hTg : w.heap.size + 1 ≠ g := by have := hrp.lt; omega
  have hTh : w.heap.size + 1 ≠ h := by have := hrz.lt; omega
  have hn1 := N2.new w g h N
  obtain ⟨w1, hw1⟩ : ∃ w1, w1 = w.alloc (.cells #[.slice (some ⟨g, 0, none⟩) N N, .slice (some ⟨h, 0, none⟩) N N] 39) := ⟨_, rfl⟩
  have hk1 : Keeps (fun b => b ≠ g ∧ b ≠ h) w w1 := by rw [hw1]; exact (Keeps.refl _ w).alloc _
  have hr1 : RowN w1 g N p := by rw [hw1]; exact hrp.alloc _
  have hz1 : RowN w1 h N z := by rw [hw1]; exact hrz.alloc _
  have hs1 : w1.heap.size = w.heap.size + 1 := by rw [hw1]; simp
  rw [← hw1] at hn1
  have hn2 : N2 w.heap.size g h N (w1.alloc (.cells #[.int .i64 2, .int .i64 (I : Int), .int .i64 (J : Int)] 32)) := hn1.keep (p := fun _ => True) ((Keeps.refl _ _).alloc _) trivial
  have ht2 : T3 w1.heap.size 2 (I : Int) (J : Int) (w1.alloc (.cells #[.int .i64 2, .int .i64 (I : Int), .int .i64 (J : Int)] 32)) := World.alloc_heap_new w1 _
  rw [hs1] at ht2
  obtain ⟨D, hD⟩ : ∃ D, D = w.heap.size := ⟨_, rfl⟩
  obtain ⟨T, hT⟩ : ∃ T, T = w.heap.size + 1 := ⟨_, rfl⟩
  obtain ⟨w2, hw2⟩ : ∃ w2, w2 = w1.alloc (.cells #[.int .i64 2, .int .i64 (I : Int), .int .i64 (J : Int)] 32) := ⟨_, rfl⟩
  have hk2 : Keeps (fun b => b ≠ g ∧ b ≠ h) w w2 := by rw [hw2]; exact hk1.alloc _
  have hr2 : RowN w2 g N p := by rw [hw2]; exact hr1.alloc _
  have hz2 : RowN w2 h N z := by rw [hw2]; exact hz1.alloc _
  rw [← hD] at hn2 hDg hDh
  rw [← hT] at hTg hTh ht2
  rw [← hw2] at hn2 ht2
  have hJ2 : JR N p z f d D g h w2 w2 := ⟨⟨p, hUs.fr, fun _ => Iff.rfl, hr2⟩, hz2, hn2, Keeps.refl _ _⟩
  have HOF := Lib.hid (fun W (k : JR N p z f d D g h w2 W) => HeldP.of ht2 hTg hTh k)
  have HRT := Lib.hid (fun W x hx (k : HeldP N p z f d D T g h 2 (I : Int) (J : Int) w2 W) => (root_held g h N hN p z f d D hgh hDg w2 W x hx (HeldJ.of k.2.2.2.2.2)))
  have HFIN : Hid (∀ W, JR N p z f d D g h w2 W → UM N s g h W ∧ Keeps (fun b => b ≠ g ∧ b ≠ h) w W) := Lib.hid fun W k => ⟨k.um hUs, hk2.trans k.2.2.2⟩
  obtain ⟨c0, c1, t0, t1, t2, _⟩ := HOF.out _ hJ2
  have HW1 := Lib.hid hw1
  have HW2 := Lib.hid hw2
  have HD := Lib.hid (And.intro hD hT)
  have HUS := Lib.hid hUs
  clear hn1 hk1 hr1 hz1 hs1 hn2 ht2 hw1 hw2 hD hT hr2 hz2 hrp hrz hUs
  have hI : inS N (I : Int) = true := by rw [inS_nat]; simp [hi]
  have hJ : inS N (J : Int) = true := by rw [inS_nat]; simp [hj]
  have HV := Lib.hid (u_same (n := N) (s := s) hi hj)
  go_enter Try.func16, Try.ntmps16
  go_upto_region 1 with fail
  rw [← HW1.out, ← HW2.out, ← HD.out.2, ← HD.out.1]
  go_wp2_with fail
  refine (has_any g h N hN (I : Int) w2 b2).mono ?_
  rintro e w3 ⟨rfl, hb3⟩
  rw [hI]
  have hJ3 := hJ2.step hb3
  clear c0 c1 t0 t1 t2 hb3 hJ2
  obtain ⟨c0, c1, t0, t1, t2, _⟩ := HOF.out _ hJ3
  go_wp2_with fail
  refine (has_any g h N hN (J : Int) w3 b3).mono ?_
  rintro e w4 ⟨rfl, hb4⟩
  rw [hJ]
  have hJ4 := hJ3.step hb4
  clear c0 c1 t0 t1 t2 hb4 hJ3
  obtain ⟨c0, c1, t0, t1, t2, _⟩ := HOF.out _ hJ4
  have HSM := Lib.hid (HUS.out.same I J hi hj)
  have HIJ := Lib.hid (And.intro hi hj)
  have HRT2 := Lib.hid (show ∀ W x, x < N → HeldP N p z f d D T g h 2 (I : Int) (J : Int) w2 W → Calls Try.prog 18 #[SetsV g h N, .int .i64 (x : Int)] W (fun e W' => e = .returned (.int .i64 ((f x : Nat) : Int)) ∧ HeldP N p z f d D T g h 2 (I : Int) (J : Int) w2 W') from fun W x hx k => (HRT.out W x hx k).mono fun e W' q => ⟨q.1, HOF.out _ q.2.2.2⟩)
  have hh4 := HOF.out _ hJ4
  obtain ⟨a, ha⟩ : ∃ a, a = f I := ⟨_, rfl⟩
  obtain ⟨b, hb⟩ : ∃ b, b = f J := ⟨_, rfl⟩
  have HA := Lib.hid ha
  have HB := Lib.hid hb
  obtain ⟨V, hV⟩ : ∃ V : Int, V = if s I = s J then 1 else 0 := ⟨_, rfl⟩
  have HVV := Lib.hid hV
  have HAB : Hid ((if ((a : Int) == (b : Int)) = true then (1 : Int) else 0) = V) := Lib.hid (by
    rw [hV]
    by_cases e : s I = s J
    · have := HSM.out.2 e
      rw [if_pos e, ha, hb, this, if_pos (by simp)]
    · rw [if_neg e, if_neg (fun h => e (HSM.out.1 (by
        rw [beq_iff_eq] at h
        omega)))])
  clear hi hj hI hJ ha hb hV
  go_upto_region 8 with fail
  go_cut [4] from 33 to 42 (fun t wx => t = .int .i64 V ∧ JR N p z f d D g h w2 wx)
  case first =>
    go_region_held3 (HeldP N p z f d D T g h 2 (I : Int) (J : Int) w2)
      (first
        | (go_split_ands; refine ⟨?_, ?_, ?_, ?_, ?_, ?_⟩ <;> assumption)
        | (go_split_ands; refine ⟨?_, ?_, ?_, ?_, ?_, JR.drew ?_⟩ <;> assumption))
      (first
        | (go_at_call 18; with_reducible refine (HRT2.out _ _ HIJ.out.1 (by assumption)).mono ?_; rintro e w6 ⟨rfl, h6⟩; rw [← HA.out])
        | (go_at_call 18; with_reducible refine (HRT2.out _ _ HIJ.out.2 (by assumption)).mono ?_; rintro e w6 ⟨rfl, h6⟩; rw [← HB.out])
        | (go_at_call 19; refine (number_any _ _).mono ?_; rintro e w8 ⟨rfl, rfl⟩; rw [HAB.out]))
    all_goals
      go_wp2_with fail
      go_meet
      case rel => exact ⟨rfl, by first | exact (And.right (And.right (And.right (And.right (And.right (by assumption : HeldP N p z f d D T g h 2 (I : Int) (J : Int) w2 _))))))⟩
  case rest =>
    obtain ⟨rfl, hJ5⟩ := hcut
    go_wp2_with fail
    go_ret
    exact ⟨by rw [HV.out.1, ← HVV.out]; rfl, by rw [HV.out.2]; exact (HFIN.out _ hJ5).1, (HFIN.out _ hJ5).2⟩
set_option maxHeartbeats 4000000 in
theorem perform_join (g h N : Nat) (hN : N ≤ 200) (hgh : g ≠ h) (I J : Nat) (hin : In3 (1, (I : Int), (J : Int))) (hi : I < N) (hj : J < N) (s : Nat → Nat) (w : World) (hU : UM N s g h w) :
    Calls Try.prog 16 #[SetsV g h N, .agg #[.int .i64 1, .int .i64 (I : Int), .int .i64 (J : Int)]] w (PerfE N s g h (1, (I : Int), (J : Int)) w) := by
  obtain ⟨p, z, f, d, hUs, hrp, hrz⟩ := hU
  obtain ⟨b1, b2, b3⟩ := hin
  dsimp only at b1 b2 b3
  have hDg : w.heap.size ≠ g := by have := hrp.lt; omega
  have hDh : w.heap.size ≠ h := by have := hrz.lt; omega
  have hTg : w.heap.size + 1 ≠ g := by have := hrp.lt; omega
  have hTh : w.heap.size + 1 ≠ h := by have := hrz.lt; omega
  have hn1 := N2.new w g h N
  obtain ⟨w1, hw1⟩ : ∃ w1, w1 = w.alloc (.cells #[.slice (some ⟨g, 0, none⟩) N N, .slice (some ⟨h, 0, none⟩) N N] 39) := ⟨_, rfl⟩
  have hk1 : Keeps (fun b => b ≠ g ∧ b ≠ h) w w1 := by rw [hw1]; exact (Keeps.refl _ w).alloc _
  have hr1 : RowN w1 g N p := by rw [hw1]; exact hrp.alloc _
  have hz1 : RowN w1 h N z := by rw [hw1]; exact hrz.alloc _
  have hs1 : w1.heap.size = w.heap.size + 1 := by rw [hw1]; simp
  rw [← hw1] at hn1
  have hn2 : N2 w.heap.size g h N (w1.alloc (.cells #[.int .i64 1, .int .i64 (I : Int), .int .i64 (J : Int)] 32)) := hn1.keep (p := fun _ => True) ((Keeps.refl _ _).alloc _) trivial
  have ht2 : T3 w1.heap.size 1 (I : Int) (J : Int) (w1.alloc (.cells #[.int .i64 1, .int .i64 (I : Int), .int .i64 (J : Int)] 32)) := World.alloc_heap_new w1 _
  rw [hs1] at ht2
  obtain ⟨D, hD⟩ : ∃ D, D = w.heap.size := ⟨_, rfl⟩
  obtain ⟨T, hT⟩ : ∃ T, T = w.heap.size + 1 := ⟨_, rfl⟩
  obtain ⟨w2, hw2⟩ : ∃ w2, w2 = w1.alloc (.cells #[.int .i64 1, .int .i64 (I : Int), .int .i64 (J : Int)] 32) := ⟨_, rfl⟩
  have hk2 : Keeps (fun b => b ≠ g ∧ b ≠ h) w w2 := by rw [hw2]; exact hk1.alloc _
  have hr2 : RowN w2 g N p := by rw [hw2]; exact hr1.alloc _
  have hz2 : RowN w2 h N z := by rw [hw2]; exact hz1.alloc _
  rw [← hD] at hn2 hDg hDh
  rw [← hT] at hTg hTh ht2
  rw [← hw2] at hn2 ht2
  have hJ2 : JR N p z f d D g h w2 w2 := ⟨⟨p, hUs.fr, fun _ => Iff.rfl, hr2⟩, hz2, hn2, Keeps.refl _ _⟩
  have HOF := Lib.hid (fun W (k : JR N p z f d D g h w2 W) => HeldP.of ht2 hTg hTh k)
  have HRT := Lib.hid (fun W x hx (k : HeldP N p z f d D T g h 1 (I : Int) (J : Int) w2 W) => (root_held g h N hN p z f d D hgh hDg w2 W x hx (HeldJ.of k.2.2.2.2.2)))
  have HFIN : Hid (∀ W, JR N p z f d D g h w2 W → UM N s g h W ∧ Keeps (fun b => b ≠ g ∧ b ≠ h) w W) := Lib.hid fun W k => ⟨k.um hUs, hk2.trans k.2.2.2⟩
  obtain ⟨c0, c1, t0, t1, t2, _⟩ := HOF.out _ hJ2
  have HW1 := Lib.hid hw1
  have HW2 := Lib.hid hw2
  have HD := Lib.hid (And.intro hD hT)
  have HUS := Lib.hid hUs
  clear hn1 hk1 hr1 hz1 hs1 hn2 ht2 hw1 hw2 hD hT hr2 hz2 hrp hrz hUs
  have hI : inS N (I : Int) = true := by rw [inS_nat]; simp [hi]
  have hJ : inS N (J : Int) = true := by rw [inS_nat]; simp [hj]
  have HV := Lib.hid (u_join (n := N) (s := s) hi hj)
  go_enter Try.func16, Try.ntmps16
  go_upto_region 1 with fail
  rw [← HW1.out, ← HW2.out, ← HD.out.2, ← HD.out.1]
  go_wp2_with fail
  refine (has_any g h N hN (I : Int) w2 b2).mono ?_
  rintro e w3 ⟨rfl, hb3⟩
  rw [hI]
  have hJ3 := hJ2.step hb3
  clear c0 c1 t0 t1 t2 hb3 hJ2
  obtain ⟨c0, c1, t0, t1, t2, _⟩ := HOF.out _ hJ3
  go_wp2_with fail
  refine (has_any g h N hN (J : Int) w3 b3).mono ?_
  rintro e w4 ⟨rfl, hb4⟩
  rw [hJ]
  have hJ4 := hJ3.step hb4
  clear c0 c1 t0 t1 t2 hb4 hJ3
  obtain ⟨c0, c1, t0, t1, t2, _⟩ := HOF.out _ hJ4
  have HIJ := Lib.hid (And.intro hi hj)
  obtain ⟨V, hV⟩ : ∃ V : Int, V = if s I = s J then 0 else 1 := ⟨_, rfl⟩
  have HVV := Lib.hid hV
  have HAB : Hid ((if (!decide (s I = s J)) = true then (1 : Int) else 0) = V) := Lib.hid (by rw [hV]; by_cases e : s I = s J <;> simp [e])
  clear hV
  clear hi hj hI hJ
  go_wp2_with fail
  refine (join_any g h N hN hgh I J HIJ.out.1 HIJ.out.2 s w4 (HFIN.out _ hJ4).1).mono ?_
  rintro e w5 ⟨rfl, hU5, hk5⟩
  have HU5 := Lib.hid (And.intro hU5 ((HFIN.out _ hJ4).2.trans hk5))
  clear hU5 hk5 hJ4 c0 c1 t0 t1 t2
  go_wp2_with fail
  refine (number_any _ w5).mono ?_
  rintro e w8 ⟨rfl, rfl⟩
  rw [HAB.out]
  go_wp2_with fail
  go_ret
  exact ⟨by rw [HV.out.1, ← HVV.out]; rfl, by rw [HV.out.2]; exact HU5.out.1, HU5.out.2⟩
set_option maxHeartbeats 4000000 in
theorem perform_noK (g h N : Nat) (hN : N ≤ 200) (hgh : g ≠ h) (K I J : Int) (hin : In3 (K, I, J)) (hI : inS N I = true) (hJ : inS N J = true) (h1 : K ≠ 1) (h2 : K ≠ 2) (h3 : K ≠ 3) (s : Nat → Nat) (w : World) (hU : UM N s g h w) :
    Calls Try.prog 16 #[SetsV g h N, .agg #[.int .i64 K, .int .i64 I, .int .i64 J]] w (PerfE N s g h (K, I, J) w) := by
  obtain ⟨p, z, f, d, hUs, hrp, hrz⟩ := hU
  obtain ⟨b1, b2, b3⟩ := hin
  dsimp only at b1 b2 b3
  have hDg : w.heap.size ≠ g := by have := hrp.lt; omega
  have hDh : w.heap.size ≠ h := by have := hrz.lt; omega
  have hTg : w.heap.size + 1 ≠ g := by have := hrp.lt; omega
  have hTh : w.heap.size + 1 ≠ h := by have := hrz.lt; omega
  have hn1 := N2.new w g h N
  obtain ⟨w1, hw1⟩ : ∃ w1, w1 = w.alloc (.cells #[.slice (some ⟨g, 0, none⟩) N N, .slice (some ⟨h, 0, none⟩) N N] 39) := ⟨_, rfl⟩
  have hk1 : Keeps (fun b => b ≠ g ∧ b ≠ h) w w1 := by rw [hw1]; exact (Keeps.refl _ w).alloc _
  have hr1 : RowN w1 g N p := by rw [hw1]; exact hrp.alloc _
  have hz1 : RowN w1 h N z := by rw [hw1]; exact hrz.alloc _
  have hs1 : w1.heap.size = w.heap.size + 1 := by rw [hw1]; simp
  rw [← hw1] at hn1
  have hn2 : N2 w.heap.size g h N (w1.alloc (.cells #[.int .i64 K, .int .i64 I, .int .i64 J] 32)) := hn1.keep (p := fun _ => True) ((Keeps.refl _ _).alloc _) trivial
  have ht2 : T3 w1.heap.size K I J (w1.alloc (.cells #[.int .i64 K, .int .i64 I, .int .i64 J] 32)) := World.alloc_heap_new w1 _
  rw [hs1] at ht2
  obtain ⟨D, hD⟩ : ∃ D, D = w.heap.size := ⟨_, rfl⟩
  obtain ⟨T, hT⟩ : ∃ T, T = w.heap.size + 1 := ⟨_, rfl⟩
  obtain ⟨w2, hw2⟩ : ∃ w2, w2 = w1.alloc (.cells #[.int .i64 K, .int .i64 I, .int .i64 J] 32) := ⟨_, rfl⟩
  have hk2 : Keeps (fun b => b ≠ g ∧ b ≠ h) w w2 := by rw [hw2]; exact hk1.alloc _
  have hr2 : RowN w2 g N p := by rw [hw2]; exact hr1.alloc _
  have hz2 : RowN w2 h N z := by rw [hw2]; exact hz1.alloc _
  rw [← hD] at hn2 hDg hDh
  rw [← hT] at hTg hTh ht2
  rw [← hw2] at hn2 ht2
  have hJ2 : JR N p z f d D g h w2 w2 := ⟨⟨p, hUs.fr, fun _ => Iff.rfl, hr2⟩, hz2, hn2, Keeps.refl _ _⟩
  have HOF := Lib.hid (fun W (k : JR N p z f d D g h w2 W) => HeldP.of ht2 hTg hTh k)
  have HRT := Lib.hid (fun W x hx (k : HeldP N p z f d D T g h K I J w2 W) => (root_held g h N hN p z f d D hgh hDg w2 W x hx (HeldJ.of k.2.2.2.2.2)))
  have HFIN : Hid (∀ W, JR N p z f d D g h w2 W → UM N s g h W ∧ Keeps (fun b => b ≠ g ∧ b ≠ h) w W) := Lib.hid fun W k => ⟨k.um hUs, hk2.trans k.2.2.2⟩
  obtain ⟨c0, c1, t0, t1, t2, _⟩ := HOF.out _ hJ2
  have HW1 := Lib.hid hw1
  have HW2 := Lib.hid hw2
  have HD := Lib.hid (And.intro hD hT)
  have HUS := Lib.hid hUs
  clear hn1 hk1 hr1 hz1 hs1 hn2 ht2 hw1 hw2 hD hT hr2 hz2 hrp hrz hUs
  have HV := Lib.hid (u_no (n := N) (s := s) (J := J) (I := I) (K := K) (.inl ⟨h1, h2, .inl h3⟩))
  have e3 : ((K : Int) == 3) = false := by rw [beq_eq_false_iff_ne]; exact h3
  have e2 : ((K : Int) == 2) = false := by rw [beq_eq_false_iff_ne]; exact h2
  have e1 : ((K : Int) == 1) = false := by rw [beq_eq_false_iff_ne]; exact h1
  go_enter Try.func16, Try.ntmps16
  go_upto_region 1 with fail
  rw [← HW1.out, ← HW2.out, ← HD.out.2, ← HD.out.1]
  go_wp2_with fail
  refine (has_any g h N hN I w2 b2).mono ?_
  rintro e w3 ⟨rfl, hb3⟩
  rw [hI]
  have hJ3 := hJ2.step hb3
  clear c0 c1 t0 t1 t2 hb3 hJ2
  obtain ⟨c0, c1, t0, t1, t2, _⟩ := HOF.out _ hJ3
  go_wp2_with fail
  refine (has_any g h N hN J w3 b3).mono ?_
  rintro e w4 ⟨rfl, hb4⟩
  rw [hJ]
  have hJ4 := hJ3.step hb4
  clear c0 c1 t0 t1 t2 hb4 hJ3
  obtain ⟨c0, c1, t0, t1, t2, _⟩ := HOF.out _ hJ4
  go_wp2_with fail
  go_ret
  exact ⟨by rw [HV.out.1]; rfl, by rw [HV.out.2]; exact (HFIN.out _ hJ4).1, (HFIN.out _ hJ4).2⟩

theorem perform_any (g h N : Nat) (hN : N ≤ 200) (hgh : g ≠ h) (K I J : Int) (hin : In3 (K, I, J)) (s : Nat → Nat) (w : World) (hU : UM N s g h w) :
    Calls Try.prog 16 #[SetsV g h N, .agg #[.int .i64 K, .int .i64 I, .int .i64 J]] w (PerfE N s g h (K, I, J) w) := by
  cases hI : inS N I with
  | false => exact perform_noI g h N hN hgh K I J hin hI s w hU
  | true =>
    obtain ⟨i, rfl⟩ : ∃ i : Nat, I = (i : Int) := ⟨I.toNat, by have := inS_iff.1 hI; omega⟩
    by_cases h3 : K = 3
    · subst h3
      exact perform_size g h N hN hgh i J hin (inS_of hI) s w hU
    · cases hJ : inS N J with
      | false => exact perform_noJ g h N hN hgh K i J hin hI hJ h3 s w hU
      | true =>
        obtain ⟨j, rfl⟩ : ∃ j : Nat, J = (j : Int) := ⟨J.toNat, by have := inS_iff.1 hJ; omega⟩
        by_cases h2 : K = 2
        · subst h2
          exact perform_same g h N hN hgh i j hin (inS_of hI) (inS_of hJ) s w hU
        · by_cases h1 : K = 1
          · subst h1
            exact perform_join g h N hN hgh i j hin (inS_of hI) (inS_of hJ) s w hU
          · exact perform_noK g h N hN hgh K i j hin hI hJ h1 h2 h3 s w hU
end Go.Proofs.Ytafhljjekpaehaa
