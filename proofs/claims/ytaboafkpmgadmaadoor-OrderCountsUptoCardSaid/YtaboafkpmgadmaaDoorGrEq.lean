/-
  Contracts of slices.Equal, Index and Contains over edges, and of forkwrightref.SameGraph on the same graph.
-/
import Derived.Test.YtaboafkpmgadmaaDoorGrCl
namespace Go.Proofs.YtaboafkpmgadmaaDoor
open Go.RowKit Go.Shelf


/-- the first place of an edge -/
def FirstE (es : List (Int × Int)) (v : Int × Int) (k0 : Nat) : Prop := k0 < es.length ∧ ed es k0 = v ∧ ∀ j, j < k0 → ed es j ≠ v
theorem firstE_of_mem : ∀ {es : List (Int × Int)} {v : Int × Int}, v ∈ es → ∃ k, FirstE es v k
  | [], _, h => by simp at h
  | z :: zs, v, h => by
    by_cases e : z = v
    · exact ⟨0, by simp, by simpa [ed] using e, fun j hj => by omega⟩
    · have h2 : v ∈ zs := by
        rcases List.mem_cons.1 h with h | h
        · exact absurd h.symm e
        · exact h
      obtain ⟨k, h3, h4, h5⟩ := firstE_of_mem h2
      refine ⟨k + 1, by simp; omega, by simpa [ed] using h4, fun j hj => ?_⟩
      cases j with
      | zero => simpa [ed] using e
      | succ j =>
        have := h5 j (by omega)
        simpa [ed] using this

set_option maxHeartbeats 1000000 in
theorem indexE_yes (A : Option Addr) (c : Nat) (es : List (Int × Int)) (x y : Int) (k0 : Nat) (w : World) (hx : RdE w w.heap.size A es) (hv : FirstE es (x, y) k0) :
    Calls Tryd.prog 65 #[.slice A es.length c, .agg #[.int .i64 x, .int .i64 y]] w fun e w' => e = .returned (.int .i64 (k0 : Int)) ∧ Below w.heap.size w w' := by
  obtain ⟨hk0, hz0, hmin⟩ := hv
  have hr := hx.room
  go_enter Tryd.func65, Tryd.ntmps65
  go_wp2
  have hE := EBox.new w x y 38
  obtain ⟨w1, hw1⟩ : ∃ w1, w1 = w.alloc (.cells #[.int .i64 x, .int .i64 y] 38) := ⟨_, rfl⟩
  have hb1 : Below w.heap.size w w1 := by rw [hw1]; exact below_alloc _ _
  rw [← hw1] at hE ⊢
  have hx1 := hx.step hb1
  obtain ⟨B, hB⟩ : ∃ B, B = w.heap.size := ⟨_, rfl⟩
  rw [← hB] at hE ⊢
  have HB := Lib.hid hB
  have HM := Lib.hid hmin
  have HZ := Lib.hid hz0
  have hex := hE.x
  have hey := hE.y
  clear hw1 hB hmin hx hz0 hE
  go_loopw [8] (fun i wr => ∃ k n : Nat, k ≤ k0 ∧ i = .int .i64 k ∧ wr = w1.drewN n) (fun i _ => es.length - (intOf i).toNat)
  case atStart => exact ⟨0, 0, Nat.zero_le _, rfl, rfl⟩
  case round =>
    obtain ⟨k, n, hk, rfl, rfl⟩ := hrel
    have hlt : k < es.length := by omega
    obtain ⟨b, off, rfl, _, hc⟩ := hx1.rd (by omega)
    obtain ⟨ha1, ha2⟩ := hc k hlt
    clear hc
    by_cases hkk : k = k0
    · subst hkk
      have h1 : (ed es k).1 = x := by rw [HZ.out]
      have h2 : (ed es k).2 = y := by rw [HZ.out]
      rw [h1] at ha1
      rw [h2] at ha2
      clear h1 h2
      go_wp2
      go_quiet (fail)
      go_wp2
      go_ret
      exact ⟨rfl, below_drewN (below_drewN hb1 _) _⟩
    · have hne := HM.out k (by omega)
      have hk1 : k + 1 ≤ k0 := by omega
      obtain ⟨p, hp⟩ : ∃ p, p = (ed es k).1 := ⟨_, rfl⟩
      obtain ⟨q, hq⟩ : ∃ q, q = (ed es k).2 := ⟨_, rfl⟩
      rw [← hp] at ha1
      rw [← hq] at ha2
      by_cases e : x = p
      · have e2 : (y == q) = false := by
          rw [beq_eq_false_iff_ne]
          intro e2
          exact hne (Prod.ext (by rw [← hp, e]) (by rw [← hq, e2]))
        subst e
        clear hne hp hq hkk
        go_wp2
        go_quiet (fail)
        go_wp2
        go_roundw
        case rel => exact ⟨k + 1, _, by omega, by go_num, rfl⟩
        case measure => simp [intOf]; omega
      · have e1 : (x == p) = false := by
          rw [beq_eq_false_iff_ne]
          exact e
        clear hne hp hq hkk e
        go_wp2
        go_quiet (fail)
        go_wp2
        go_roundw
        case rel => exact ⟨k + 1, _, by omega, by go_num, rfl⟩
        case measure => simp [intOf]; omega

theorem containsE_yes (A : Option Addr) (c : Nat) (es : List (Int × Int)) (x y : Int) (w : World) (hx : RdE w w.heap.size A es) (hv : (x, y) ∈ es) :
    Calls Tryd.prog 28 #[.slice A es.length c, .agg #[.int .i64 x, .int .i64 y]] w fun e w' => e = .returned (.bool true) ∧ Below w.heap.size w w' := by
  obtain ⟨k, hk⟩ := firstE_of_mem hv
  go_enter Tryd.func28, Tryd.ntmps28
  go_wp2_with fail
  have hb1 := below_alloc w (.cells #[.int .i64 x, .int .i64 y] 38)
  obtain ⟨w1, hw1⟩ : ∃ w1, w1 = w.alloc (.cells #[.int .i64 x, .int .i64 y] 38) := ⟨_, rfl⟩
  rw [← hw1] at hb1 ⊢
  refine (indexE_yes A c es x y k _ (hx.step hb1) hk).mono ?_
  rintro e w2 ⟨rfl, hb2⟩
  have hk0 : (0 : Int) ≤ (k : Int) := Int.natCast_nonneg _
  have hB := hb1.trans (hb2.mono hb1.size)
  clear hw1 hk hv
  go_wp2
  go_ret
  exact ⟨rfl, hB⟩

end Go.Proofs.YtaboafkpmgadmaaDoor
