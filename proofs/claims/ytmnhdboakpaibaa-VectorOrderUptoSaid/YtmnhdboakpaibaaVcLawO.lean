/-
  The law VectorOrder answers true, for every three slices of at most 2^20 words.
-/
import Derived.Test.YtmnhdboakpaibaaVcAl
namespace Go.Proofs.Ytmnhdboakpaibaa
open Go.RowKit Go.Shelf
set_option maxRecDepth 100000

set_option maxHeartbeats 4000000 in
theorem vorder_any (A B C : Option Addr) (ca cb cc : Nat) (xs ys us : List Nat) (w : World) (hx : RdU w w.heap.size A xs) (hy : RdU w w.heap.size B ys) (hu : RdU w w.heap.size C us) (hca : xs.length ≤ ca) (hcb : ys.length ≤ cb) (_hcc : us.length ≤ cc) (hxl : xs.length ≤ 1048576) (hyl : ys.length ≤ 1048576) (_hul : us.length ≤ 1048576) :
    Calls Try.prog 5 #[.slice A xs.length ca, .slice B ys.length cb, .slice C us.length cc] w fun e w' => e = .returned (.bool true) ∧ Below w.heap.size w w' := by
  have hB := Below.refl w.heap.size w
  have hs := Nat.le_refl w.heap.size
  go_enter Try.func5, Try.ntmps5
  go_wp2_with fail
  refine (alive7_any _).mono ?_
  rintro e w1 ⟨rfl, hb⟩
  replace hx := hx.step hb; replace hy := hy.step hb; replace hu := hu.step hb; replace hB := below_step hB hs hb; replace hs := hB.size; clear hb
  have q1 := vIn_self xs
  cases ha : vIn xs ys <;> cases hb : vIn ys us <;> cases hc : vIn xs us <;> cases hd : vIn ys xs
  all_goals
    have q2 := vIn_both xs ys
    rw [ha, hd] at q2
    simp only [Bool.and_true, Bool.and_false] at q2
    have Q2 := Lib.hid q2
    clear q2
    first | (exact absurd (vIn_trans ha hb) (by rw [hc]; decide)) | skip
  all_goals
    repeat (go_wp2_with fail; first
      | (with_reducible refine (vin_any A A ca ca xs xs _ hx hx).mono ?_; rw [q1]; rintro e w' ⟨rfl, rfl⟩)
      | (with_reducible refine (vin_any A B ca cb xs ys _ hx hy).mono ?_; rw [ha]; rintro e w' ⟨rfl, rfl⟩)
      | (with_reducible refine (vin_any B C cb cc ys us _ hy hu).mono ?_; rw [hb]; rintro e w' ⟨rfl, rfl⟩)
      | (with_reducible refine (vin_any A C ca cc xs us _ hx hu).mono ?_; rw [hc]; rintro e w' ⟨rfl, rfl⟩)
      | (with_reducible refine (vin_any B A cb ca ys xs _ hy hx).mono ?_; rw [hd]; rintro e w' ⟨rfl, rfl⟩))
    go_wp2_with fail
    refine (joinNil_any A ca xs _ hx hca (by omega)).mono ?_
    rintro e w2 ⟨A8, c8, rfl, k8, r8, hb⟩
    replace hx := hx.step hb; replace hy := hy.step hb; replace hu := hu.step hb; replace hB := below_step hB hs hb; replace hs := hB.size; clear hb
    go_wp2_with fail
    refine (joinNil_any B cb ys _ hy hcb (by omega)).mono ?_
    rintro e w3 ⟨A9, c9, rfl, k9, r9, hb⟩
    replace hx := hx.step hb; replace hy := hy.step hb; replace hu := hu.step hb; replace r8 := r8.step hb; replace hB := below_step hB hs hb; replace hs := hB.size; clear hb
    go_wp2_with fail
    refine (equalU_b A8 A9 c8 c9 _ _ _ r8 r9).mono ?_
    rw [← Q2.out]
    rintro e w4 ⟨rfl, hb⟩
    replace hx := hx.step hb; replace hy := hy.step hb; replace hu := hu.step hb; replace r8 := r8.step hb; replace r9 := r9.step hb; replace hB := below_step hB hs hb; replace hs := hB.size; clear hb
    go_wp2
    go_ret
    exact ⟨rfl, hB⟩
end Go.Proofs.Ytmnhdboakpaibaa
