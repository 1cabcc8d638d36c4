/-
  The law BitsetWithin answers true, for every three slices of at most 2^20 words, where the library's table holds its own numbers.
-/
import Derived.Test.YtfpgdkbgmmpncaaDoorBsAlive
import Derived.Test.YtfpgdkbgmmpncaaDoorBsAlg
namespace Go.Proofs.YtfpgdkbgmmpncaaDoor
open Go.RowKit

theorem rdU_nil (w : World) : RdU w w.heap.size none [] := ⟨fun k => by simp [wd], by simp, fun h => absurd h (by simp)⟩

theorem orNil_any (A : Option Addr) (c : Nat) (xs : List Nat) (w : World) (hx : RdU w w.heap.size A xs) (hxl : xs.length ≤ 35184372088832) :
    Calls Tryd.prog 16 #[.slice A xs.length c, .slice none 0 0] w fun e w' => ∃ A1 c1, e = .returned (.slice A1 (mrg orN xs []).length c1) ∧ RdU w' w'.heap.size A1 (mrg orN xs []) ∧ Below w.heap.size w w' :=
  oporN_any A none c 0 xs [] w hx (rdU_nil w) hxl (by simp)

set_option maxHeartbeats 4000000 in
theorem withinLaw_any (A B C : Option Addr) (ca cb cc : Nat) (xs ys us : List Nat) (w : World) (hx : RdU w w.heap.size A xs) (hy : RdU w w.heap.size B ys) (hu : RdU w w.heap.size C us)
    (hxl : xs.length ≤ 1048576) (hyl : ys.length ≤ 1048576) (hul : us.length ≤ 1048576) (hT : Tab w) :
    Calls Tryd.prog 7 #[.slice A xs.length ca, .slice B ys.length cb, .slice C us.length cc] w fun e w' => e = .returned (.bool true) ∧ Below w.heap.size w w' := by
  have q1 := inB_self hx.lt
  have q2 := inB_and hu.lt hx.lt hy.lt
  have q3 := inB_or hu.lt hx.lt hy.lt
  have q4 := fun h1 h2 => inB_trans hx.lt hy.lt hu.lt h1 h2
  have q5 := inB_eq hx.lt hy.lt
  have l1 := mrg_le andN xs ys
  have l2 := mrg_le orN xs ys
  have Q := Lib.hid (And.intro q1 (And.intro q2 (And.intro q3 (And.intro q4 (And.intro q5 (And.intro l1 l2))))))
  clear q1 q2 q3 q4 q5 l1 l2
  go_enter Tryd.func7, Tryd.ntmps7
  go_wp2_with fail
  have hs := Nat.le_refl w.heap.size
  refine (alive_any w hT).mono ?_
  rintro e w1 ⟨rfl, hB⟩
  replace hx := hx.step hB
  replace hy := hy.step hB
  replace hu := hu.step hB
  replace hs := hB.size
  clear hT
  cases ha : inB us xs <;> cases hb : inB us ys <;> cases hc : inB xs us <;> cases hd : inB ys us <;> cases he : inB xs ys
  all_goals
    obtain ⟨q1, q2, q3, q4, q5, l1, l2⟩ := Q.out
    rw [ha, hb] at q2
    rw [hc, hd] at q3
    rw [he] at q5
    first | (exact absurd (q4 he hd) (by rw [hc]; decide)) | skip
  all_goals
    clear q4
    repeat (go_wp2_with fail; first
      | (with_reducible refine (within_any C A cc ca us xs _ hu hx).mono ?_; rw [ha]; rintro e w' ⟨rfl, rfl⟩)
      | (with_reducible refine (within_any C B cc cb us ys _ hu hy).mono ?_; rw [hb]; rintro e w' ⟨rfl, rfl⟩)
      | (with_reducible refine (within_any A C ca cc xs us _ hx hu).mono ?_; rw [hc]; rintro e w' ⟨rfl, rfl⟩)
      | (with_reducible refine (within_any B C cb cc ys us _ hy hu).mono ?_; rw [hd]; rintro e w' ⟨rfl, rfl⟩)
      | (with_reducible refine (within_any A A ca ca xs xs _ hx hx).mono ?_; rw [q1]; rintro e w' ⟨rfl, rfl⟩)
      | (with_reducible refine (within_any A B ca cb xs ys _ hx hy).mono ?_; rw [he]; rintro e w' ⟨rfl, rfl⟩)
      | (with_reducible refine (within_any B A cb ca ys xs _ hy hx).mono ?_; rintro e w' ⟨rfl, rfl⟩)
      | (with_reducible refine (within_any C A6 cc c6 us _ _ hu r6).mono ?_; rw [q2]; rintro e w' ⟨rfl, rfl⟩)
      | (with_reducible refine (within_any A7 C c7 cc _ us _ r7 hu).mono ?_; rw [q3]; rintro e w' ⟨rfl, rfl⟩)
      | (with_reducible refine (opandN_any A B ca cb xs ys _ hx hy (by omega) (by omega)).mono ?_; rintro e w6 ⟨A6, c6, rfl, r6, hb⟩; replace hx := hx.step hb; replace hy := hy.step hb; replace hu := hu.step hb; replace hB := below_step hB hs hb; replace hs := hB.size; clear hb)
      | (with_reducible refine (oporN_any A B ca cb xs ys _ hx hy (by omega) (by omega)).mono ?_; rintro e w7 ⟨A7, c7, rfl, r7, hb⟩; replace hx := hx.step hb; replace hy := hy.step hb; replace hu := hu.step hb; replace hB := below_step hB hs hb; replace hs := hB.size; clear hb)
      | (with_reducible refine (orNil_any A ca xs _ hx (by omega)).mono ?_; rintro e w8 ⟨A8, c8, rfl, r8, hb⟩; replace hx := hx.step hb; replace hy := hy.step hb; replace hu := hu.step hb; replace hB := below_step hB hs hb; replace hs := hB.size; clear hb)
      | (with_reducible refine (orNil_any B cb ys _ hy (by omega)).mono ?_; rintro e w9 ⟨A9, c9, rfl, r9, hb⟩; replace hx := hx.step hb; replace hy := hy.step hb; replace hu := hu.step hb; replace r8 := r8.step hb; replace hB := below_step hB hs hb; replace hs := hB.size; clear hb)
      | (with_reducible refine (equalU_b A8 A9 c8 c9 _ _ _ r8 r9).mono ?_; rw [q5]; rintro e w9 ⟨rfl, hb⟩; replace hx := hx.step hb; replace hy := hy.step hb; replace hu := hu.step hb; replace hB := below_step hB hs hb; replace hs := hB.size; clear hb))
    go_wp2
    go_ret
    exact ⟨rfl, hB⟩
end Go.Proofs.YtfpgdkbgmmpncaaDoor
