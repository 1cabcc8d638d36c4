/-
  The law BitsetLists answers true, for every slice of ints and every slice of words of at most 2^20, where the library's table holds its own numbers.
-/
import Derived.Test.YtfpgdkbgmmpncaaDoorBsAof
namespace Go.Proofs.YtfpgdkbgmmpncaaDoor
open Go.RowKit

set_option maxHeartbeats 2000000 in
theorem listsLaw_any (A B : Option Addr) (ca cb : Nat) (zs : List Int) (xs : List Nat) (w : World) (hz : RdI w w.heap.size A zs) (hx : RdU w w.heap.size B xs) (hzl : zs.length ≤ 1048576) (hxl : xs.length ≤ 1048576) (hT : Tab w) :
    Calls Tryd.prog 3 #[.slice A zs.length ca, .slice B xs.length cb] w fun e w' => e = .returned (.bool true) ∧ Below w.heap.size w w' := by
  have hol := ofS_len zs
  have hal := alist_le xs (64 * xs.length)
  go_enter Tryd.func3, Tryd.ntmps3
  go_wp2_with fail
  have hs := Nat.le_refl w.heap.size
  refine (of_any A ca zs _ hz).mono ?_
  rintro e w1 ⟨A1, c1, rfl, r1, hB⟩
  replace hz := hz.step hB
  replace hx := hx.step hB
  replace hT := hT.step hB
  replace hs := hB.size
  go_wp2_with fail
  refine (aof_any A ca zs _ hz hzl).mono ?_
  rintro e w2 ⟨v2, rfl, hown, hb⟩
  obtain ⟨A2, c2, rfl, r2⟩ := own_rdU hown (ofS_wd zs) (by omega)
  replace hx := hx.step hb
  replace r1 := r1.step hb
  replace hT := hT.step hb
  replace hB := below_step hB hs hb
  replace hs := hB.size
  clear hb hown hz
  go_wp2_with fail
  refine (equalU_same A1 A2 c1 c2 (ofS zs) _ r1 r2).mono ?_
  rintro e w3 ⟨rfl, hb⟩
  replace hx := hx.step hb
  replace hT := hT.step hb
  replace hB := below_step hB hs hb
  replace hs := hB.size
  clear hb r1 r2
  go_wp2_with fail
  refine (list_any B cb xs _ hx hxl hT).mono ?_
  rintro e w4 ⟨A4, c4, rfl, r4, hb⟩
  replace hx := hx.step hb
  replace hB := below_step hB hs hb
  replace hs := hB.size
  clear hb hT
  go_wp2_with fail
  refine (alist_any B cb xs _ hx hxl).mono ?_
  rintro e w5 ⟨v5, rfl, hown, hb⟩
  obtain ⟨A5, c5, rfl, r5⟩ := own_rdI hown (fun k => by have := alist_zd xs (64 * xs.length) k; omega) (fun k => by have := alist_zd xs (64 * xs.length) k; omega) (by omega)
  replace r4 := r4.step hb
  replace hB := below_step hB hs hb
  replace hs := hB.size
  clear hb hown hx
  go_wp2_with fail
  refine (equalI_same A4 A5 c4 c5 _ _ r4 r5).mono ?_
  rintro e w6 ⟨rfl, hb⟩
  replace hB := below_step hB hs hb
  clear hb r4 r5
  go_wp2
  go_ret
  exact ⟨rfl, hB⟩
end Go.Proofs.YtfpgdkbgmmpncaaDoor
