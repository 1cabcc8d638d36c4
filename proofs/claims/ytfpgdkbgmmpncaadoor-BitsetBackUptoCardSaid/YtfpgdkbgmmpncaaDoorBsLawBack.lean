/-
  The law BitsetBack answers true, for every slice of ints of at most 2^20, where the library's table holds its own numbers.
-/
import Derived.Test.YtfpgdkbgmmpncaaDoorBsOfMath
import Derived.Test.YtfpgdkbgmmpncaaDoorBsFind
namespace Go.Proofs.YtfpgdkbgmmpncaaDoor
open Go.RowKit

set_option maxHeartbeats 4000000 in
theorem backLaw_any (A : Option Addr) (ca : Nat) (zs : List Int) (w : World) (hz : RdI w w.heap.size A zs) (hzl : zs.length ≤ 1048576) (hT : Tab w) :
    Calls Tryd.prog 6 #[.slice A zs.length ca] w fun e w' => e = .returned (.bool true) ∧ Below w.heap.size w w' := by
  have hol := ofS_len zs
  have hll : (lst zs).length ≤ 65536 := Nat.le_trans (alist_le _ _) (by omega)
  have Hlst := Lib.hid (show alist (ofS zs) (64 * (ofS zs).length) = lst zs from rfl)
  have Hof := Lib.hid (of_lst zs)
  have Hup : Hid (∀ i, i + 1 < (lst zs).length → zd (lst zs) i < zd (lst zs) (i + 1)) := Lib.hid (fun i h => alist_up (ofS zs) (64 * (ofS zs).length) i h)
  have Hsub := Lib.hid (lst_sub zs)
  have Htail := Lib.hid (ofS_noTail zs)
  go_enter Tryd.func6, Tryd.ntmps6
  go_wp2_with fail
  have hs := Nat.le_refl w.heap.size
  refine (alive_any w hT).mono ?_
  rintro e w0 ⟨rfl, hB⟩
  replace hz := hz.step hB
  replace hT := hT.step hB
  replace hs := hB.size
  go_wp2_with fail
  refine (of_any A ca zs _ hz).mono ?_
  generalize ofS zs = xs at *
  generalize lst zs = ls at *
  rintro e w1 ⟨A1, c1, rfl, r1, hb⟩
  replace hz := hz.step hb
  replace hT := hT.step hb
  replace hB := below_step hB hs hb
  replace hs := hB.size
  clear hb
  go_wp2_with fail
  refine (list_any A1 c1 xs _ r1 (by omega) hT).mono ?_
  rw [Hlst.out]
  rintro e w2 ⟨A2, c2, rfl, r2, hb⟩
  replace hz := hz.step hb
  replace r1 := r1.step hb
  replace hB := below_step hB hs hb
  replace hs := hB.size
  clear hb Hlst hT
  have hl2 := r2.lo
  have hh2 := r2.hi
  go_wp2_with fail
  go_loopw [5] (fun i wr => ∃ j n : Nat, j ≤ ls.length ∧ i = .int .i64 ((j : Int) + 1) ∧ wr = w2.drewN n) (fun i _ => ls.length + 1 - (intOf i).toNat)
  case atStart => exact ⟨0, 0, Nat.zero_le _, rfl, rfl⟩
  case round =>
    obtain ⟨j, n, hj, rfl, rfl⟩ := hrel
    by_cases hlt : j + 1 < ls.length
    · obtain ⟨b, off, rfl, _, hc⟩ := r2.rd (by omega)
      have hc1 := hc j (by omega)
      have hc2 := hc (j + 1) hlt
      have hup := Hup.out j hlt
      have hb1 : decide (zd ls (j + 1) ≤ zd ls j) = false := by simp; omega
      clear hc hup
      go_wp2
      go_quiet (fail)
      go_wp2
      go_roundw
      case rel => exact ⟨j + 1, n + nq, by omega, by go_num, by first | rfl | exact World.drewN_drewN _ _ _⟩
      case measure => simp [intOf]; omega
    · have r3 : RdI (w2.drewN n) (w2.drewN n).heap.size A2 ls := r2.drewN n
      have z3 : RdI (w2.drewN n) (w2.drewN n).heap.size A zs := hz.drewN n
      have x3 : RdU (w2.drewN n) (w2.drewN n).heap.size A1 xs := r1.drewN n
      have B3 : Below w.heap.size w (w2.drewN n) := below_drewN hB n
      have s3 := B3.size
      clear r2 hz r1 hB hs
      go_wp2_with fail
      generalize w2.drewN n = w3 at *
      go_loop [32] (fun i => ∃ k : Nat, k ≤ ls.length ∧ i = .int .i64 k) (fun i => ls.length - (intOf i).toNat)
      case atStart => exact ⟨0, Nat.zero_le _, rfl⟩
      case round =>
        obtain ⟨k, hk, rfl⟩ := hrel
        by_cases hlt2 : k < ls.length
        · obtain ⟨b, off, rfl, _, hc⟩ := r3.rd (by omega)
          have hck := hc k hlt2
          have hin := Lib.hid (Hsub.out _ (zd_mem ls k hlt2))
          have q1 := hl2 k
          have q2 := hh2 k
          clear hc
          go_wp2_with fail
          refine (contains_any A ca zs (zd ls k) _ z3 hin.out q1 q2).mono ?_
          rintro e w' ⟨rfl, rfl⟩
          go_wp2
          go_round
          case rel => exact ⟨k + 1, by omega, by go_num⟩
          case measure => simp [intOf]; omega
        · have hrd := x3.rd
          go_wp2_with fail
          refine (of_any A2 c2 ls _ r3).mono ?_
          rw [Hof.out]
          rintro e w4 ⟨A4, c4, rfl, r4, hb⟩
          replace x3 := x3.step hb
          replace B3 := below_step B3 s3 hb
          replace s3 := B3.size
          clear hb r3 z3 hrd
          go_wp2_with fail
          refine (equalU_same A4 A1 c4 c1 xs _ r4 x3).mono ?_
          rintro e w5 ⟨rfl, hb⟩
          replace x3 := x3.step hb
          replace B3 := below_step B3 s3 hb
          clear hb s3 r4
          rcases Htail.out with h0 | h0
          · subst h0
            go_wp2
            go_ret
            exact ⟨rfl, B3⟩
          · by_cases hl0 : xs.length = 0
            · have hle : ((xs.length : Int) == 0) = true := by simp [hl0]
              go_wp2
              go_ret
              exact ⟨rfl, B3⟩
            · have hle : ((xs.length : Int) == 0) = false := by simpa using hl0
              obtain ⟨b, off, rfl, _, hc⟩ := x3.rd (by omega)
              have hcl := hc (xs.length - 1) (by omega)
              have hne : ((wd xs (xs.length - 1) : Int) != 0) = true := by simpa using h0
              clear hc
              go_wp2
              go_ret
              exact ⟨rfl, B3⟩
end Go.Proofs.YtfpgdkbgmmpncaaDoor
