/-
  Contracts of the keep's alike (tokens of the same kinds and texts) and alive10.
-/
import Derived.Test.YtfekcbkafiiieaaDoorLxD
namespace Go.Proofs.YtfekcbkafiiieaaDoor
open Go.RowKit
set_option maxRecDepth 100000

set_option maxHeartbeats 1000000 in
theorem alike_same (A A' : Option Addr) (c c' n : Nat) (ts us : List RTk) (w : World) (h1 : ts.length = n) (h2 : us.length = n) (h : ∀ k, k < n → (rtk ts k).1 = (rtk us k).1 ∧ (rtk ts k).2.2 = (rtk us k).2.2) (hx : RdT w w.heap.size A ts) (hy : RdT w w.heap.size A' us) (hl : n ≤ 1073741824) :
    Calls Tryd.prog 14 #[.slice A n c, .slice A' n c'] w fun e w' => e = .returned (.bool true) ∧ Below w.heap.size w w' := by
  have hl2 : ((n : Int) != (n : Int)) = false := by simp
  have H1 := Lib.hid h1
  have H2 := Lib.hid h2
  clear h1 h2
  go_enter Tryd.func14, Tryd.ntmps14
  go_wp2
  go_loopw [5, 13] (fun _ i wr => ∃ k m : Nat, k ≤ n ∧ i = .int .i64 k ∧ wr = w.drewN m) (fun _ i _ => n - (intOf i).toNat)
  case atStart => exact ⟨0, 0, Nat.zero_le _, rfl, rfl⟩
  case round =>
    obtain ⟨k, m, hk, rfl, rfl⟩ := hrel
    by_cases hlt : k < n
    · obtain ⟨b, off, rfl, _, hc⟩ := hx.rd (by rw [H1.out]; omega)
      obtain ⟨b', off', rfl, _, hc'⟩ := hy.rd (by rw [H2.out]; omega)
      obtain ⟨a0, a1, a2⟩ := hc k (by rw [H1.out]; exact hlt)
      obtain ⟨d0, d1, d2⟩ := hc' k (by rw [H2.out]; exact hlt)
      obtain ⟨e0, e2⟩ := h k hlt
      rw [← e0] at d0
      rw [← e2] at d2
      obtain ⟨⟨K, P, S⟩, hT⟩ : ∃ T, T = rtk ts k := ⟨_, rfl⟩
      rw [← hT] at a0 a1 a2 d0 d2
      dsimp only at a0 a1 a2 d0 d2
      have hq : (S.toList != S.toList) = false := by simp
      have hk2 : ((K : Int) != (K : Int)) = false := by simp
      clear hc hc' hT e0 e2 a1 d1
      go_wp2
      go_quiet (fail)
      go_wp2
      go_roundw
      case rel => exact ⟨k + 1, _, by omega, by go_num, rfl⟩
      case measure => simp [intOf]; omega
    · go_wp2
      go_ret
      exact ⟨rfl, below_drewN' (Below.refl _ _) m⟩

theorem lex_a1 : lexd [120, 49, 32, 61, 61, 49, 50, 59] = .ok [⟨2, 0, [120, 49]⟩, ⟨3, 3, [61, 61]⟩, ⟨1, 5, [49, 50]⟩, ⟨3, 7, [59]⟩] := by rfl
theorem lex_a2 : lexd [120, 32, 48, 49] = .err 2 := by rfl
set_option maxHeartbeats 2000000 in
theorem alive10_any (w : World) (hx : LxW w) : Calls Tryd.prog 13 #[] w fun e w' => e = .returned (.bool true) ∧ Below w.heap.size w w' := by
  have T1 := ltoks_any ⟨#[120, 49, 32, 61, 61, 49, 50, 59]⟩ (by decide) w hx
  have HX := Lib.hid hx
  clear hx
  go_enter Tryd.func13, Tryd.ntmps13
  go_wp2_with fail
  refine T1.mono ?_
  rintro e w2 (⟨n, h1, rfl, h2⟩ | ⟨tt, v, h1, rfl, h2, h3⟩)
  · exact absurd (h1.symm.trans lex_a1) (by intro h; cases h)
  · have h1 : lexd [120, 49, 32, 61, 61, 49, 50, 59] = .ok tt := h1
    rw [lex_a1] at h1
    injection h1 with h1
    obtain ⟨A1, c1, rfl, hr1⟩ := own_rdT h2 (by rw [← h1]; simp)
    rw [← h1] at hr1 ⊢
    have H1 := Lib.hid (And.intro hr1 h3)
    clear h1 h2 h3 hr1
    go_wp2_with fail
    refine (ltoks_any ⟨#[120, 32, 48, 49]⟩ (by decide) w2 (HX.out.step H1.out.2)).mono ?_
    rintro e w3 (⟨n, h1, rfl, h2⟩ | ⟨t2, v, h1, rfl, h2, h3⟩)
    · have h1 : lexd [120, 32, 48, 49] = .err n := h1
      rw [lex_a2] at h1
      injection h1 with h1
      subst h1
      have hr3 := H1.out.1.step h2
      have HB := Lib.hid (H1.out.2.trans (h2.mono H1.out.2.size))
      have HR := Lib.hid hr3
      obtain ⟨b, off, rfl, hb, hc⟩ := hr3.rd (by simp [rts])
      obtain ⟨_, _, d1⟩ := hc 1 (by simp [rts])
      obtain ⟨_, e1, _⟩ := hc 2 (by simp [rts])
      replace d1 : w3.cell? ⟨b, off + 1 * 3 + 2, none⟩ = some (.string (bts [61, 61])) := d1
      replace e1 : w3.cell? ⟨b, off + 2 * 3 + 1, none⟩ = some (.int .i64 5) := e1
      have hq : ((bts [61, 61]).toList == [61, 61]) = true := by
        rw [show (bts [61, 61]).toList = [61, 61] by rw [ByteArray.toList_eq]; rfl]
        rfl
      clear hc h2 hr3
      simp only [rts_len, List.length_cons, List.length_nil]
      go_wp2_with fail
      refine (ljoin_any (some ⟨b, off, none⟩) c1 (rts [⟨2, 0, [120, 49]⟩, ⟨3, 3, [61, 61]⟩, ⟨1, 5, [49, 50]⟩, ⟨3, 7, [59]⟩]) w3 HR.out (by decide) (by decide)).mono ?_
      rintro e w4 ⟨rfl, hb4⟩
      rw [show joinS (rts [⟨2, 0, [120, 49]⟩, ⟨3, 3, [61, 61]⟩, ⟨1, 5, [49, 50]⟩, ⟨3, 7, [59]⟩]) = [120, 49, 32, 61, 61, 32, 49, 50, 32, 59] from rfl]
      have hq2 : ((bts [120, 49, 32, 61, 61, 32, 49, 50, 32, 59]).toList == [120, 49, 32, 61, 61, 32, 49, 50, 32, 59]) = true := by
        rw [show (bts [120, 49, 32, 61, 61, 32, 49, 50, 32, 59]).toList = [120, 49, 32, 61, 61, 32, 49, 50, 32, 59] by rw [ByteArray.toList_eq]; rfl]
        rfl
      have HF := Lib.hid (HB.out.trans (hb4.mono HB.out.size))
      clear hb4 d1 e1 hq
      go_wp2_with fail
      go_ret
      exact ⟨rfl, HF.out⟩
    · exact absurd (h1.symm.trans lex_a2) (by intro h; cases h)
end Go.Proofs.YtfekcbkafiiieaaDoor
