/-
  Contract of slices.Clone at []int; the law GraphRound.
-/
import Derived.Test.YtaboafkpmgadmaaDoorGrRd
import Derived.Test.YtaboafkpmgadmaaDoorGrAl
import Derived.Test.YtaboafkpmgadmaaDoorGrLawCl
namespace Go.Proofs.YtaboafkpmgadmaaDoor
open Go.RowKit Go.Shelf
set_option maxRecDepth 100000

theorem clone_any (A : Option Addr) (c : Nat) (zs : List Int) (w : World) (hz : RdI w w.heap.size A zs) (hl : zs.length ≤ 17592186044416) :
    Calls Tryd.prog 21 #[.slice A zs.length c] w fun e w' => ∃ v', e = .returned v' ∧ w'.ownsRow w.heap.size 3 1 v' zs.length (iVals zs) ∧ Below w.heap.size w w' := by
  rcases Nat.eq_zero_or_pos zs.length with h0 | hp
  · obtain rfl : zs = [] := List.length_eq_zero_iff.1 h0
    cases A with
    | none =>
      refine (Tryd.slices_Clone_int_nil 0 c w).mono ?_
      rintro e w' ⟨rfl, rfl⟩
      exact ⟨_, rfl, World.ownsRow_nil _ _ _ _, Below.refl _ _⟩
    | some a =>
      refine (Tryd.slices_Clone_int_zero a c w).mono ?_
      rintro e w' ⟨v', rfl, h1, _, h2⟩
      exact ⟨v', rfl, h1, h2⟩
  · obtain ⟨b, off, rfl, hb, hc⟩ := hz.rd hp
    refine (Tryd.slices_Clone_int b off zs.length c zs w (Nat.le_refl _) (by omega) (fun j hj => hc j hj)).mono ?_
    rintro e w' ⟨v', rfl, h1, _, h2⟩
    exact ⟨v', rfl, by simpa [iVals] using h1, h2⟩

theorem errn_cases (N : Int) (es : List (Int × Int)) : errn N es = 2 ∨ (errn N es = 3 ∧ ∃ m : Nat, N = (m : Int) ∧ inR m es = true ∧ (ordr m es).length < m) ∨ errn N es = 0 := by
  cases hin : inR N es with
  | false => exact .inl (errn_no hin)
  | true =>
    have hm := okN_of hin
    obtain ⟨m, rfl⟩ : ∃ m : Nat, N = (m : Int) := ⟨N.toNat, by omega⟩
    have := ordr_le m es
    rcases Nat.lt_or_ge (ordr m es).length m with h | h
    · exact .inr (.inl ⟨errn_loop hin h, m, rfl, hin, h⟩)
    · exact .inr (.inr (errn_ok hin (by omega)))
theorem rdI_of (zs : List Int) {w : World} {B : Nat} {A : Option Addr} (h : RdI w B A zs) : ∀ k, -9223372036854775808 ≤ zd zs k ∧ zd zs k ≤ 9223372036854775807 := fun k => ⟨h.lo k, h.hi k⟩

set_option maxHeartbeats 2000000 in
theorem roundLaw_any (A : Option Addr) (c : Nat) (N : Int) (es : List (Int × Int)) (A2 : Option Addr) (c2 : Nat) (zs : List Int) (w : World) (he : RdE w w.heap.size A es) (_hl : es.length ≤ 1048576) (hz : RdI w w.heap.size A2 zs) (_hl2 : zs.length ≤ 1048576) (hT : Tab w) :
    Calls Tryd.prog 4 #[.agg #[.int .i64 N, .slice A es.length c], .slice A2 zs.length c2] w fun e w' => e = .returned (.bool true) ∧ Below w.heap.size w w' := by
  go_enter Tryd.func4, Tryd.ntmps4
  go_wp2_with fail
  have g1 := GB.new w 24 N (.slice A es.length c)
  have hB := below_alloc w (.cells #[.int .i64 N, .slice A es.length c] 24)
  obtain ⟨w1, hw1⟩ : ∃ w1, w1 = w.alloc (.cells #[.int .i64 N, .slice A es.length c] 24) := ⟨_, rfl⟩
  rw [← hw1] at g1 hB ⊢
  have hs := hB.size
  replace he := he.step hB
  replace hz := hz.step hB
  replace hT := hT.step hB
  clear hw1
  refine (alive2_any _ hT).mono ?_
  rintro e w2 ⟨rfl, hb⟩
  replace g1 := g1.step hb
  replace he := he.step hb
  replace hz := hz.step hb
  replace hT := hT.step hb
  replace hB := below_step hB hs hb
  replace hs := hB.size
  clear hb
  have n1 := g1.n
  have e1 := g1.e
  go_wp2_with fail
  refine (sort_any A c N es _ he hT).mono ?_
  rintro e w3 ⟨A3, c3, rfl, q3, hb⟩
  replace g1 := g1.step hb
  replace he := he.step hb
  replace hz := hz.step hb
  replace hB := below_step hB hs hb
  replace hs := hB.size
  clear hb n1 e1
  rcases errn_cases N es with hE | ⟨hE, m, rfl, hin, hlt⟩ | hE
  · have hO : ordG N es = [] := by unfold ordG; rw [if_neg (by omega)]
    rw [hE, hO]
    go_wp2_with fail
    go_ret
    exact ⟨rfl, hB⟩
  · rw [hE]
    have hno := leads_no zs hin hlt
    have F := Lib.hid (leads_any w.heap.size m A c es A2 c2 zs w3 g1 he hz)
    rw [hno] at F
    clear hE hin hlt hno
    go_wp2_with (first
      | (go_at_call 20; refine F.out.mono ?_; rintro e w4 ⟨rfl, hb⟩)
      | fail)
    go_ret
    exact ⟨rfl, below_step hB hs hb⟩
  · obtain ⟨m, rfl, hin, hfull⟩ := errn_split hE
    have hm := okN_of hin
    have hO : ordG m es = toI (ordr m es) := by unfold ordG; rw [if_pos hE, Int.toNat_natCast]
    rw [hO] at q3
    rw [hE, hO]
    have hlen : (toI (ordr m es)).length = m := by rw [toI_len, hfull]
    have hyes := leads_yes hin hfull
    have hsrt := srt_ordr hfull
    have e4 : (srt (toI (ordr m es))).length = m := by rw [srt_len, hlen]
    obtain ⟨O, hOO⟩ : ∃ O, O = toI (ordr m es) := ⟨_, rfl⟩
    rw [← hOO] at q3 hlen hyes hsrt e4 ⊢
    have F : ∀ W : World, GB 24 W w.heap.size m (.slice A es.length c) → RdE W W.heap.size A es → RdI W W.heap.size A3 O → Calls Tryd.prog 20 #[.slice A3 O.length c3, .pointer (some ⟨w.heap.size, 0, none⟩)] W fun e w' => e = .returned (.bool true) ∧ Below W.heap.size W w' := fun W h1 h2 h3 => by
      have := leads_any w.heap.size m A c es A3 c3 O W h1 h2 h3
      rw [hyes] at this
      exact this
    replace F := Lib.hid F
    clear hE hO hin hfull hyes hOO hz
    rw [hlen] at F ⊢
    have HL := Lib.hid hlen
    clear hlen
    go_wp2_with fail
    have hcl := clone_any A3 c3 O _ q3 (by rw [HL.out]; omega)
    rw [HL.out] at hcl
    refine hcl.mono ?_
    rintro e w4 ⟨v4, rfl, hown, hb⟩
    have hs34 := hb.size
    clear hcl
    go_wp2_with fail
    refine (sortI_any v4 O w3.heap.size w4 (by rw [HL.out]; exact hown) hs34 (by rw [HL.out]; omega)).mono ?_
    rintro e w5 ⟨⟨r, rfl⟩, hown5, hb5⟩
    replace hb := hb.trans hb5
    replace g1 := g1.step hb
    replace he := he.step hb
    replace q3 := q3.step hb
    replace hB := below_step hB hs hb
    clear hb hb5 hs hs34 hown
    have hbd : ∀ k, 0 ≤ zd (srt O) k ∧ zd (srt O) k ≤ (m : Int) := by
      rw [hsrt]
      exact zd_toI_bd _ m fun x hx => List.mem_range.1 hx
    obtain ⟨A5, c5, rfl, r5⟩ := own_rdI hown5 (fun k => by have := hbd k; omega) (fun k => by have := hbd k; omega) (by rw [e4]; omega)
    clear hown5 hbd
    rw [hsrt] at r5 ⊢
    have el : (toI (List.range m)).length = m := by rw [toI_len, List.length_range]
    have hz5 : ∀ k, k < m → zd (toI (List.range m)) k = (k : Int) := zd_range m
    obtain ⟨Z, hZ⟩ : ∃ Z, Z = toI (List.range m) := ⟨_, rfl⟩
    rw [← hZ] at r5 el hz5 ⊢
    rw [el]
    have HE := Lib.hid el
    have R5 := Lib.hid r5
    have HZ := Lib.hid hz5
    clear hsrt e4 hZ el r5 hz5
    have hm0 : (m : Int) ≤ 200 := by omega
    have n1 := g1.n
    have e1 := g1.e
    obtain ⟨wo, rfl⟩ : ∃ wo : World, wo = w5 := ⟨_, rfl⟩
    go_wp2_with fail
    go_loopw [40] (fun i wr => ∃ k : Nat, k ≤ m ∧ i = .int .i64 k ∧ wr = wo) (fun i _ => m - (intOf i).toNat)
    case atStart => exact ⟨0, Nat.zero_le _, rfl, rfl⟩
    case round =>
      obtain ⟨k, hk, rfl, rfl⟩ := hrel
      by_cases hlt : k < m
      · obtain ⟨b, off, rfl, hbb, hc⟩ := R5.out.rd (by rw [HE.out]; omega)
        have hcx := hc k (by rw [HE.out]; exact hlt)
        dsimp only at hcx
        rw [HZ.out k hlt] at hcx
        clear hc
        go_wp2_with fail
        go_roundw
        case rel => exact ⟨k + 1, by omega, by go_num, by trivial⟩
        case measure => simp [intOf]; omega
      · obtain rfl : k = m := by omega
        go_wp2_with (first
          | (go_at_call 20; refine (F.out _ g1 he q3).mono ?_; rintro e w6 ⟨rfl, hb⟩)
          | fail)
        go_ret
        exact ⟨rfl, below_step hB hB.size hb⟩
end Go.Proofs.YtaboafkpmgadmaaDoor
