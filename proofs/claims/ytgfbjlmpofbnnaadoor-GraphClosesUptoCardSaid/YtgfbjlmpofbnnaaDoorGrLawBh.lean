/-
  The law GraphBehind: what is behind what is behind is behind; nothing is behind itself; of two nodes one at most is behind the other.
-/
import Derived.Test.YtgfbjlmpofbnnaaDoorGrAl
import Derived.Test.YtgfbjlmpofbnnaaDoorGrLawWrong
import Derived.Test.YtgfbjlmpofbnnaaDoorBsAlg
import Derived.Deep.RegionHeld3
import Derived.Deep.DrawnRows
namespace Go.Proofs.YtgfbjlmpofbnnaaDoor
open Go.RowKit Go.Shelf
set_option maxRecDepth 100000
attribute [local go_sem ↓] Go.wp_at_zero Go.wp_at_succ

theorem inB_bits {xs ys : List Nat} (hx : Ws xs) (hy : Ws ys) : inB xs ys = true ↔ ∀ n, bitB xs n = true → bitB ys n = true := by
  rw [inB_iff hx hy]
  constructor
  · intro h n hn
    rw [bitB_tb] at hn ⊢
    exact h _ _ (Nat.mod_lt _ (by decide)) hn
  · intro h k j hj hb
    rw [tb_bit _ _ _ hj] at hb ⊢
    exact h _ hb
theorem inB_one (c : Nat) (hc : c ≤ 65535) {ys : List Nat} (hy : Ws ys) : inB (ofS [(c : Int)]) ys = bitB ys c := by
  rw [Bool.eq_iff_iff, inB_bits (ofS_wd _) hy]
  have hb : ∀ n, bitB (ofS [(c : Int)]) n = true ↔ n = c := fun n => by
    rw [ofS_bit, decide_eq_true_iff, mem_alw]
    simp
    omega
  constructor
  · intro h
    exact h c ((hb c).2 rfl)
  · intro h n hn
    rw [(hb n).1 hn]
    exact h
theorem fw_tr {m : Nat} {es : List (Int × Int)} (h : inR m es = true) {i j k : Nat} (h1 : fw (gR es) m i j = true) (h2 : fw (gR es) m j k = true) : fw (gR es) m i k = true :=
  (fw_iff (gR_lt h) _ _).2 (((fw_iff (gR_lt h) _ _).1 h1).trans ((fw_iff (gR_lt h) _ _).1 h2))
theorem fw_irr {m : Nat} {es : List (Int × Int)} (h : inR m es = true) (hfull : (ordr m es).length = m) (i : Nat) : fw (gR es) m i i = false := by
  cases hf : fw (gR es) m i i with
  | false => rfl
  | true =>
    have := (loop_iff h).2 ⟨i, (fw_lt h hf).1, hf⟩
    omega
theorem beh_sub {m : Nat} {es : List (Int × Int)} (h : inR m es = true) {i j : Nat} (h1 : fw (gR es) m i j = true) : inB (beh m es j) (beh m es i) = true := by
  rw [inB_bits (beh_ws _ _ _) (beh_ws _ _ _)]
  intro n hn
  rw [beh_bit h] at hn ⊢
  exact fw_tr h h1 hn

/-- two cells lie as they lay, and all that lay -/
abbrev HeldB (w1 : World) (B : Nat) (v : Value) (b o : Nat) (u : Value) (w' : World) : Prop := w'.cell? ⟨B, 0, none⟩ = some v ∧ w'.cell? ⟨b, o, none⟩ = some u ∧ Below w1.heap.size w1 w'
theorem HeldB.drew {w1 W : World} {B b o : Nat} {v u : Value} (h : HeldB w1 B v b o u W) : HeldB w1 B v b o u W.drew := ⟨h.1, h.2.1, h.2.2.drew⟩
theorem HeldB.step {w1 W w2 : World} {B b o : Nat} {v u : Value} (h : HeldB w1 B v b o u W) (hb : Below W.heap.size W w2) : HeldB w1 B v b o u w2 :=
  ⟨(hb.cell (p := ⟨B, 0, none⟩) (World.block_lt_of_cell? _ _ h.1)).trans h.1, (hb.cell (p := ⟨b, o, none⟩) (World.block_lt_of_cell? _ _ h.2.1)).trans h.2.1, h.2.2.trans (hb.mono h.2.2.size)⟩
theorem HeldB.alloc {w1 W : World} {B b o : Nat} {v u : Value} (h : HeldB w1 B v b o u W) (ob : Obj) : HeldB w1 B v b o u (W.alloc ob) := h.step (below_alloc W ob)

set_option maxHeartbeats 2000000 in
theorem has_any (m : Nat) (es : List (Int × Int)) (hin : inR m es = true) (B7 : Nat) (A1 : Option Addr) (c1 a c : Nat) (ha : a < m) (hc : c < m) (w : World) (hb : w.cell? ⟨B7, 0, none⟩ = some (.slice A1 m c1)) (hu : RdUU w w.heap.size A1 (behs m es)) (hT : Tab w) :
    Calls Tryd.prog 31 #[.int .i64 (a : Int), .int .i64 (c : Int), .pointer (some ⟨B7, 0, none⟩)] w fun e w' => e = .returned (.bool (fw (gR es) m a c)) ∧ Below w.heap.size w w' := by
  have hm := okN_of hin
  go_enter Tryd.func31, Tryd.ntmps31
  obtain ⟨b, off, A5, c5, rfl, hb5, hc5, hs5⟩ := hu.at_ (k := a) (by rw [behs_len]; exact ha)
  rw [st_behs _ ha] at hc5 hs5
  have hx0 : (0 : Int) ≤ (a : Int) := Int.natCast_nonneg _
  have hx1 : (a : Int) < (m : Int) := by omega
  obtain ⟨R, hR⟩ : ∃ R, R = fw (gR es) m a c := ⟨_, rfl⟩
  have hin1 : inB (ofS [(c : Int)]) (beh m es a) = R := by rw [inB_one c (by omega) (beh_ws _ _ _), beh_bit hin, hR]
  obtain ⟨S, hS⟩ : ∃ S, S = ofS [(c : Int)] := ⟨_, rfl⟩
  obtain ⟨xs, hxs⟩ : ∃ xs, xs = beh m es a := ⟨_, rfl⟩
  rw [← hxs] at hc5 hs5 hin1
  rw [← hS] at hin1
  rw [← hR]
  have hcl : ∀ z ∈ [(c : Int)], -9223372036854775808 ≤ z ∧ z ≤ 9223372036854775807 := by intro z hz; simp at hz; omega
  have hcr : [(c : Int)].length ≤ 1152921504606846976 := by simp
  have hE1 : ∀ (W : World) (g : Nat), RdI W W.heap.size (some ⟨g, 0, none⟩) [(c : Int)] → HeldB w B7 (.slice (some ⟨b, off, none⟩) m c1) b (off + a) (.slice A5 xs.length c5) W → Calls Tryd.prog 33 #[.slice (some ⟨g, 0, none⟩) 1 1] W
      fun e w' => ∃ A9 c9, e = .returned (.slice A9 S.length c9) ∧ RdU w' w'.heap.size A9 S ∧ HeldB w B7 (.slice (some ⟨b, off, none⟩) m c1) b (off + a) (.slice A5 xs.length c5) w' := fun W g hr h => by
    refine (of_any _ 1 [(c : Int)] _ hr).mono ?_
    rintro e w' ⟨A9, c9, rfl, h1, h2⟩
    rw [← hS] at h1 ⊢
    exact ⟨A9, c9, rfl, h1, h.step h2⟩
  have hE2 : ∀ (W : World) (A9 : Option Addr) (c9 : Nat), RdU W W.heap.size A9 S → HeldB w B7 (.slice (some ⟨b, off, none⟩) m c1) b (off + a) (.slice A5 xs.length c5) W → Calls Tryd.prog 32 #[.slice A9 S.length c9, .slice A5 xs.length c5] W
      fun e w' => e = .returned (.bool R) ∧ HeldB w B7 (.slice (some ⟨b, off, none⟩) m c1) b (off + a) (.slice A5 xs.length c5) w' := fun W A9 c9 h9 h => by
    refine (within_any A9 A5 c9 c5 S xs _ h9 ((hs5.below h.2.2).more h.2.2.size)).mono ?_
    rintro e w' ⟨rfl, rfl⟩
    rw [hin1]
    exact ⟨rfl, h⟩
  have H1 := Lib.hid hE1
  have H2 := Lib.hid hE2
  have hb0 := Below.refl w.heap.size w
  clear hE1 hE2 hR hS hxs hs5 hu hT hin1 hin hm
  go_wp2_with fail
  go_region_held3 (HeldB w B7 (.slice (some ⟨b, off, none⟩) m c1) b (off + a) (.slice A5 xs.length c5))
    (first
      | (go_split_ands; refine ⟨?_, ?_, ?_⟩ <;> assumption)
      | (go_split_ands; exact HeldB.drew ⟨‹_›, ‹_›, ‹_›⟩)
      | (go_split_ands; exact HeldB.alloc ⟨‹_›, ‹_›, ‹_›⟩ _))
    (first
      | (go_at_call 33; refine (H1.out _ _ ((rd_lit _ _ [(c : Int)] hcl hcr).step (Below.refl _ _).drew) (by assumption)).mono ?_; rintro e w2 ⟨A9, c9, rfl, h9, hq2⟩)
      | (go_at_call 32; refine (H2.out _ _ _ (by assumption) (by assumption)).mono ?_; rintro e w3 ⟨rfl, hq3⟩))
  all_goals
    go_wp2
    go_ret
    exact ⟨rfl, hq3.2.2⟩

/-- three cells lie as they lay, and all that lay -/
abbrev HeldC (w1 : World) (B : Nat) (v : Value) (b o : Nat) (u : Value) (o2 : Nat) (u2 : Value) (w' : World) : Prop := w'.cell? ⟨B, 0, none⟩ = some v ∧ w'.cell? ⟨b, o, none⟩ = some u ∧ w'.cell? ⟨b, o2, none⟩ = some u2 ∧ Below w1.heap.size w1 w'
theorem HeldC.drew {w1 W : World} {B b o o2 : Nat} {v u u2 : Value} (h : HeldC w1 B v b o u o2 u2 W) : HeldC w1 B v b o u o2 u2 W.drew := ⟨h.1, h.2.1, h.2.2.1, h.2.2.2.drew⟩
theorem HeldC.step {w1 W w2 : World} {B b o o2 : Nat} {v u u2 : Value} (h : HeldC w1 B v b o u o2 u2 W) (hb : Below W.heap.size W w2) : HeldC w1 B v b o u o2 u2 w2 :=
  ⟨(hb.cell (p := ⟨B, 0, none⟩) (World.block_lt_of_cell? _ _ h.1)).trans h.1, (hb.cell (p := ⟨b, o, none⟩) (World.block_lt_of_cell? _ _ h.2.1)).trans h.2.1, (hb.cell (p := ⟨b, o2, none⟩) (World.block_lt_of_cell? _ _ h.2.2.1)).trans h.2.2.1, h.2.2.2.trans (hb.mono h.2.2.2.size)⟩

set_option maxHeartbeats 16000000 in
theorem behindLaw_any (A : Option Addr) (c : Nat) (N : Int) (es : List (Int × Int)) (i j : Int) (w : World) (he : RdE w w.heap.size A es) (_hl : es.length ≤ 1048576) (hT : Tab w) :
    Calls Tryd.prog 9 #[.agg #[.int .i64 N, .slice A es.length c], .int .i64 i, .int .i64 j] w fun e w' => e = .returned (.bool true) ∧ Below w.heap.size w w' := by
  go_enter Tryd.func9, Tryd.ntmps9
  go_wp2_with fail
  have hG := GBox.new w N A es.length c 24
  obtain ⟨w1, hw1⟩ : ∃ w1, w1 = w.alloc (.cells #[.int .i64 N, .slice A es.length c] 24) := ⟨_, rfl⟩
  have hb1 : Below w.heap.size w w1 := by rw [hw1]; exact below_alloc _ _
  have hs1 : w.heap.size < w1.heap.size := by rw [hw1]; simp
  rw [← hw1] at hG ⊢
  have he1 := he.step hb1
  have hT1 := hT.step hb1
  clear hw1
  refine (alive2_any _ hT1).mono ?_
  rintro e w2 ⟨rfl, hb2⟩
  have hG2 := hG.below hb2 hs1
  have hgn := hG2.n
  have hge := hG2.e
  have he2 := he1.step hb2
  have hT2 := hT1.step hb2
  have hB2 := hb1.trans (hb2.mono hb1.size)
  have hs2 : w.heap.size < w2.heap.size := Nat.lt_of_lt_of_le hs1 hb2.size
  clear hG hb2 hb1 he1 hT1 hs1
  go_wp2_with fail
  refine (behind_any A c N es _ he2 hT2).mono ?_
  rintro e w3 ⟨A1, c1, rfl, hu, hb3⟩
  have hG3 := hG2.below hb3 hs2
  have hT3 := hT2.step hb3
  have hB3 := hB2.trans (hb3.mono hB2.size)
  have hs3 : w.heap.size < w3.heap.size := Nat.lt_of_lt_of_le hs2 hb3.size
  clear hgn hge hG2 he2 hT2 hB2 hs2 hb3 he
  have hgn := hG3.n
  have hge := hG3.e
  by_cases hE : errn N es = 0
  · obtain ⟨m, rfl, hin, hfull⟩ := errn_split hE
    have hm := okN_of hin
    have e3 : behG m es = behs m es := by unfold behG; rw [if_pos hE, Int.toNat_natCast]
    rw [e3] at hu
    rw [e3, hE, behs_len]
    clear e3 hE
    have hbx := (Boxed.new w3 31 (.slice A1 m c1)).cell
    have hb4 := below_alloc w3 (.cells #[.slice A1 m c1] 31)
    have hG4 := hG3.below hb4 hs3
    have hu4 := hu.step hb4
    have hT4 := hT3.step hb4
    have hB4 := hB3.trans (hb4.mono hB3.size)
    have hgn4 := hG4.n
    have hge4 := hG4.e
    by_cases h1 : i < 0
    · go_wp2
      go_ret
      exact ⟨rfl, hB4⟩
    by_cases h2 : j < 0
    · go_wp2
      go_ret
      exact ⟨rfl, hB4⟩
    by_cases h3 : (m : Int) ≤ i
    · go_wp2
      go_ret
      exact ⟨rfl, hB4⟩
    by_cases h4 : (m : Int) ≤ j
    · go_wp2
      go_ret
      exact ⟨rfl, hB4⟩
    obtain ⟨x, rfl⟩ : ∃ x : Nat, i = (x : Int) := ⟨i.toNat, by omega⟩
    obtain ⟨y, rfl⟩ : ∃ y : Nat, j = (y : Int) := ⟨j.toNat, by omega⟩
    have hx : x < m := by omega
    have hy : y < m := by omega
    go_wp2_with fail
    obtain ⟨w4, hw4⟩ : ∃ w4, w4 = w3.alloc (.cells #[.slice A1 m c1] 31) := ⟨_, rfl⟩
    obtain ⟨B7, hB7⟩ : ∃ B7, B7 = w3.heap.size := ⟨_, rfl⟩
    rw [← hw4] at hbx hu4 hT4 hB4 ⊢
    rw [← hB7] at hbx ⊢
    obtain ⟨b, off, A5, c5, hA1, hb5, hc5, hs5⟩ := hu4.at_ (k := x) (by rw [behs_len]; exact hx)
    obtain ⟨b2, off2, A6, c6, hA2, hb6, hc6, hs6⟩ := hu4.at_ (k := y) (by rw [behs_len]; exact hy)
    subst hA1
    cases hA2
    rw [st_behs _ hx] at hc5 hs5
    rw [st_behs _ hy] at hc6 hs6
    clear hw4 hgn4 hge4 hG4 hb4 hu hG3 hT3 hB3 hs3 hgn hge hB7 h1 h2 h3 h4
    have hx0 : (0 : Int) ≤ (x : Int) := Int.natCast_nonneg _
    have hx1 : (x : Int) < (m : Int) := by omega
    have hy0 : (0 : Int) ≤ (y : Int) := Int.natCast_nonneg _
    have hy1 : (y : Int) < (m : Int) := by omega
    have hh : ∀ (a d : Nat) (r : Bool), a < m → d < m → fw (gR es) m a d = r → ∀ W : World, HeldC w4 B7 (.slice (some ⟨b, off, none⟩) m c1) b (off + y) (.slice A6 (beh m es y).length c6) (off + x) (.slice A5 (beh m es x).length c5) W → Calls Tryd.prog 31 #[.int .i64 (a : Int), .int .i64 (d : Int), .pointer (some ⟨B7, 0, none⟩)] W fun e w' => e = .returned (.bool r) ∧ HeldC w4 B7 (.slice (some ⟨b, off, none⟩) m c1) b (off + y) (.slice A6 (beh m es y).length c6) (off + x) (.slice A5 (beh m es x).length c5) w' := fun a d r ha hd hr W h => by
      refine (has_any m es hin B7 _ c1 a d ha hd W h.1 ((hu4.below h.2.2.2).more h.2.2.2.size) (hT4.step h.2.2.2)).mono ?_
      rintro e w' ⟨rfl, hb⟩
      rw [hr]
      exact ⟨rfl, h.step hb⟩
    have hb0 := Below.refl w4.heap.size w4
    have H1 := Lib.hid (hh x x false hx hx (fw_irr hin hfull x))
    cases hq : fw (gR es) m x y with
    | false =>
      have H2 := Lib.hid (hh x y false hx hy hq)
      clear hh hu4 hT4 hs5 hs6 hin hfull hq hm
      refine wp_region_held_drew (S := HeldC w4 B7 (.slice (some ⟨b, off, none⟩) m c1) b (off + y) (.slice A6 (beh m es y).length c6) (off + x) (.slice A5 (beh m es x).length c5)) (by kernel_rfl) ?_ (fun hHeld => ?_)
      · exact HeldC.drew ⟨hbx, hc6, hc5, hb0⟩
      refine wpAnyH_take (i := 0) (oi := { dst := some 56, op := _, type := _, pos := _, after := _, guard := _ }) (v := ?_) rfl (by kernel_rfl) (by kernel_rfl) (by kernel_rfl) (fun _ _ _ h => h) (Or.inl ⟨by rfl, ?_⟩) (by assumption) ?_
      rotate_left
      · intro w hSw; (try dsimp only at hSw); go_simp; (try with_reducible rfl)
      (try simp only [Act.put, List.setIfInBounds_toArray, List.set_cons_zero, List.set_cons_succ])
      refine wpAnyH_take (i := 1) (oi := { dst := some 57, op := _, type := _, pos := _, after := _, guard := _ }) (v := ?_) rfl (by kernel_rfl) (by kernel_rfl) (by kernel_rfl) (fun _ _ _ h => h) (Or.inl ⟨by rfl, ?_⟩) (by assumption) ?_
      rotate_left
      · intro w hSw; (try dsimp only at hSw); go_simp; (try with_reducible rfl)
      (try simp only [Act.put, List.setIfInBounds_toArray, List.set_cons_zero, List.set_cons_succ])
      refine wpAnyH_take (i := 2) (oi := { dst := some 58, op := _, type := _, pos := _, after := _, guard := _ }) (v := ?_) rfl (by kernel_rfl) (by kernel_rfl) (by kernel_rfl) (fun _ _ _ h => h) (Or.inl ⟨by rfl, ?_⟩) (by assumption) ?_
      rotate_left
      · intro w hSw; (try dsimp only at hSw); go_simp; (try with_reducible rfl)
      (try simp only [Act.put, List.setIfInBounds_toArray, List.set_cons_zero, List.set_cons_succ])
      refine wpAnyH_ready (rs := [3]) (by kernel_rfl) (by simp) ?_
      refine AllReadyH.cons rfl (fun K hK => ?_) AllReadyH.nil
      go_simp
      refine (H1.out _ hHeld).mono ?_
      rintro e w5 ⟨rfl, hq5⟩
      dsimp only
      refine hK.out _ _ hq5 (fun hHeld => ?_)
      clear hK K
      (try simp only [Act.put, List.setIfInBounds_toArray, List.set_cons_zero, List.set_cons_succ])
      refine wpAnyH_take (i := 4) (oi := { dst := some 60, op := _, type := _, pos := _, after := _, guard := _ }) (v := ?_) rfl (by kernel_rfl) (by kernel_rfl) (by kernel_rfl) (fun _ _ _ h => h) (Or.inl ⟨by rfl, ?_⟩) (by assumption) ?_
      rotate_left
      · intro w hSw; (try dsimp only at hSw); go_simp; (try with_reducible rfl)
      (try simp only [Act.put, List.setIfInBounds_toArray, List.set_cons_zero, List.set_cons_succ])
      refine wpAnyH_take (i := 5) (oi := { dst := some 61, op := _, type := _, pos := _, after := _, guard := _ }) (v := ?_) rfl (by kernel_rfl) (by kernel_rfl) (by kernel_rfl) (fun _ _ _ h => h) (Or.inl ⟨by rfl, ?_⟩) (by assumption) ?_
      rotate_left
      · intro w hSw; (try dsimp only at hSw); go_simp; (try with_reducible rfl)
      (try simp only [Act.put, List.setIfInBounds_toArray, List.set_cons_zero, List.set_cons_succ])
      refine wpAnyH_take (i := 6) (oi := { dst := some 62, op := _, type := _, pos := _, after := _, guard := _ }) (v := ?_) rfl (by kernel_rfl) (by kernel_rfl) (by kernel_rfl) (fun _ _ _ h => h) (Or.inl ⟨by rfl, ?_⟩) (by assumption) ?_
      rotate_left
      · intro w hSw; (try dsimp only at hSw); go_simp; (try with_reducible rfl)
      (try simp only [Act.put, List.setIfInBounds_toArray, List.set_cons_zero, List.set_cons_succ])
      refine wpAnyH_take (i := 7) (oi := { dst := some 63, op := _, type := _, pos := _, after := _, guard := _ }) (v := ?_) rfl (by kernel_rfl) (by kernel_rfl) (by kernel_rfl) (fun _ _ _ h => h) (Or.inl ⟨by rfl, ?_⟩) (by assumption) ?_
      rotate_left
      · intro w hSw; (try dsimp only at hSw); go_simp; (try with_reducible rfl)
      (try simp only [Act.put, List.setIfInBounds_toArray, List.set_cons_zero, List.set_cons_succ])
      refine wpAnyH_take (i := 8) (oi := { dst := some 64, op := _, type := _, pos := _, after := _, guard := _ }) (v := ?_) rfl (by kernel_rfl) (by kernel_rfl) (by kernel_rfl) (fun _ _ _ h => h) (Or.inl ⟨by rfl, ?_⟩) (by assumption) ?_
      rotate_left
      · intro w hSw; (try dsimp only at hSw); go_simp; (try with_reducible rfl)
      (try simp only [Act.put, List.setIfInBounds_toArray, List.set_cons_zero, List.set_cons_succ])
      refine wpAnyH_ready (rs := [9]) (by kernel_rfl) (by simp) ?_
      refine AllReadyH.cons rfl (fun K hK => ?_) AllReadyH.nil
      go_simp
      refine (H2.out _ hHeld).mono ?_
      rintro e w6 ⟨rfl, hq6⟩
      dsimp only
      refine hK.out _ _ hq6 (fun hHeld => ?_)
      clear hK K
      (try simp only [Act.put, List.setIfInBounds_toArray, List.set_cons_zero, List.set_cons_succ])
      refine wpAnyH_take (i := 10) (oi := { dst := some 66, op := _, type := _, pos := _, after := _, guard := _ }) (v := ?_) rfl (by kernel_rfl) (by kernel_rfl) (by kernel_rfl) (fun _ _ _ h => h) (Or.inl ⟨by rfl, ?_⟩) (by assumption) ?_
      rotate_left
      · intro w hSw; (try dsimp only at hSw); go_simp; (try with_reducible rfl)
      (try simp only [Act.put, List.setIfInBounds_toArray, List.set_cons_zero, List.set_cons_succ])
      refine wpAnyH_take (i := 11) (oi := { dst := some 67, op := _, type := _, pos := _, after := _, guard := _ }) (v := ?_) rfl (by kernel_rfl) (by kernel_rfl) (by kernel_rfl) (fun _ _ _ h => h) (Or.inl ⟨by rfl, ?_⟩) (by assumption) ?_
      rotate_left
      · intro w hSw; (try dsimp only at hSw); go_simp; (try with_reducible rfl)
      (try simp only [Act.put, List.setIfInBounds_toArray, List.set_cons_zero, List.set_cons_succ])
      refine wpAnyH_take (i := 12) (oi := { dst := some 68, op := _, type := _, pos := _, after := _, guard := _ }) (v := undef) rfl (by kernel_rfl) (by kernel_rfl) (by kernel_rfl) (fun _ _ _ h => h) (Or.inr ⟨by rfl, rfl⟩) (by assumption) ?_
      (try simp only [Act.put, List.setIfInBounds_toArray, List.set_cons_zero, List.set_cons_succ])
      refine wpAnyH_take (i := 13) (oi := { dst := some 69, op := _, type := _, pos := _, after := _, guard := _ }) (v := undef) rfl (by kernel_rfl) (by kernel_rfl) (by kernel_rfl) (fun _ _ _ h => h) (Or.inr ⟨by rfl, rfl⟩) (by assumption) ?_
      (try simp only [Act.put, List.setIfInBounds_toArray, List.set_cons_zero, List.set_cons_succ])
      refine wpAnyH_take (i := 14) (oi := { dst := some 70, op := _, type := _, pos := _, after := _, guard := _ }) (v := undef) rfl (by kernel_rfl) (by kernel_rfl) (by kernel_rfl) (fun _ _ _ h => h) (Or.inr ⟨by rfl, rfl⟩) (by assumption) ?_
      (try simp only [Act.put, List.setIfInBounds_toArray, List.set_cons_zero, List.set_cons_succ])
      refine wpAnyH_take (i := 15) (oi := { dst := some 71, op := _, type := _, pos := _, after := _, guard := _ }) (v := undef) rfl (by kernel_rfl) (by kernel_rfl) (by kernel_rfl) (fun _ _ _ h => h) (Or.inr ⟨by rfl, rfl⟩) (by assumption) ?_
      (try simp only [Act.put, List.setIfInBounds_toArray, List.set_cons_zero, List.set_cons_succ])
      refine wpAnyH_take (i := 16) (oi := { dst := some 72, op := _, type := _, pos := _, after := _, guard := _ }) (v := undef) rfl (by kernel_rfl) (by kernel_rfl) (by kernel_rfl) (fun _ _ _ h => h) (Or.inr ⟨by rfl, rfl⟩) (by assumption) ?_
      (try simp only [Act.put, List.setIfInBounds_toArray, List.set_cons_zero, List.set_cons_succ])
      refine wpAnyH_take (i := 17) (oi := { dst := some 73, op := _, type := _, pos := _, after := _, guard := _ }) (v := undef) rfl (by kernel_rfl) (by kernel_rfl) (by kernel_rfl) (fun _ _ _ h => h) (Or.inr ⟨by rfl, rfl⟩) (by assumption) ?_
      (try simp only [Act.put, List.setIfInBounds_toArray, List.set_cons_zero, List.set_cons_succ])
      refine wpAnyH_take (i := 18) (oi := { dst := some 74, op := _, type := _, pos := _, after := _, guard := _ }) (v := undef) rfl (by kernel_rfl) (by kernel_rfl) (by kernel_rfl) (fun _ _ _ h => h) (Or.inr ⟨by rfl, rfl⟩) (by assumption) ?_
      (try simp only [Act.put, List.setIfInBounds_toArray, List.set_cons_zero, List.set_cons_succ])
      refine wpAnyH_take (i := 19) (oi := { dst := some 75, op := _, type := _, pos := _, after := _, guard := _ }) (v := undef) rfl (by kernel_rfl) (by kernel_rfl) (by kernel_rfl) (fun _ _ _ h => h) (Or.inr ⟨by rfl, rfl⟩) (by assumption) ?_
      (try simp only [Act.put, List.setIfInBounds_toArray, List.set_cons_zero, List.set_cons_succ])
      refine wpAnyH_take (i := 20) (oi := { dst := some 76, op := _, type := _, pos := _, after := _, guard := _ }) (v := undef) rfl (by kernel_rfl) (by kernel_rfl) (by kernel_rfl) (fun _ _ _ h => h) (Or.inr ⟨by rfl, rfl⟩) (by assumption) ?_
      (try simp only [Act.put, List.setIfInBounds_toArray, List.set_cons_zero, List.set_cons_succ])
      refine wpAnyH_take (i := 21) (oi := { dst := some 77, op := _, type := _, pos := _, after := _, guard := _ }) (v := undef) rfl (by kernel_rfl) (by kernel_rfl) (by kernel_rfl) (fun _ _ _ h => h) (Or.inr ⟨by rfl, rfl⟩) (by assumption) ?_
      (try simp only [Act.put, List.setIfInBounds_toArray, List.set_cons_zero, List.set_cons_succ])
      refine wpAnyH_take (i := 22) (oi := { dst := some 78, op := _, type := _, pos := _, after := _, guard := _ }) (v := undef) rfl (by kernel_rfl) (by kernel_rfl) (by kernel_rfl) (fun _ _ _ h => h) (Or.inr ⟨by rfl, rfl⟩) (by assumption) ?_
      (try simp only [Act.put, List.setIfInBounds_toArray, List.set_cons_zero, List.set_cons_succ])
      refine wpAnyH_take (i := 23) (oi := { dst := some 79, op := _, type := _, pos := _, after := _, guard := _ }) (v := undef) rfl (by kernel_rfl) (by kernel_rfl) (by kernel_rfl) (fun _ _ _ h => h) (Or.inr ⟨by rfl, rfl⟩) (by assumption) ?_
      (try simp only [Act.put, List.setIfInBounds_toArray, List.set_cons_zero, List.set_cons_succ])
      refine wpAnyH_take (i := 24) (oi := { dst := some 80, op := _, type := _, pos := _, after := _, guard := _ }) (v := undef) rfl (by kernel_rfl) (by kernel_rfl) (by kernel_rfl) (fun _ _ _ h => h) (Or.inr ⟨by rfl, rfl⟩) (by assumption) ?_
      (try simp only [Act.put, List.setIfInBounds_toArray, List.set_cons_zero, List.set_cons_succ])
      refine wpAnyH_take (i := 25) (oi := { dst := some 81, op := _, type := _, pos := _, after := _, guard := _ }) (v := undef) rfl (by kernel_rfl) (by kernel_rfl) (by kernel_rfl) (fun _ _ _ h => h) (Or.inr ⟨by rfl, rfl⟩) (by assumption) ?_
      (try simp only [Act.put, List.setIfInBounds_toArray, List.set_cons_zero, List.set_cons_succ])
      refine wpAnyH_take (i := 26) (oi := { dst := some 82, op := _, type := _, pos := _, after := _, guard := _ }) (v := undef) rfl (by kernel_rfl) (by kernel_rfl) (by kernel_rfl) (fun _ _ _ h => h) (Or.inr ⟨by rfl, rfl⟩) (by assumption) ?_
      (try simp only [Act.put, List.setIfInBounds_toArray, List.set_cons_zero, List.set_cons_succ])
      refine wpAnyH_take (i := 27) (oi := { dst := some 83, op := _, type := _, pos := _, after := _, guard := _ }) (v := undef) rfl (by kernel_rfl) (by kernel_rfl) (by kernel_rfl) (fun _ _ _ h => h) (Or.inr ⟨by rfl, rfl⟩) (by assumption) ?_
      (try simp only [Act.put, List.setIfInBounds_toArray, List.set_cons_zero, List.set_cons_succ])
      refine wpAnyH_take (i := 28) (oi := { dst := some 84, op := _, type := _, pos := _, after := _, guard := _ }) (v := ?_) rfl (by kernel_rfl) (by kernel_rfl) (by kernel_rfl) (fun _ _ _ h => h) (Or.inl ⟨by rfl, ?_⟩) (by assumption) ?_
      rotate_left
      · intro w hSw; (try dsimp only at hSw); go_simp; (try with_reducible rfl)
      (try simp only [Act.put, List.setIfInBounds_toArray, List.set_cons_zero, List.set_cons_succ])
      refine wpAnyH_take (i := 29) (oi := { dst := some 85, op := _, type := _, pos := _, after := _, guard := _ }) (v := ?_) rfl (by kernel_rfl) (by kernel_rfl) (by kernel_rfl) (fun _ _ _ h => h) (Or.inl ⟨by rfl, ?_⟩) (by assumption) ?_
      rotate_left
      · intro w hSw; (try dsimp only at hSw); go_simp; (try with_reducible rfl)
      (try simp only [Act.put, List.setIfInBounds_toArray, List.set_cons_zero, List.set_cons_succ])
      refine wpAnyH_take (i := 30) (oi := { dst := some 6, op := _, type := _, pos := _, after := _, guard := _ }) (v := ?_) rfl (by kernel_rfl) (by kernel_rfl) (by kernel_rfl) (fun _ _ _ h => h) (Or.inl ⟨by rfl, ?_⟩) (by assumption) ?_
      rotate_left
      · intro w hSw; (try dsimp only at hSw); go_simp; (try with_reducible rfl)
      (try simp only [Act.put, List.setIfInBounds_toArray, List.set_cons_zero, List.set_cons_succ])
      refine wpAnyH_done (by kernel_rfl) ?_ _
      go_wp2
      go_ret
      exact ⟨rfl, hB4.trans (hq6.2.2.2.mono hB4.size)⟩
    | true =>
      have H2 := Lib.hid (hh x y true hx hy hq)
      have hqn : fw (gR es) m y x = false := by
        cases hf : fw (gR es) m y x with
        | false => rfl
        | true =>
          have h1 := fw_tr hin hq hf
          rw [fw_irr hin hfull x] at h1
          cases h1
      have H3 := Lib.hid (hh y x false hy hx hqn)
      have hin1 := beh_sub hin hq
      have hw4 : ∀ W : World, HeldC w4 B7 (.slice (some ⟨b, off, none⟩) m c1) b (off + y) (.slice A6 (beh m es y).length c6) (off + x) (.slice A5 (beh m es x).length c5) W → Calls Tryd.prog 32 #[.slice A6 (beh m es y).length c6, .slice A5 (beh m es x).length c5] W fun e w' => e = .returned (.bool true) ∧ HeldC w4 B7 (.slice (some ⟨b, off, none⟩) m c1) b (off + y) (.slice A6 (beh m es y).length c6) (off + x) (.slice A5 (beh m es x).length c5) w' := fun W h => by
        refine (within_any A6 A5 c6 c5 (beh m es y) (beh m es x) W ((hs6.below h.2.2.2).more h.2.2.2.size) ((hs5.below h.2.2.2).more h.2.2.2.size)).mono ?_
        rintro e w' ⟨rfl, rfl⟩
        rw [hin1]
        exact ⟨rfl, h⟩
      have H4 := Lib.hid hw4
      clear hh hu4 hT4 hs5 hs6 hin hfull hq hm hqn hin1 hw4
      first
      | (go_region_held3 (HeldC w4 B7 (.slice (some ⟨b, off, none⟩) m c1) b (off + y) (.slice A6 (beh m es y).length c6) (off + x) (.slice A5 (beh m es x).length c5))
          (first
            | (go_split_ands; refine ⟨?_, ?_, ?_, ?_⟩ <;> assumption)
            | (go_split_ands; exact HeldC.drew ⟨‹_›, ‹_›, ‹_›, ‹_›⟩))
          (first
            | (go_at_call 31; with_reducible refine (H1.out _ (by assumption)).mono ?_; rintro e w5 ⟨rfl, hq5⟩)
            | (go_at_call 31; with_reducible refine (H2.out _ (by assumption)).mono ?_; rintro e w6 ⟨rfl, hq6⟩)
            | (go_at_call 31; with_reducible refine (H3.out _ (by assumption)).mono ?_; rintro e w7 ⟨rfl, hq7⟩)
            | (go_at_call 32; with_reducible refine (H4.out _ (by assumption)).mono ?_; rintro e w8 ⟨rfl, hq8⟩)))
      | fail "no way"
      all_goals
        go_wp2
        go_ret
        exact ⟨rfl, hB4.trans (hq7.2.2.2.mono hB4.size)⟩
  · obtain ⟨E, hEE⟩ : ∃ E, E = errn N es := ⟨_, rfl⟩
    rw [← hEE] at hE ⊢
    have hb : (E != 0) = true := by simpa using hE
    clear hE hEE
    go_wp2
    go_ret
    exact ⟨rfl, hB3.trans ((below_alloc w3 _).mono hB3.size)⟩
end Go.Proofs.YtgfbjlmpofbnnaaDoor
