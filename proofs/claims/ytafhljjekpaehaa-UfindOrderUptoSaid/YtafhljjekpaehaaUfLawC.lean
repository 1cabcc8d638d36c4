/-
  The laws UfindPlays and UfindCount answer true, for every slice of at most 2^20 operations.
-/
import Derived.Test.YtafhljjekpaehaaUfS
namespace Go.Proofs.Ytafhljjekpaehaa
open Go.RowKit Go.Shelf
set_option maxRecDepth 100000

theorem uplays_any (n : Int) (A : Option Addr) (c : Nat) (ops : List SOp) (w : World) (ho : Rd3 w w.heap.size A ops) (hl : ops.length ≤ 1048576) :
    Calls Try.prog 3 #[.int .i64 n, .slice A ops.length c] w fun e w' => e = .returned (.bool true) ∧ Below w.heap.size w w' := by
  have hB := Below.refl w.heap.size w
  have hs := Nat.le_refl w.heap.size
  go_enter Try.func3, Try.ntmps3
  go_wp2_with fail
  refine (play_any n A c ops _ ho (by omega)).mono ?_
  rintro e w1 ⟨A1, c1, rfl, k1, r1, hb⟩
  replace ho := ho.step hb; replace hB := below_step hB hs hb; replace hs := hB.size; clear hb
  go_wp2_with fail
  refine (hplay_any n A c ops _ ho (by omega)).mono ?_
  rintro e w2 ⟨A2, c2, rfl, k2, r2, hb⟩
  replace ho := ho.step hb; replace r1 := r1.step hb; replace hB := below_step hB hs hb; replace hs := hB.size; clear hb
  go_wp2_with fail
  refine (equalI_same A1 A2 c1 c2 (plL n ops) _ r1 r2).mono ?_
  rintro e w3 ⟨rfl, hb⟩
  replace hB := below_step hB hs hb
  go_wp2_with fail
  go_ret
  exact ⟨rfl, hB⟩

theorem urun_at (n : Nat) : ∀ (ops : List SOp) (s : Nat → Nat) (k : Nat), k < ops.length → zd (urun n s ops) k = uans n (ust n s (ops.take k)) (tr3 ops k)
  | [], _, k, h => by simp at h
  | o :: os, s, 0, _ => rfl
  | o :: os, s, k + 1, h => by
    have := urun_at n os (ustep n s o) k (by simpa using h)
    simpa [zd, tr3, urun, ust] using this
theorem jns_take (n : Nat) (ops : List SOp) (k : Nat) (hk : k < ops.length) : jns n id (ops.take (k + 1)) = jns n id (ops.take k) + (if joins1 n (ust n id (ops.take k)) (tr3 ops k) = true then 1 else 0) := by
  rw [List.take_succ_eq_append_getElem hk, jns_snoc]
  unfold tr3
  simp [List.getD, hk]
theorem ask_same {N : Nat} (hN : N ≤ 200) (ops : List SOp) {i j : Nat} (hi : i < N) (hj : j < N) : askV (N : Int) ops (2, (i : Int), (j : Int)) = if ust N id ops i = ust N id ops j then 1 else 0 := by
  unfold askV
  rw [if_pos (by omega)]
  exact (u_same hi hj).1
theorem jns_le (n : Nat) : ∀ (ops : List SOp) (s : Nat → Nat), jns n s ops ≤ ops.length
  | [], _ => Nat.le_refl _
  | o :: os, s => by
    have := jns_le n os (ustep n s o)
    show (if joins1 n s o = true then 1 else 0) + jns n (ustep n s o) os ≤ os.length + 1
    split <;> omega

set_option maxHeartbeats 8000000 in
theorem ucount_any (n : Int) (A : Option Addr) (c : Nat) (ops : List SOp) (w : World) (ho : Rd3 w w.heap.size A ops) (hl : ops.length ≤ 1048576) :
    Calls Try.prog 6 #[.int .i64 n, .slice A ops.length c] w fun e w' => e = .returned (.bool true) ∧ Below w.heap.size w w' := by
  have hB := Below.refl w.heap.size w
  have hs := Nat.le_refl w.heap.size
  go_enter Try.func6, Try.ntmps6
  go_wp2_with fail
  refine (alive8_any _).mono ?_
  rintro e w1 ⟨rfl, hb⟩
  replace ho := ho.step hb; replace hB := below_step hB hs hb; replace hs := hB.size; clear hb
  go_wp2_with fail
  refine (play_any n A c ops _ ho (by omega)).mono ?_
  rintro e w2 ⟨A1, c1, rfl, k1, r1, hb⟩
  replace ho := ho.step hb; replace hB := below_step hB hs hb; replace hs := hB.size; clear hb
  have hln := plL_len n ops
  by_cases h : 0 ≤ n ∧ n ≤ 200
  · obtain ⟨N, rfl⟩ : ∃ N : Nat, n = (N : Int) := ⟨n.toNat, by omega⟩
    have hN : N ≤ 200 := by omega
    rw [if_pos h] at hln
    have hE : plE (N : Int) = 0 := if_pos h
    have hL : plL (N : Int) ops = urun N id ops := if_pos h
    rw [hE, hL]
    rw [hL] at hln r1
    obtain ⟨L, hLe⟩ : ∃ L, L = urun N id ops := ⟨_, rfl⟩
    have hat : Hid (∀ k, k < ops.length → zd L k = uans N (ust N id (ops.take k)) (tr3 ops k)) := by rw [hLe]; exact fun k hk => urun_at N ops id k hk
    rw [← hLe] at r1 hln ⊢
    have HLN := Lib.hid hln
    rw [hln]
    clear hE hL hLe h k1 hln
    go_wp2_with fail
    obtain ⟨wa, rfl⟩ : ∃ wa : World, wa = w2 := ⟨_, rfl⟩
    go_loopw [7, 40] (fun j i wr => ∃ k : Nat, k ≤ ops.length ∧ i = .int .i64 k ∧ j = .int .i64 ((jns N id (ops.take k) : Nat) : Int) ∧ Below wa.heap.size wa wr) (fun _ i _ => ops.length - (intOf i).toNat)
    case atStart => exact ⟨0, Nat.zero_le _, rfl, rfl, Below.refl _ _⟩
    case round =>
      obtain ⟨k, hk, rfl, rfl, hb⟩ := hrel
      by_cases hlt : k < ops.length
      · obtain ⟨b, off, rfl, hbl, hc⟩ := ho.rd (by omega)
        obtain ⟨q0, q1, q2⟩ := hc k hlt
        replace q0 := (hb.cell (p := ⟨b, off + k * 3, none⟩) hbl).trans q0
        replace q1 := (hb.cell (p := ⟨b, off + k * 3 + 1, none⟩) hbl).trans q1
        replace q2 := (hb.cell (p := ⟨b, off + k * 3 + 2, none⟩) hbl).trans q2
        obtain ⟨b1, off1, rfl, hbl1, hc1⟩ := r1.rd (by have := HLN.out; omega)
        have q3 : wr.cell? ⟨b1, off1 + k, none⟩ = some (.int .i64 (zd L k)) := (hb.cell (p := ⟨b1, off1 + k, none⟩) hbl1).trans (hc1 k (by have := HLN.out; omega))
        have hj := Lib.hid (jns_take N ops k hlt)
        have hjl := jns_le N (ops.take k) id
        rw [List.length_take] at hjl
        have HJ := uans_join (n := N) (s := ust N id (ops.take k)) (o := tr3 ops k)
        rw [← hat.out k hlt] at HJ
        obtain ⟨J, hJ⟩ : ∃ J, J = jns N id (ops.take k) := ⟨_, rfl⟩
        rw [← hJ] at hj hjl ⊢
        obtain ⟨b2, hb2⟩ : ∃ b2, b2 = joins1 N (ust N id (ops.take k)) (tr3 ops k) := ⟨_, rfl⟩
        rw [← hb2] at hj HJ
        obtain ⟨T, hT⟩ : ∃ T, T = tr3 ops k := ⟨_, rfl⟩
        rw [← hT] at q0 q1 q2 HJ
        obtain ⟨z, hz⟩ : ∃ z, z = zd L k := ⟨_, rfl⟩
        rw [← hz] at q3 HJ
        clear hc hc1 hJ hb2 hT hz
        obtain ⟨K, I, JJ⟩ := T
        dsimp only at q0 q1 q2 HJ
        have e1 := World.alloc_heap_new wr (.cells #[.int .i64 K, .int .i64 I, .int .i64 JJ] 32)
        have hb3 := hb.alloc hb.size (.cells #[.int .i64 K, .int .i64 I, .int .i64 JJ] 32)
        have hbw := (Below.refl wr.heap.size wr).alloc (Nat.le_refl _) (.cells #[.int .i64 K, .int .i64 I, .int .i64 JJ] 32)
        have q4 := (hbw.cell (p := ⟨b1, off1 + k, none⟩) (by have := hb.size; show b1 < _; omega)).trans q3
        obtain ⟨w3, hw3⟩ : ∃ w3, w3 = wr.alloc (.cells #[.int .i64 K, .int .i64 I, .int .i64 JJ] 32) := ⟨_, rfl⟩
        rw [← hw3] at e1 hb3 q4
        have HW3 := Lib.hid hw3
        have b0 : w3.cell? ⟨wr.heap.size, 0, none⟩ = some (.int .i64 K) := by simp only [World.cell?, e1]; rfl
        clear hbw e1 hw3
        go_upto_region 10 with fail
        rw [← HW3.out]
        clear q0 q1 q2 q3
        by_cases k1 : K = 1
        · subst k1
          by_cases z1 : z = 1
          · subst z1
            obtain rfl : b2 = true := by rw [← HJ]; rfl
            clear HJ
            go_wp2_with fail
            go_roundw
            case rel => exact ⟨k + 1, by omega, by go_num, by rw [hj.out]; go_num, hb3⟩
            case measure => simp [intOf]; omega
          · obtain rfl : b2 = false := by rw [← HJ]; simp [z1]
            have z2 : (z == 1) = false := by simpa using z1
            clear HJ
            go_wp2_with fail
            go_roundw
            case rel => exact ⟨k + 1, by omega, by go_num, by rw [hj.out]; rfl, hb3⟩
            case measure => simp [intOf]; omega
        · obtain rfl : b2 = false := by rw [← HJ]; simp [k1]
          have z2 : (K == 1) = false := by simpa using k1
          clear HJ
          go_wp2_with fail
          go_roundw
          case rel => exact ⟨k + 1, by omega, by go_num, by rw [hj.out]; rfl, hb3⟩
          case measure => simp [intOf]; omega
      · obtain rfl : k = ops.length := by omega
        rw [List.take_length]
        replace ho := ho.step hb
        replace hB := below_step hB hs hb
        replace hs := hB.size
        have HH := Lib.hid (heads_joins N ops)
        have hjl := jns_le N ops id
        obtain ⟨J, hJ⟩ : ∃ J, J = jns N id ops := ⟨_, rfl⟩
        rw [← hJ] at HH hjl ⊢
        have hsame := Lib.hid (fun (i j : Nat) (hi : i < N) (hj : j < N) => ask_same hN ops hi hj)
        obtain ⟨s, hse⟩ : ∃ s, s = ust N id ops := ⟨_, rfl⟩
        rw [← hse] at HH hsame
        clear hat hb r1 hJ hk hlt hse
        go_wp2_with fail
        obtain ⟨wd, rfl⟩ : ∃ wd : World, wd = wr := ⟨_, rfl⟩
        go_loopw [10, 59] (fun h i wx => ∃ x : Nat, x ≤ N ∧ i = .int .i64 x ∧ h = .int .i64 (((List.range x).countP (headB s) : Nat) : Int) ∧ Below wd.heap.size wd wx) (fun _ i _ => N - (intOf i).toNat)
        case atStart => exact ⟨0, Nat.zero_le _, rfl, rfl, Below.refl _ _⟩
        case round =>
          obtain ⟨x, hx, rfl, rfl, hb⟩ := hrel
          have hcl : (List.range x).countP (headB s) ≤ x := by have := List.countP_le_length (p := headB s) (l := List.range x); simpa using this
          by_cases hxl : x < N
          · have hcs := Lib.hid (show (List.range (x + 1)).countP (headB s) = (List.range x).countP (headB s) + (if headB s x = true then 1 else 0) by rw [List.range_succ, List.countP_append, List.countP_singleton])
            obtain ⟨C, hC⟩ : ∃ C, C = (List.range x).countP (headB s) := ⟨_, rfl⟩
            rw [← hC] at hcs hcl ⊢
            have hh0 : Hid (headB s x = (List.range x).all fun j => !(s j == s x)) := rfl
            obtain ⟨hb0, hbe⟩ : ∃ hb0, hb0 = headB s x := ⟨_, rfl⟩
            rw [← hbe] at hcs hh0
            clear hC hbe
            go_wp2_with fail
            obtain ⟨we, rfl⟩ : ∃ we : World, we = wr := ⟨_, rfl⟩
            go_loopw [12, 63] (fun f i wy => ∃ y : Nat, y ≤ x ∧ i = .int .i64 y ∧ f = .bool ((List.range y).all fun j => !(s j == s x)) ∧ Below wd.heap.size wd wy) (fun _ i _ => x - (intOf i).toNat)
            case atStart => exact ⟨0, Nat.zero_le _, rfl, rfl, hb⟩
            case round =>
              obtain ⟨y, hy, rfl, rfl, hb2⟩ := hrel
              by_cases hyl : y < x
              · have hst : (List.range (y + 1)).all (fun j => !(s j == s x)) = ((List.range y).all (fun j => !(s j == s x)) && !(s y == s x)) := by rw [List.range_succ, List.all_append]; simp
                have hST := Lib.hid hst
                obtain ⟨F, hF⟩ : ∃ F, F = (List.range y).all (fun j => !(s j == s x)) := ⟨_, rfl⟩
                rw [← hF] at hST ⊢
                clear hst hF
                cases F with
                | false =>
                  go_wp2_with fail
                  go_roundw
                  case rel => exact ⟨y + 1, by omega, by go_num, by rw [hST.out]; rfl, hb2⟩
                  case measure => simp [intOf]; omega
                | true =>
                  have hask := asks_any (N : Int) A c ops 2 (y : Int) (x : Int) wr ((ho.below hb2).more hb2.size) hl ⟨by dsimp only; omega, by dsimp only; omega, by dsimp only; omega⟩
                  rw [hsame.out y x (by omega) hxl] at hask
                  by_cases e : s y = s x
                  · rw [if_pos e] at hask
                    have hV := Lib.hid (show (!(s y == s x)) = false by simp [e])
                    clear e
                    go_wp2_with fail
                    refine hask.mono ?_
                    rintro e w4 ⟨rfl, hb4⟩
                    replace hb2 := below_step hb2 hb2.size hb4
                    clear hb4 hask
                    go_wp2_with fail
                    go_roundw
                    case rel => exact ⟨y + 1, by omega, by go_num, by rw [hST.out, hV.out]; rfl, hb2⟩
                    case measure => simp [intOf]; omega
                  · rw [if_neg e] at hask
                    have hV := Lib.hid (show (!(s y == s x)) = true by simp [e])
                    clear e
                    go_wp2_with fail
                    refine hask.mono ?_
                    rintro e w4 ⟨rfl, hb4⟩
                    replace hb2 := below_step hb2 hb2.size hb4
                    clear hb4 hask
                    go_wp2_with fail
                    go_roundw
                    case rel => exact ⟨y + 1, by omega, by go_num, by rw [hST.out, hV.out]; rfl, hb2⟩
                    case measure => simp [intOf]; omega
              · obtain rfl : x = y := by omega
                rw [← hh0.out]
                cases hb0 with
                | true =>
                  go_wp2_with fail
                  go_roundw
                  case rel => exact ⟨x + 1, by omega, by go_num, by rw [hcs.out]; go_num, hb2⟩
                  case measure => simp [intOf]; omega
                | false =>
                  go_wp2_with fail
                  go_roundw
                  case rel => exact ⟨x + 1, by omega, by go_num, by rw [hcs.out]; rfl, hb2⟩
                  case measure => simp [intOf]; omega
          · obtain rfl : N = x := by omega
            have hfin : (((List.range N).countP (headB s) : Nat) : Int) = (N : Int) - (J : Int) := by have := HH.out; omega
            have hJN : J ≤ N := by have := HH.out; omega
            rw [hfin]
            have HFB : Hid (Below w.heap.size w wr) := below_step hB hs hb
            clear hb hcl hxl hx hfin
            go_wp2_with fail
            go_ret
            exact ⟨rfl, HFB.out⟩
  · have hE : plE n = 2 := if_neg h
    have hL : plL n ops = [] := if_neg h
    rw [hE, hL]
    clear hE hL hln h r1 k1
    go_wp2_with fail
    go_ret
    exact ⟨rfl, hB⟩
end Go.Proofs.Ytafhljjekpaehaa
