/-
  The law UfindOrder answers true, for every slice of at most 2^20 operations.
-/
import Derived.Test.YtafhljjekpaehaaUfLawC
import Derived.Test.YtafhljjekpaehaaUfRv
namespace Go.Proofs.Ytafhljjekpaehaa
open Go.RowKit Go.Shelf
set_option maxRecDepth 100000

theorem ask_turn (n : Int) (ops : List SOp) (i j : Int) : askV n (turnd ops) (2, i, j) = askV n ops (2, i, j) := by
  unfold askV
  split
  · by_cases h : inS n.toNat i = true ∧ inS n.toNat j = true
    · obtain ⟨h1, h2⟩ := h
      rw [inS_iff] at h1 h2
      obtain ⟨a, rfl⟩ : ∃ a : Nat, i = (a : Int) := ⟨i.toNat, by omega⟩
      obtain ⟨b, rfl⟩ : ∃ b : Nat, j = (b : Int) := ⟨j.toNat, by omega⟩
      rw [(u_same (by omega) (by omega)).1, (u_same (by omega) (by omega)).1]
      by_cases e : ust n.toNat id ops a = ust n.toNat id ops b
      · rw [if_pos e, if_pos ((turnd_same ops a b).2 e)]
      · rw [if_neg e, if_neg fun h => e ((turnd_same ops a b).1 h)]
    · have hno : inS n.toNat i = false ∨ inS n.toNat j = false := by
        rcases Bool.eq_false_or_eq_true (inS n.toNat i) with h1 | h1
        · rcases Bool.eq_false_or_eq_true (inS n.toNat j) with h2 | h2
          · exact absurd ⟨h1, h2⟩ h
          · exact .inr h2
        · exact .inl h1
      rw [(u_no (.inr (.inl ⟨by decide, hno⟩))).1, (u_no (.inr (.inl ⟨by decide, hno⟩))).1]
  · rfl
theorem set_same {l : List Value} {k : Nat} {v : Value} (h : l[k]? = some v) : l.set k v = l := by
  obtain ⟨hk, e⟩ := List.getElem?_eq_some_iff.1 h
  rw [← e]
  exact List.set_getElem_self hk
theorem Own3.put2 {T : TypeId} {w : World} {base g n c : Nat} {f : Nat → SOp} (h : Own3 T w base g n c f) {k : Nat} (hk : k < n) (y z : Int) :
    Own3 T ((w.setCell ⟨g, k * 3 + 1, none⟩ (.int .i64 y)).setCell ⟨g, k * 3 + 2, none⟩ (.int .i64 z)) base g n c (fun j => if j = k then ((f k).1, y, z) else f j) := by
  unfold Own3
  have h1 := sVals_at ((List.range n).map f) k (by simpa using hk)
  rw [tr3_map f hk] at h1
  rw [← sVals_put f hk ((f k).1, y, z), set_same h1.1]
  exact ((h.stored (k * 3 + 1) (.int .i64 y)).1.stored (k * 3 + 2) (.int .i64 z)).1
theorem turnd_eq (ops : List SOp) : (List.range ops.length).map (fun k => swp (tr3 ops.reverse k)) = turnd ops := by
  have h := list_tr3 ops.reverse
  rw [List.length_reverse] at h
  unfold turnd
  have h2 : ops.reverse.map swp = ((List.range ops.length).map (tr3 ops.reverse)).map swp := by rw [h]
  rw [h2, List.map_map]
  rfl
theorem In3.swp {t : SOp} (h : In3 t) : In3 (swp t) := ⟨h.1, h.2.2, h.2.1⟩

set_option maxHeartbeats 8000000 in
theorem uorder_any (n : Int) (A : Option Addr) (c : Nat) (ops : List SOp) (i j : Int) (w : World) (ho : Rd3 w w.heap.size A ops) (hl : ops.length ≤ 1048576) (hi : -9223372036854775808 ≤ i ∧ i ≤ 9223372036854775807) (hj : -9223372036854775808 ≤ j ∧ j ≤ 9223372036854775807) :
    Calls Try.prog 5 #[.int .i64 n, .slice A ops.length c, .int .i64 i, .int .i64 j] w fun e w' => e = .returned (.bool true) ∧ Below w.heap.size w w' := by
  have hB := Below.refl w.heap.size w
  have hs := Nat.le_refl w.heap.size
  go_enter Try.func5, Try.ntmps5
  go_wp2_with fail
  refine (alive8_any _).mono ?_
  rintro e w1 ⟨rfl, hb⟩
  replace ho := ho.step hb; replace hB := below_step hB hs hb; replace hs := hB.size; clear hb
  go_wp2_with fail
  refine (cloneS_any A c ops _ ho (by omega)).mono ?_
  rintro e w2 ⟨v2, rfl, hown, hb⟩
  have hs2 := hB.size
  have hg1 : w1.heap.size ≤ w2.heap.size := hb.size
  have HO1 : Hid (Rd3 w1 w1.heap.size A ops) := ho
  rcases Nat.eq_zero_or_pos ops.length with h0 | hp
  · obtain rfl : ops = [] := List.length_eq_zero_iff.1 h0
    obtain ⟨A2, c2, rfl⟩ : ∃ A2 c2, v2 = .slice A2 0 c2 := by
      rcases hown.2 with ⟨h, _⟩ | ⟨g, cap, cur, h, _⟩
      · exact ⟨_, _, h⟩
      · exact ⟨_, _, h⟩
    go_wp2_with fail
    refine (revS_none A2 c2 _).mono ?_
    rintro e w3 ⟨rfl, rfl⟩
    go_wp2_with fail
    go_loopw [20] (fun s wr => s = .int .i64 0 ∧ wr = w3) (fun _ _ => 0)
    case atStart => exact ⟨rfl, rfl⟩
    case round =>
      obtain ⟨rfl, rfl⟩ := hrel
      have ht : Rd3 wr wr.heap.size A2 (turnd []) := ⟨fun k => by simp [tr3, turnd, In3], by simp [turnd], fun h => by simp [turnd] at h⟩
      have hb3 : Below w1.heap.size w1 wr := hb
      obtain ⟨ops, hops⟩ : ∃ ops : List SOp, ops = [] := ⟨_, rfl⟩
      rw [← hops] at ht HO1
      have hol : ops.length = 0 := by rw [hops]; rfl
      have hl : ops.length ≤ 1048576 := by omega
      clear hb hown h0
      have e1 := World.alloc_heap_new wr (.cells #[.int .i64 2, .int .i64 i, .int .i64 j] 32)
      have hb4 := (Below.refl wr.heap.size wr).alloc (Nat.le_refl _) (.cells #[.int .i64 2, .int .i64 i, .int .i64 j] 32)
      have hlt4 : wr.heap.size < (wr.alloc (.cells #[.int .i64 2, .int .i64 i, .int .i64 j] 32)).heap.size := by simp
      have ho4 := ((HO1.out.below hb3).more hb3.size).step hb4
      have ht4 := ht.step hb4
      have hB4 : Below w.heap.size w (wr.alloc (.cells #[.int .i64 2, .int .i64 i, .int .i64 j] 32)) := below_step (below_step hB hs hb3) (by have := hb3.size; omega) hb4
      obtain ⟨B, hBe⟩ : ∃ B, B = wr.heap.size := ⟨_, rfl⟩
      obtain ⟨w4, hw4⟩ : ∃ w4, w4 = wr.alloc (.cells #[.int .i64 2, .int .i64 i, .int .i64 j] 32) := ⟨_, rfl⟩
      rw [← hw4] at e1 hlt4 ho4 ht4 hB4
      rw [← hBe] at e1 hlt4
      have b0 : w4.cell? ⟨B, 0, none⟩ = some (.int .i64 2) := by simp only [World.cell?, e1]; rfl
      have b1 : w4.cell? ⟨B, 1, none⟩ = some (.int .i64 i) := by simp only [World.cell?, e1]; rfl
      have b2 : w4.cell? ⟨B, 2, none⟩ = some (.int .i64 j) := by simp only [World.cell?, e1]; rfl
      have HW4 := Lib.hid hw4
      have HBe := Lib.hid hBe
      have htl : (turnd ops).length = ops.length := by simp [turnd]
      have H1 : Hid (∀ W : World, HeldU3 w4 B (2, i, j) W → Calls Try.prog 12 #[.int .i64 n, .slice A 0 c, .agg #[.int .i64 2, .int .i64 i, .int .i64 j]] W fun e w' => e = .returned (.int .i64 (askV n ops (2, i, j))) ∧ HeldU3 w4 B (2, i, j) w') := Lib.hid fun W hW => by
        have := asks_any n A c ops 2 i j W ((ho4.below hW.2.2.2).more hW.2.2.2.size) hl ⟨by dsimp only; omega, hi, hj⟩
        rw [hol] at this
        exact this.mono fun e w' h => ⟨h.1, hW.step hlt4 h.2⟩
      have H2 : Hid (∀ W : World, HeldU3 w4 B (2, i, j) W → Calls Try.prog 12 #[.int .i64 n, .slice A2 0 c2, .agg #[.int .i64 2, .int .i64 i, .int .i64 j]] W fun e w' => e = .returned (.int .i64 (askV n ops (2, i, j))) ∧ HeldU3 w4 B (2, i, j) w') := Lib.hid fun W hW => by
        have := asks_any n A2 c2 (turnd ops) 2 i j W ((ht4.below hW.2.2.2).more hW.2.2.2.size) (by omega) ⟨by dsimp only; omega, hi, hj⟩
        rw [htl, ask_turn] at this
        rw [hol] at this
        exact this.mono fun e w' h => ⟨h.1, hW.step hlt4 h.2⟩
      have hb0 := Below.refl w4.heap.size w4
      obtain ⟨V, hV⟩ : ∃ V, V = askV n ops (2, i, j) := ⟨_, rfl⟩
      rw [← hV] at H1 H2
      clear ho4 ht4 hw4 hBe e1 htl ht hb3 hV
      go_upto_region 11 with fail
      rw [← HW4.out, ← HBe.out]
      go_region_held3 (HeldU3 w4 B (2, i, j))
        (first
          | (go_split_ands; refine ⟨?_, ?_, ?_, ?_⟩ <;> assumption)
          | (go_split_ands; exact HeldU3.drew ⟨‹_›, ‹_›, ‹_›, ‹_›⟩))
        (first
          | (go_at_call 12; with_reducible refine (H1.out _ (by assumption)).mono ?_; rintro e w5 ⟨rfl, hq5⟩)
          | (go_at_call 12; with_reducible refine (H2.out _ (by assumption)).mono ?_; rintro e w6 ⟨rfl, hq6⟩))
      all_goals
        go_wp2_with fail
        go_ret
        exact ⟨rfl, below_step hB4 (by have := hB4.size; omega) hq6.2.2.2⟩
  · obtain ⟨g, cap, rfl, hbg, hgl⟩ : ∃ g cap, v2 = .slice (some ⟨g, 0, none⟩) ops.length cap ∧ w1.heap.size ≤ g ∧ g < w2.heap.size := by
      rcases hown.2 with ⟨_, h⟩ | ⟨g, cap, cur, h, hbg, hg, _⟩
      · omega
      · exact ⟨g, cap, h, hbg, (Array.getElem?_eq_some_iff.1 hg).1⟩
    have hOw : Own3 32 w2 w1.heap.size g ops.length cap (tr3 ops) := by unfold Own3; rw [list_tr3]; exact hown
    clear hown
    go_wp2_with fail
    refine (revS_any w1.heap.size g cap ops _ hl hp hOw).mono ?_
    rintro e w3 ⟨rfl, hO3, hb3⟩
    have hb4 : Below w1.heap.size w1 w3 := hb.trans hb3
    have H0 : Own3 32 w3 w1.heap.size g ops.length cap (fun k => if k < 0 then swp (tr3 ops.reverse k) else tr3 ops.reverse k) := hO3.congr fun k _ => by rw [if_neg (by omega)]
    have HT := Lib.hid (turnd_eq ops)
    obtain ⟨r, hr⟩ : ∃ r, r = tr3 ops.reverse := ⟨_, rfl⟩
    rw [← hr] at H0 HT
    clear hO3 hOw hb hb3 hr
    go_wp2_with fail
    obtain ⟨wo, rfl⟩ : ∃ wo : World, wo = w3 := ⟨_, rfl⟩
    go_loopw [20] (fun s wr => ∃ x : Nat, x ≤ ops.length ∧ s = .int .i64 x ∧ Own3 32 wr w1.heap.size g ops.length cap (fun k => if k < x then swp (r k) else r k) ∧ Below w1.heap.size w1 wr) (fun s _ => ops.length - (RowKit.intOf s).toNat)
    case atStart => exact ⟨0, Nat.zero_le _, rfl, H0, hb4⟩
    case round =>
      obtain ⟨x, hx, rfl, hrw, hbw⟩ := hrel
      clear H0 hb4
      by_cases hlt : x < ops.length
      · obtain ⟨a0, a1, a2⟩ := hrw.cells hlt
        rw [if_neg (by omega)] at a0 a1 a2
        have f1 := hrw.frozen (x * 3 + 1)
        have f2 := hrw.frozen (x * 3 + 2)
        have fin := (hrw.put2 hlt (r x).2.2 (r x).2.1).congr (f' := fun k => if k < x + 1 then swp (r k) else r k) fun k _ => by
          by_cases e : k = x
          · subst e; rw [if_pos rfl, if_neg (by omega), if_pos (by omega)]; rfl
          · rw [if_neg e]
            by_cases e2 : k < x
            · rw [if_pos e2, if_pos (by omega)]
            · rw [if_neg e2, if_neg (by omega)]
        have hb5 := (hbw.setCell (p := ⟨g, x * 3 + 1, none⟩) hbg (.int .i64 (r x).2.2)).setCell (p := ⟨g, x * 3 + 2, none⟩) hbg (.int .i64 (r x).2.1)
        obtain ⟨t0, t1, t2⟩ : ∃ t0 t1 : Int, t0 = (r x).2.1 ∧ t1 = (r x).2.2 := ⟨_, _, rfl, rfl⟩
        rw [← t2.1] at a1 fin hb5
        rw [← t2.2] at a2 fin hb5
        have FIN := Lib.hid fin
        have HB5 := Lib.hid hb5
        have hmo : Try.prog.follows .mixedOrders = true := by kernel_rfl
        clear hrw hbw fin hb5 t2 a0
        go_wp2_with fail
        go_region_o
        go_wp2_with fail
        go_roundw
        case rel => exact ⟨x + 1, by omega, by go_num, FIN.out.drew, HB5.out.drew⟩
        case measure => simp [intOf]; omega
      · obtain rfl : x = ops.length := by omega
        have ht : Rd3 wr wr.heap.size (some ⟨g, 0, none⟩) (turnd ops) := by
          have h1 := hrw.congr (f' := fun k => swp (r k)) fun k hk => by rw [if_pos hk]
          unfold Own3 at h1
          rw [HT.out] at h1
          exact own_rd3 h1 (by simp [turnd]) (fun t ht => by
            unfold turnd at ht
            obtain ⟨q, hq, rfl⟩ := List.mem_map.1 ht
            exact (HO1.out.mem q (List.mem_reverse.1 hq)).swp) (by omega)
        have hb3 : Below w1.heap.size w1 wr := hbw
        clear hrw hbw hlt hx
        have e1 := World.alloc_heap_new wr (.cells #[.int .i64 2, .int .i64 i, .int .i64 j] 32)
        have hb4 := (Below.refl wr.heap.size wr).alloc (Nat.le_refl _) (.cells #[.int .i64 2, .int .i64 i, .int .i64 j] 32)
        have hlt4 : wr.heap.size < (wr.alloc (.cells #[.int .i64 2, .int .i64 i, .int .i64 j] 32)).heap.size := by simp
        have ho4 := ((HO1.out.below hb3).more hb3.size).step hb4
        have ht4 := ht.step hb4
        have hB4 : Below w.heap.size w (wr.alloc (.cells #[.int .i64 2, .int .i64 i, .int .i64 j] 32)) := below_step (below_step hB hs hb3) (by have := hb3.size; omega) hb4
        obtain ⟨B, hBe⟩ : ∃ B, B = wr.heap.size := ⟨_, rfl⟩
        obtain ⟨w4, hw4⟩ : ∃ w4, w4 = wr.alloc (.cells #[.int .i64 2, .int .i64 i, .int .i64 j] 32) := ⟨_, rfl⟩
        rw [← hw4] at e1 hlt4 ho4 ht4 hB4
        rw [← hBe] at e1 hlt4
        have b0 : w4.cell? ⟨B, 0, none⟩ = some (.int .i64 2) := by simp only [World.cell?, e1]; rfl
        have b1 : w4.cell? ⟨B, 1, none⟩ = some (.int .i64 i) := by simp only [World.cell?, e1]; rfl
        have b2 : w4.cell? ⟨B, 2, none⟩ = some (.int .i64 j) := by simp only [World.cell?, e1]; rfl
        have HW4 := Lib.hid hw4
        have HBe := Lib.hid hBe
        have htl : (turnd ops).length = ops.length := by simp [turnd]
        have H1 : Hid (∀ W : World, HeldU3 w4 B (2, i, j) W → Calls Try.prog 12 #[.int .i64 n, .slice A ops.length c, .agg #[.int .i64 2, .int .i64 i, .int .i64 j]] W fun e w' => e = .returned (.int .i64 (askV n ops (2, i, j))) ∧ HeldU3 w4 B (2, i, j) w') := Lib.hid fun W hW => by
          have := asks_any n A c ops 2 i j W ((ho4.below hW.2.2.2).more hW.2.2.2.size) hl ⟨by dsimp only; omega, hi, hj⟩
          skip
          exact this.mono fun e w' h => ⟨h.1, hW.step hlt4 h.2⟩
        have H2 : Hid (∀ W : World, HeldU3 w4 B (2, i, j) W → Calls Try.prog 12 #[.int .i64 n, .slice (some ⟨g, 0, none⟩) ops.length cap, .agg #[.int .i64 2, .int .i64 i, .int .i64 j]] W fun e w' => e = .returned (.int .i64 (askV n ops (2, i, j))) ∧ HeldU3 w4 B (2, i, j) w') := Lib.hid fun W hW => by
          have := asks_any n (some ⟨g, 0, none⟩) cap (turnd ops) 2 i j W ((ht4.below hW.2.2.2).more hW.2.2.2.size) (by omega) ⟨by dsimp only; omega, hi, hj⟩
          rw [htl, ask_turn] at this
          skip
          exact this.mono fun e w' h => ⟨h.1, hW.step hlt4 h.2⟩
        have hb0 := Below.refl w4.heap.size w4
        obtain ⟨V, hV⟩ : ∃ V, V = askV n ops (2, i, j) := ⟨_, rfl⟩
        rw [← hV] at H1 H2
        clear ho4 ht4 hw4 hBe e1 htl ht hb3 hV
        go_upto_region 11 with fail
        rw [← HW4.out, ← HBe.out]
        go_region_held3 (HeldU3 w4 B (2, i, j))
          (first
            | (go_split_ands; refine ⟨?_, ?_, ?_, ?_⟩ <;> assumption)
            | (go_split_ands; exact HeldU3.drew ⟨‹_›, ‹_›, ‹_›, ‹_›⟩))
          (first
            | (go_at_call 12; with_reducible refine (H1.out _ (by assumption)).mono ?_; rintro e w5 ⟨rfl, hq5⟩)
            | (go_at_call 12; with_reducible refine (H2.out _ (by assumption)).mono ?_; rintro e w6 ⟨rfl, hq6⟩))
        all_goals
          go_wp2_with fail
          go_ret
          exact ⟨rfl, below_step hB4 (by have := hB4.size; omega) hq6.2.2.2⟩
end Go.Proofs.Ytafhljjekpaehaa
