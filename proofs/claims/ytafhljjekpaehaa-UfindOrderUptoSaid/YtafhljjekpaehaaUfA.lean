/-
  Contract of the keep's asks, for every slice of at most 2^20 operations.
-/
import Derived.Test.YtafhljjekpaehaaUfP
import Derived.Test.YtafhljjekpaehaaUfC
import Derived.Deep.RegionHeld3
namespace Go.Proofs.Ytafhljjekpaehaa
open Go.RowKit Go.Shelf
set_option maxRecDepth 100000

/-- the last answer -/
def askV (n : Int) (ops : List SOp) (o : SOp) : Int := if 0 ≤ n ∧ n ≤ 200 then uans n.toNat (ust n.toNat id ops) o else -2
theorem plL_snoc {n : Int} (h : 0 ≤ n ∧ n ≤ 200) (ops : List SOp) (o : SOp) : zd (plL n (ops ++ [o])) ops.length = askV n ops o := by
  unfold plL askV
  rw [if_pos h, if_pos h, urun_snoc]
  unfold zd
  rw [List.getD_eq_getElem?_getD, List.getElem?_append_right (by rw [urun_len]; exact Nat.le_refl _), urun_len]
  simp

/-- a box of three ints, and all that lay -/
abbrev HeldU3 (w1 : World) (B : Nat) (t : SOp) (W : World) : Prop := W.cell? ⟨B, 0, none⟩ = some (.int .i64 t.1) ∧ W.cell? ⟨B, 1, none⟩ = some (.int .i64 t.2.1) ∧ W.cell? ⟨B, 2, none⟩ = some (.int .i64 t.2.2) ∧ Below w1.heap.size w1 W
theorem HeldU3.drew {w1 W : World} {B : Nat} {t : SOp} (h : HeldU3 w1 B t W) : HeldU3 w1 B t W.drew := ⟨h.1, h.2.1, h.2.2.1, h.2.2.2.drew⟩
theorem HeldU3.below {w1 W w2 : World} {B : Nat} {t : SOp} (h : HeldU3 w1 B t W) (hl : B < w1.heap.size) (hb : Below w1.heap.size W w2) : HeldU3 w1 B t w2 :=
  ⟨(hb.cell (p := ⟨B, 0, none⟩) hl).trans h.1, (hb.cell (p := ⟨B, 1, none⟩) hl).trans h.2.1, (hb.cell (p := ⟨B, 2, none⟩) hl).trans h.2.2.1, h.2.2.2.trans hb⟩
theorem HeldU3.step {w1 W w2 : World} {B : Nat} {t : SOp} (h : HeldU3 w1 B t W) (hl : B < w1.heap.size) (hb : Below W.heap.size W w2) : HeldU3 w1 B t w2 := h.below hl (hb.mono h.2.2.2.size)
theorem HeldU3.alloc {w1 W : World} {B : Nat} {t : SOp} (hl : B < w1.heap.size) (h : HeldU3 w1 B t W) (o : Obj) : HeldU3 w1 B t (W.alloc o) := h.step hl ((Below.refl _ _).alloc (Nat.le_refl _) _)
/-- a block of three ints -/
def TB3 (T : Nat) (t : SOp) (W : World) : Prop := W.heap[T]? = some (.cells #[.int .i64 t.1, .int .i64 t.2.1, .int .i64 t.2.2] 32 (0, 0))
theorem TB3.new {W : World} (t : SOp) : TB3 W.heap.size t (W.alloc (.cells #[.int .i64 t.1, .int .i64 t.2.1, .int .i64 t.2.2] 32)) := World.alloc_heap_new W _
theorem TB3.step {T : Nat} {t : SOp} {W W2 : World} (h : TB3 T t W) (hb : Below W.heap.size W W2) : TB3 T t W2 := (hb.block T (Array.getElem?_eq_some_iff.1 h).1).trans h
theorem own_monoQ {w : World} {B B' n size : Nat} {e : TypeId} {v : Value} {xs : List Value} (h : w.ownsRow B e size v n xs) (hB : B' ≤ B) : w.ownsRow B' e size v n xs := by
  obtain ⟨h1, h2⟩ := h
  refine ⟨h1, ?_⟩
  rcases h2 with h2 | ⟨g, cap, cur, hv, hb, hr⟩
  · exact .inl h2
  · exact .inr ⟨g, cap, cur, hv, by omega, hr⟩
theorem own_base3 {w : World} {base n size : Nat} {e : TypeId} {v : Value} {xs : List Value} (h : w.ownsRow base e size v n xs) : ∀ k, v.ownBlock = some k → base ≤ k := fun k hk => (h.lt k hk).1
theorem own_al3 {w : World} {base e size n : Nat} {v : Value} {xs : List Value} (h : w.ownsRow base e size v n xs) (o : Obj) : (w.alloc o).ownsRow base e size v n xs := h.alloc o

set_option maxHeartbeats 8000000 in
theorem asks_any (n : Int) (A : Option Addr) (c : Nat) (ops : List SOp) (K I J : Int) (w : World) (ho : Rd3 w w.heap.size A ops) (hl : ops.length ≤ 1048576) (ht : In3 (K, I, J)) :
    Calls Try.prog 12 #[.int .i64 n, .slice A ops.length c, .agg #[.int .i64 K, .int .i64 I, .int .i64 J]] w fun e w' => e = .returned (.int .i64 (askV n ops (K, I, J))) ∧ Below w.heap.size w w' := by
  obtain ⟨i0, hi, hz0, hz1, hz2⟩ := info_parts Try.infoSo
  have hmem : ∀ t ∈ ops ++ [(K, I, J)], In3 t := fun t h => by
    rcases List.mem_append.1 h with h | h
    · exact ho.mem t h
    · rw [List.mem_singleton.1 h]; exact ht
  have HB := (Below.refl w.heap.size w).alloc (Nat.le_refl _) (.cells #[.int .i64 K, .int .i64 I, .int .i64 J] 32)
  have e1 := World.alloc_heap_new w (.cells #[.int .i64 K, .int .i64 I, .int .i64 J] 32)
  have hlt : w.heap.size < (w.alloc (.cells #[.int .i64 K, .int .i64 I, .int .i64 J] 32)).heap.size := by simp
  obtain ⟨w1, hw1⟩ : ∃ w1, w1 = w.alloc (.cells #[.int .i64 K, .int .i64 I, .int .i64 J] 32) := ⟨_, rfl⟩
  obtain ⟨B, hBe⟩ : ∃ B, B = w.heap.size := ⟨_, rfl⟩
  rw [← hw1] at HB e1 hlt
  have ho1 := (ho.below HB).more HB.size
  rw [← hBe] at e1 hlt
  have b0 : w1.cell? ⟨B, 0, none⟩ = some (.int .i64 K) := by simp only [World.cell?, e1]; rfl
  have b1 : w1.cell? ⟨B, 1, none⟩ = some (.int .i64 I) := by simp only [World.cell?, e1]; rfl
  have b2 : w1.cell? ⟨B, 2, none⟩ = some (.int .i64 J) := by simp only [World.cell?, e1]; rfl
  have H1 : Hid (∀ W : World, HeldU3 w1 B (K, I, J) W → Calls Try.prog 13 #[.slice A ops.length c] W fun e w' => ∃ v', e = .returned v' ∧ w'.ownsRow w1.heap.size 32 3 v' ops.length (sVals ops) ∧ Below W.heap.size W w' ∧ HeldU3 w1 B (K, I, J) w') := Lib.hid fun W hW => by
    refine (cloneS_any A c ops W ((ho1.below hW.2.2.2).more hW.2.2.2.size) (by omega)).mono ?_
    rintro e w' ⟨v', rfl, hown, hbe⟩
    exact ⟨v', rfl, own_monoQ hown hW.2.2.2.size, hbe, hW.step hlt hbe⟩
  have H2 : Hid (∀ (W : World) (g cap : Nat), Rd3 W W.heap.size (some ⟨g, 0, none⟩) (ops ++ [(K, I, J)]) → HeldU3 w1 B (K, I, J) W → Calls Try.prog 7 #[.int .i64 n, .slice (some ⟨g, 0, none⟩) (ops.length + 1) cap] W fun e w' => ∃ A1 c1, e = .returned (.tuple #[.slice A1 (plL n (ops ++ [(K, I, J)])).length c1, .int .i64 (plE n)]) ∧ RdI w' w'.heap.size A1 (plL n (ops ++ [(K, I, J)])) ∧ HeldU3 w1 B (K, I, J) w') := Lib.hid fun W g cap hW h => by
    have := play_any n (some ⟨g, 0, none⟩) cap (ops ++ [(K, I, J)]) W hW (by simp; omega)
    rw [show (ops ++ [(K, I, J)]).length = ops.length + 1 by simp] at this
    refine this.mono ?_
    rintro e w' ⟨A1, c1, rfl, _, h2, h3⟩
    exact ⟨A1, c1, rfl, h2, h.step hlt h3⟩
  have H3 : Hid (∀ (W : World) (g cap : Nat), W.ownsRow w1.heap.size 32 3 (.slice (some ⟨g, 0, none⟩) (ops.length + 1) cap) (ops.length + 1) (sVals ops ++ [.int .i64 K, .int .i64 I, .int .i64 J]) → Rd3 W W.heap.size (some ⟨g, 0, none⟩) (ops ++ [(K, I, J)])) := Lib.hid fun W g cap h => by
    rw [← sVals_snoc ops (K, I, J)] at h
    exact own_rd3 h (by simp) hmem (by omega)
  have HLT := Lib.hid hlt
  have hb0 := Below.refl w1.heap.size w1
  have h63 : ops.length + 1 ≤ maxLen := by unfold maxLen; omega
  have h47 : (ops.length + 1) * 24 ≤ 140737488355328 := by omega
  have HW1 := Lib.hid hw1
  have HBe := Lib.hid hBe
  have HHB := Lib.hid HB
  clear ho ho1 hmem e1 hw1 hBe HB hlt ht
  go_enter Try.func12, Try.ntmps12
  go_upto_region 1 with fail
  rw [← HW1.out, ← HBe.out]
  go_cut [7, 8] from 9 to 18 (fun t u wx => ∃ A1 c1, t = .slice A1 (plL n (ops ++ [(K, I, J)])).length c1 ∧ u = .int .i64 (plE n) ∧ RdI wx wx.heap.size A1 (plL n (ops ++ [(K, I, J)])) ∧ Below w1.heap.size w1 wx)
  case first =>
    go_region_held3 (HeldU3 w1 B (K, I, J))
      (first
        | (go_split_ands; refine ⟨?_, ?_, ?_, ?_⟩ <;> assumption)
        | (go_split_ands; exact HeldU3.drew ⟨‹_›, ‹_›, ‹_›, ‹_›⟩)
        | (go_split_ands; exact HeldU3.alloc HLT.out ⟨‹_›, ‹_›, ‹_›, ‹_›⟩ _))
      (first
        | (go_at_call 13; refine (H1.out _ (by assumption)).mono ?_; rintro e w6 ⟨v6, rfl, ho6, hb6, hq6⟩; have hs6 := hq6.2.2.2.size; (try have hT6 : TB3 w1.heap.size (K, I, J) w6 := TB3.step (TB3.new (W := w1.drew) (K, I, J)) hb6))
        | (go_at_call 7; refine (H2.out _ _ _ (H3.out _ _ _ (by assumption)) (by assumption)).mono ?_; rintro e w8 ⟨A8, c8, rfl, hr8, hq8⟩)
        | (refine step_append_lies _ (by rfl) _ _ _ (by rfl) w1.heap.size 32 i0 _ 3 24 Try.underlying22 hi hz0 hz1 hz2 rfl (by omega) v6 ops.length (sVals ops) (by rfl) (own_al3 ho6 _) ⟨w6.heap.size, 0, none⟩ 1 1 [.int .i64 K, .int .i64 I, .int .i64 J] (by rfl) (by rfl) (World.news_of_block (cs := #[.int .i64 K, .int .i64 I, .int .i64 J]) (t := 32) (fr := (0, 0)) (show TB3 w6.heap.size (K, I, J) _ from TB3.new (K, I, J))) (by simp [Value.oneCell']) (by omega) h63 h47 (by first | omega | (simp; omega)) _ rfl ?_; intro gg cap w7 hown7 hgrow hat hlt7; have hq7 := HeldU3.below (by assumption) HLT.out ((Below.refl w1.heap.size _).grown hgrow (by first | omega | (simp; omega)) (own_base3 ho6)))
        | (refine step_append_lies _ (by rfl) _ _ _ (by rfl) w1.heap.size 32 i0 _ 3 24 Try.underlying22 hi hz0 hz1 hz2 rfl (by omega) v6 ops.length (sVals ops) (by rfl) ho6 ⟨w1.heap.size, 0, none⟩ 1 1 [.int .i64 K, .int .i64 I, .int .i64 J] (by rfl) (by rfl) (World.news_of_block (cs := #[.int .i64 K, .int .i64 I, .int .i64 J]) (t := 32) (fr := (0, 0)) (show TB3 w1.heap.size (K, I, J) w6 from hT6)) (by simp [Value.oneCell']) (by omega) h63 h47 (by first | omega | (simp; omega)) _ rfl ?_; intro gg cap w7 hown7 hgrow hat hlt7; have hq7 := HeldU3.below (by assumption) HLT.out ((Below.refl w1.heap.size _).grown hgrow (by first | omega | (simp; omega)) (own_base3 ho6))))
    all_goals
      go_wp2_with fail
      go_meet
      case rel => exact ⟨_, _, rfl, rfl, hr8, hq8.2.2.2⟩
  case rest =>
    obtain ⟨A1, c1, rfl, rfl, hr1, hb⟩ := hcut
    have HBB : Hid (Below w.heap.size w wc) := HHB.out.trans (hb.mono HHB.out.size)
    have hln := plL_len n (ops ++ [(K, I, J)])
    by_cases h : 0 ≤ n ∧ n ≤ 200
    · rw [if_pos h] at hln
      have hE : plE n = 0 := if_pos h
      have hV := Lib.hid (plL_snoc h ops (K, I, J))
      obtain ⟨L, hL⟩ : ∃ L, L = plL n (ops ++ [(K, I, J)]) := ⟨_, rfl⟩
      rw [← hL] at hln hr1 hV ⊢
      rw [hE]
      have hl1 : L.length = ops.length + 1 := by rw [hln]; simp
      obtain ⟨b, off, rfl, _, hc⟩ := hr1.rd (by omega)
      have hci : wc.cell? ⟨b, off + ops.length, none⟩ = some (.int .i64 (zd L ops.length)) := hc ops.length (by omega)
      rw [hV.out] at hci
      rw [hl1]
      clear hc hr1 hE hL hln hl1 hb
      go_wp2_with fail
      go_ret
      exact ⟨rfl, HBB.out⟩
    · have hE : plE n = 2 := if_neg h
      have hV : Hid (askV n ops (K, I, J) = -2) := Lib.hid (if_neg h)
      rw [hE]
      clear hE hln hr1 hb
      go_wp2_with fail
      go_ret
      exact ⟨ret_n hV.out.symm, HBB.out⟩
end Go.Proofs.Ytafhljjekpaehaa
