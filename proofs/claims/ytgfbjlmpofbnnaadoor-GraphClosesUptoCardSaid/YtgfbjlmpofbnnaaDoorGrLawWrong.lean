/-
  The law GraphWrong: graph.Wrong and the reference's BWrong answer the same, for every graph.
-/
import Derived.Test.YtgfbjlmpofbnnaaDoorGrV
import Derived.Deep.RegionHeld3
import Derived.Deep.DrawnRows
namespace Go.Proofs.YtgfbjlmpofbnnaaDoor
open Go.RowKit Go.Shelf
set_option maxRecDepth 100000
attribute [local go_sem ↓] Go.wp_at_zero Go.wp_at_succ

/-- the graph's box, and all that lay when it was made, lie as they lay -/
abbrev HeldG (w1 : World) (B : Nat) (N : Int) (A : Option Addr) (l c : Nat) (w' : World) : Prop := w'.cell? ⟨B, 0, none⟩ = some (.int .i64 N) ∧ w'.cell? ⟨B, 1, none⟩ = some (.slice A l c) ∧ Below w1.heap.size w1 w'

theorem HeldG.drew {w1 W : World} {B : Nat} {N : Int} {A : Option Addr} {l c : Nat} (h : HeldG w1 B N A l c W) : HeldG w1 B N A l c W.drew := ⟨h.1, h.2.1, h.2.2.drew⟩
theorem HeldG.step {w1 W w2 : World} {B : Nat} {N : Int} {A : Option Addr} {l c : Nat} (h : HeldG w1 B N A l c W) (hs : B < w1.heap.size) (hb : Below W.heap.size W w2) : HeldG w1 B N A l c w2 := by
  have hlt : B < W.heap.size := Nat.lt_of_lt_of_le hs h.2.2.size
  exact ⟨(hb.cell (p := ⟨B, 0, none⟩) hlt).trans h.1, (hb.cell (p := ⟨B, 1, none⟩) hlt).trans h.2.1, h.2.2.trans (hb.mono h.2.2.size)⟩

set_option maxHeartbeats 2000000 in
theorem wrongLaw_any (A : Option Addr) (c : Nat) (N : Int) (es : List (Int × Int)) (w : World) (he : RdE w w.heap.size A es) (_hl : es.length ≤ 1048576) (hT : Tab w) :
    Calls Tryd.prog 3 #[.agg #[.int .i64 N, .slice A es.length c]] w fun e w' => e = .returned (.bool true) ∧ Below w.heap.size w w' := by
  go_enter Tryd.func3, Tryd.ntmps3
  go_wp2_with fail
  have hG := GBox.new w N A es.length c 24
  obtain ⟨w1, hw1⟩ : ∃ w1, w1 = w.alloc (.cells #[.int .i64 N, .slice A es.length c] 24) := ⟨_, rfl⟩
  have hb1 : Below w.heap.size w w1 := by rw [hw1]; exact below_alloc _ _
  have hs1 : w.heap.size < w1.heap.size := by rw [hw1]; simp
  rw [← hw1] at hG ⊢
  have he1 := he.step hb1
  have hT1 := hT.step hb1
  have hTn := hT1.pos
  obtain ⟨B, hB⟩ : ∃ B, B = w.heap.size := ⟨_, rfl⟩
  rw [← hB] at hG hs1 ⊢
  have hgn := hG.n
  have hge := hG.e
  have hb0 := Below.refl w1.heap.size w1
  clear hw1 hB
  obtain ⟨E, hE⟩ : ∃ E, E = errn N es := ⟨_, rfl⟩
  have hE1 : ∀ W, HeldG w1 B N A es.length c W → Calls Tryd.prog 10 #[.agg #[.int .i64 N, .slice A es.length c]] W fun e w' => e = .returned (.int .i64 E) ∧ HeldG w1 B N A es.length c w' := fun W h => by
    rw [hE]; exact (wrong_any A c N es W ((he1.below h.2.2).more h.2.2.size) (hT1.step h.2.2)).mono fun e w' ⟨h1, h2⟩ => ⟨h1, h.step hs1 h2⟩
  have hE2 : ∀ W, HeldG w1 B N A es.length c W → Calls Tryd.prog 11 #[.agg #[.int .i64 N, .slice A es.length c]] W fun e w' => e = .returned (.int .i64 E) ∧ HeldG w1 B N A es.length c w' := fun W h => by
    rw [hE]; exact (bwrong_any A c N es W ((he1.below h.2.2).more h.2.2.size)).mono fun e w' ⟨h1, h2⟩ => ⟨h1, h.step hs1 h2⟩
  have H1 := Lib.hid hE1
  have H2 := Lib.hid hE2
  clear hE hE1 hE2 he he1 hT hT1 hG
  go_region_held3 (HeldG w1 B N A es.length c)
    (first
      | (go_split_ands; refine ⟨?_, ?_, ?_⟩ <;> assumption)
      | (go_split_ands; exact HeldG.drew ⟨‹_›, ‹_›, ‹_›⟩))
    (first
      | (go_at_call 10; refine (H1.out _ (by assumption)).mono ?_; rintro e w2 ⟨rfl, hb2⟩)
      | (go_at_call 11; refine (H2.out _ (by assumption)).mono ?_; rintro e w3 ⟨rfl, hb3⟩))
  all_goals
    go_wp2
    go_ret
    exact ⟨rfl, hb1.trans (hb3.2.2.mono hb1.size)⟩
end Go.Proofs.YtgfbjlmpofbnnaaDoor
