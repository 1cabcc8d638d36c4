/-
  alive8 answers true; the closure of the law UfindSame.
-/
import Derived.Test.YtafhljjekpaehaaUfA
import Derived.Test.YtafhljjekpaehaaBsEqI
namespace Go.Proofs.Ytafhljjekpaehaa
open Go.RowKit Go.Shelf
set_option maxRecDepth 100000

theorem same1_any (x y n : Int) (A : Option Addr) (c : Nat) (ops : List SOp) (B1 B2 : Nat) (w : World) (h1 : w.cell? ⟨B1, 0, none⟩ = some (.int .i64 n)) (h2 : w.cell? ⟨B2, 0, none⟩ = some (.slice A ops.length c)) (ho : Rd3 w w.heap.size A ops) (hl : ops.length ≤ 1048576)
    (hx : -9223372036854775808 ≤ x ∧ x ≤ 9223372036854775807) (hy : -9223372036854775808 ≤ y ∧ y ≤ 9223372036854775807) :
    Calls Try.prog 11 #[.int .i64 x, .int .i64 y, .pointer (some ⟨B1, 0, none⟩), .pointer (some ⟨B2, 0, none⟩)] w fun e w' => e = .returned (.bool (askV n ops (2, x, y) == 1)) ∧ Below w.heap.size w w' := by
  have hc := asks_any n A c ops 2 x y w ho hl ⟨by dsimp only; omega, hx, hy⟩
  clear ho hx hy
  go_enter Try.func11, Try.ntmps11
  go_wp2_with fail
  refine hc.mono ?_
  rintro e w1 ⟨rfl, hb⟩
  go_wp2_with fail
  go_ret
  exact ⟨rfl, hb⟩

theorem rd3_lit (w : World) (t : TypeId) (l : List SOp) (h : ∀ x ∈ l, In3 x) (hl : l.length ≤ 1099511627776) : Rd3 (w.alloc (.cells (sVals l).toArray t)) (w.alloc (.cells (sVals l).toArray t)).heap.size (some ⟨w.heap.size, 0, none⟩) l :=
  ⟨tr3_in h, hl, fun _ => ⟨w.heap.size, 0, rfl, by simp, fun k hk => by
    obtain ⟨h1, h2, h3⟩ := sVals_at l k hk
    have e := World.alloc_heap_new w (.cells (sVals l).toArray t)
    refine ⟨?_, ?_, ?_⟩ <;> simp only [World.cell?, e, Nat.zero_add]
    · simpa using h1
    · simpa using h2
    · simpa using h3⟩⟩
theorem rdI_litU (w : World) (t : TypeId) (zs : List Int) (h : ∀ k, -9223372036854775808 ≤ zd zs k ∧ zd zs k ≤ 9223372036854775807) (hl : zs.length ≤ 1152921504606846976) :
    RdI (w.alloc (.cells (iVals zs).toArray t)) (w.alloc (.cells (iVals zs).toArray t)).heap.size (some ⟨w.heap.size, 0, none⟩) zs :=
  ⟨fun k => (h k).1, fun k => (h k).2, hl, fun _ => ⟨w.heap.size, 0, rfl, by simp, fun k hk => by
    have h := iVals_at zs k hk
    have e := World.alloc_heap_new w (.cells (iVals zs).toArray t)
    simp only [World.cell?, e, Nat.zero_add]
    simpa using h⟩⟩
set_option maxHeartbeats 1000000 in
theorem alive8_any (w : World) :
    Calls Try.prog 10 #[] w fun e w' => e = .returned (.bool true) ∧ Below w.heap.size w w' := by
  have r0 := rd3_lit w 32 [(1, 0, 2), (2, 2, 0), (3, 2, 0), (2, 1, 2)] (by intro x hx; simp at hx; rcases hx with rfl | rfl | rfl | rfl <;> simp [In3]) (by decide)
  have hb := (Below.refl w.heap.size w).alloc (Nat.le_refl _) (.cells (sVals [(1, 0, 2), (2, 2, 0), (3, 2, 0), (2, 1, 2)]).toArray 32)
  have hs := hb.size
  go_enter Try.func10, Try.ntmps10
  go_wp2_with fail
  refine (play_any 3 _ 4 [(1, 0, 2), (2, 2, 0), (3, 2, 0), (2, 1, 2)] _ r0 (by decide)).mono ?_
  unfold PlayR
  rw [show plL 3 [(1, 0, 2), (2, 2, 0), (3, 2, 0), (2, 1, 2)] = [1, 1, 2, 0] by decide +kernel, show plE 3 = 0 by decide]
  rintro e w1 ⟨A1, c1, rfl, k1, r1, hb1⟩
  replace hb := below_step hb hs hb1
  replace hs := hb.size
  clear hb1 r0
  go_wp2_with fail
  have r2 := rdI_litU w1 3 [1, 1, 2, 0] (fun k => by have := zd_bd (l := [1, 1, 2, 0]) (lo := 0) (hi := 2) (by decide) (by decide) k; omega) (by decide)
  have hb1 := (Below.refl w1.heap.size w1).alloc (Nat.le_refl _) (.cells (iVals [1, 1, 2, 0]).toArray 3)
  replace r1 := r1.step hb1
  replace hb := below_step hb hs hb1
  replace hs := hb.size
  clear hb1
  refine (equalI_same A1 _ c1 4 [1, 1, 2, 0] _ r1 r2).mono ?_
  rintro e w2 ⟨rfl, hb1⟩
  replace hb := below_step hb hs hb1
  clear hb1 r1 r2
  go_wp2_with fail
  go_ret
  exact ⟨rfl, hb⟩
end Go.Proofs.Ytafhljjekpaehaa
