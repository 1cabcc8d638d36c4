/-
  Contract of the reference's SameExpr where both are the same expression, and nothing besides.
-/
import Derived.Test.YtinbcdadffljhaaExX
namespace Go.Proofs.Ytinbcdadffljhaa
open Go.RowKit Go.Shelf
set_option maxRecDepth 100000

/-- what is held while two arguments are compared -/
abbrev HeldSx (wr : World) (D b o b' o' : Nat) (h g hx gx : Eh) (W : World) : Prop :=
  W.cell? ⟨D, 3, none⟩ = some (.slice h.A h.m h.cap) ∧ W.cell? ⟨D + 1, 3, none⟩ = some (.slice g.A g.m g.cap) ∧
  W.cell? ⟨b, o, none⟩ = some (.int .i64 hx.k) ∧ W.cell? ⟨b, o + 1, none⟩ = some (.int .i64 hx.n) ∧ W.cell? ⟨b, o + 2, none⟩ = some (.string hx.s) ∧ W.cell? ⟨b, o + 3, none⟩ = some (.slice hx.A hx.m hx.cap) ∧
  W.cell? ⟨b', o', none⟩ = some (.int .i64 gx.k) ∧ W.cell? ⟨b', o' + 1, none⟩ = some (.int .i64 gx.n) ∧ W.cell? ⟨b', o' + 2, none⟩ = some (.string gx.s) ∧ W.cell? ⟨b', o' + 3, none⟩ = some (.slice gx.A gx.m gx.cap) ∧ Below wr.heap.size wr W
theorem HeldSx.drew {wr W : World} {D b o b' o' : Nat} {h g hx gx : Eh} (hh : HeldSx wr D b o b' o' h g hx gx W) : HeldSx wr D b o b' o' h g hx gx W.drew :=
  ⟨hh.1, hh.2.1, hh.2.2.1, hh.2.2.2.1, hh.2.2.2.2.1, hh.2.2.2.2.2.1, hh.2.2.2.2.2.2.1, hh.2.2.2.2.2.2.2.1, hh.2.2.2.2.2.2.2.2.1, hh.2.2.2.2.2.2.2.2.2.1, hh.2.2.2.2.2.2.2.2.2.2.drew⟩
theorem HeldSx.step {wr W w2 : World} {D b o b' o' : Nat} {h g hx gx : Eh} (hh : HeldSx wr D b o b' o' h g hx gx W) (hD : D + 1 < wr.heap.size) (hb : b < wr.heap.size) (hb' : b' < wr.heap.size) (hw : Below W.heap.size W w2) : HeldSx wr D b o b' o' h g hx gx w2 := by
  obtain ⟨a1, a2, a3, a4, a5, a6, a7, a8, a9, a10, a11⟩ := hh
  have hs := a11.size
  have c : ∀ q x, q < wr.heap.size → w2.cell? ⟨q, x, none⟩ = W.cell? ⟨q, x, none⟩ := fun q x hq => hw.cell (p := ⟨q, x, none⟩) (by show q < _; omega)
  exact ⟨(c _ _ (by omega)).trans a1, (c _ _ hD).trans a2, (c _ _ hb).trans a3, (c _ _ hb).trans a4, (c _ _ hb).trans a5, (c _ _ hb).trans a6, (c _ _ hb').trans a7, (c _ _ hb').trans a8, (c _ _ hb').trans a9, (c _ _ hb').trans a10, a11.trans (hw.mono hs)⟩

set_option maxHeartbeats 4000000 in
theorem same_of (h g : Eh) (w : World) (hk : g.k = h.k) (hn : g.n = h.n) (hs : g.s = h.s) (hm : g.m = h.m) (h2 : h.m ≤ 2)
    (KID : ∀ x, x < h.m → ∃ b o b' o' hx gx, h.A = some ⟨b, o, none⟩ ∧ g.A = some ⟨b', o', none⟩ ∧ b < w.heap.size ∧ b' < w.heap.size ∧ EhAt w b (o + x * 4) hx ∧ EhAt w b' (o' + x * 4) gx ∧ ∀ W, Below w.heap.size w W → Calls Try.prog 14 #[.agg hx.cells, .agg gx.cells] W fun e w' => e = .returned (.bool true) ∧ Below W.heap.size W w') :
    Calls Try.prog 14 #[.agg h.cells, .agg g.cells] w fun e w' => e = .returned (.bool true) ∧ Below w.heap.size w w' := by
  have key : ∃ w1, w1 = (w.alloc (.cells h.cells 24)).alloc (.cells g.cells 24) ∧ Below w.heap.size w w1 ∧ EB 24 w1 w.heap.size h ∧ EB 24 w1 (w.heap.size + 1) g := by
    refine ⟨_, rfl, ((Below.refl _ _).alloc (Nat.le_refl _) _).alloc (by simp) _, (EB.new w _ h).alloc _, ?_⟩
    have := EB.new (w.alloc (.cells h.cells 24)) 24 g
    simpa using this
  obtain ⟨w1, hw1, hb1, t1, u1⟩ := key
  have HW := Lib.hid hw1
  obtain ⟨k, n, s, A, m, cap⟩ := h
  obtain ⟨k', n', s', A', m', cap'⟩ := g
  dsimp only at hk hn hs hm h2 KID
  subst hk hn hs hm
  have c0 := t1.c0
  have c1 := t1.c1
  have c2 := t1.c2
  have c3 := t1.c3
  have d0 := u1.c0
  have d1 := u1.c1
  have d2 := u1.c2
  have d3 := u1.c3
  dsimp only at c0 c1 c2 c3 d0 d1 d2 d3
  have hq := str_yes s'
  have q1 : (k' != k') = false := by simp
  have q2 : (n' != n') = false := by simp
  have q3 : ((m' : Int) != (m' : Int)) = false := by simp
  have q4 : (s'.toList != s'.toList) = false := by simp
  have K := Lib.hid KID
  have hD := u1.lt
  clear hw1 KID
  go_enter Try.func14, Try.ntmps14
  go_upto_region 1 with fail
  rw [← HW.out]
  go_wp2_with fail
  have T1 := Lib.hid t1
  have U1 := Lib.hid u1
  clear c0 c1 c2 c3 d0 d1 d2 d3 t1 u1 q1 q2 q4 hq
  go_loopw [5, 37] (fun _ i wr => ∃ x : Nat, x ≤ m' ∧ i = .int .i64 x ∧ Below w1.heap.size w1 wr) (fun _ i _ => m' - (intOf i).toNat)
  case atStart => exact ⟨0, Nat.zero_le _, rfl, Below.refl _ _⟩
  case round =>
    obtain ⟨x, hx, rfl, hb⟩ := hrel
    by_cases hlx : x < m'
    · obtain ⟨b, o, b', o', ⟨kl, nl, sl, Al, ml, cl⟩, ⟨kr, nr, sr, Ar, mr, cr⟩, rfl, rfl, hb2, hb3, h4, h5, h6⟩ := K.out x hlx
      have hbw := below_step hb1 hb1.size hb
      have hsw := hb.size
      have hsw1 := hb1.size
      have HD : w.heap.size + 1 < wr.heap.size := by omega
      have HB : b < wr.heap.size := by omega
      have HB' : b' < wr.heap.size := by omega
      have h4' := h4.below hbw hb2
      have h5' := h5.below hbw hb3
      have a1 := ((T1.out).step hb).c3
      have a2 := ((U1.out).step hb).c3
      obtain ⟨a3, a4, a5, a6⟩ := h4'
      obtain ⟨a7, a8, a9, a10⟩ := h5'
      dsimp only at a1 a2 a3 a4 a5 a6 a7 a8 a9 a10
      have a11 : Below wr.heap.size wr wr := Below.refl _ _
      have G : Hid (∀ W : World, HeldSx wr w.heap.size b (o + x * 4) b' (o' + x * 4) ⟨k', n', s', some ⟨b, o, none⟩, m', cap⟩ ⟨k', n', s', some ⟨b', o', none⟩, m', cap'⟩ ⟨kl, nl, sl, Al, ml, cl⟩ ⟨kr, nr, sr, Ar, mr, cr⟩ W → Calls Try.prog 14 #[.agg #[.int .i64 kl, .int .i64 nl, .string sl, .slice Al ml cl], .agg #[.int .i64 kr, .int .i64 nr, .string sr, .slice Ar mr cr]] W fun e w' => e = .returned (.bool true) ∧ HeldSx wr w.heap.size b (o + x * 4) b' (o' + x * 4) ⟨k', n', s', some ⟨b, o, none⟩, m', cap⟩ ⟨k', n', s', some ⟨b', o', none⟩, m', cap'⟩ ⟨kl, nl, sl, Al, ml, cl⟩ ⟨kr, nr, sr, Ar, mr, cr⟩ w') := Lib.hid fun W hW => by
        refine (h6 W (below_step hbw hbw.size hW.2.2.2.2.2.2.2.2.2.2)).mono ?_
        rintro e w' ⟨rfl, h1⟩
        exact ⟨rfl, hW.step HD HB HB' h1⟩
      have HBW := Lib.hid hb
      clear h4 h5 h6 hb hbw
      go_wp2_with fail
      go_region_held3 (HeldSx wr w.heap.size b (o + x * 4) b' (o' + x * 4) ⟨k', n', s', some ⟨b, o, none⟩, m', cap⟩ ⟨k', n', s', some ⟨b', o', none⟩, m', cap'⟩ ⟨kl, nl, sl, Al, ml, cl⟩ ⟨kr, nr, sr, Ar, mr, cr⟩)
        (first
          | (go_split_ands; refine ⟨?_, ?_, ?_, ?_, ?_, ?_, ?_, ?_, ?_, ?_, ?_⟩ <;> assumption)
          | (go_split_ands; exact HeldSx.drew ⟨‹_›, ‹_›, ‹_›, ‹_›, ‹_›, ‹_›, ‹_›, ‹_›, ‹_›, ‹_›, ‹_›⟩))
        (first
          | (go_at_call 14; with_reducible refine (G.out _ (by assumption)).mono ?_; rintro e w5 ⟨rfl, hq5⟩))
      all_goals
        have hb5 := below_step HBW.out HBW.out.size hq5.2.2.2.2.2.2.2.2.2.2
        clear hq5
        go_wp2_with fail
        go_roundw
        case rel => exact ⟨x + 1, by omega, by go_num, hb5⟩
        case measure => simp [intOf]; omega
    · obtain rfl : x = m' := by omega
      go_wp2_with fail
      go_ret
      exact ⟨rfl, below_step hb1 hb1.size hb⟩
/-- an expression compared with itself, wherever both lie, is the same -/
theorem same_any : ∀ (T : Xp) (h g : Eh) (lo lo' : Nat) (w : World), EOx w lo w.heap.size T h → EOx w lo' w.heap.size T g →
    Calls Try.prog 14 #[.agg h.cells, .agg g.cells] w fun e w' => e = .returned (.bool true) ∧ Below w.heap.size w w'
  | .num _, h, g, _, _, w, h1, h2 => same_of h g w (by rw [h1.1, h2.1]) (by rw [h1.2.1, h2.2.1]) (by rw [h1.2.2.2.1, h2.2.2.2.1]) (by rw [h1.2.2.2.2, h2.2.2.2.2]) (by rw [h1.2.2.2.2]; omega) fun x hx => by rw [h1.2.2.2.2] at hx; omega
  | .nam _, h, g, _, _, w, h1, h2 => same_of h g w (by rw [h1.1, h2.1]) (by rw [h1.2.2.1, h2.2.2.1]) (by rw [h1.2.1, h2.2.1]) (by rw [h1.2.2.2.1, h2.2.2.2.1]) (by rw [h1.2.2.2.1]; omega) fun x hx => by rw [h1.2.2.2.1] at hx; omega
  | .op k l r, h, g, lo, lo', w, h1, h2 => by
    obtain ⟨a1, a2, a3, a4, a5, a6, b, o, hl, hr, a7, a8, a9, a10, a11, a12⟩ := h1
    obtain ⟨c1, c2, c3, c4, c5, c6, b', o', gl, gr, c7, c8, c9, c10, c11, c12⟩ := h2
    refine same_of h g w (by rw [a1, c1]) (by rw [a4, c4]) (by rw [a5, c5]) (by rw [a6, c6]) (by rw [a6]; omega) fun x hx => ?_
    rw [a6] at hx
    obtain rfl | rfl : x = 0 ∨ x = 1 := by omega
    · exact ⟨b, o, b', o', hl, gl, a7, c7, a8.2, c8.2, a9, c9, fun W hW => same_any l hl gl lo lo' W (a11.keep (Nat.le_refl _) hW.size fun q x _ hq => hW.cell (p := ⟨q, x, none⟩) hq) (c11.keep (Nat.le_refl _) hW.size fun q x _ hq => hW.cell (p := ⟨q, x, none⟩) hq)⟩
    · exact ⟨b, o, b', o', hr, gr, a7, c7, a8.2, c8.2, a10, c10, fun W hW => same_any r hr gr lo lo' W (a12.keep (Nat.le_refl _) hW.size fun q x _ hq => hW.cell (p := ⟨q, x, none⟩) hq) (c12.keep (Nat.le_refl _) hW.size fun q x _ hq => hW.cell (p := ⟨q, x, none⟩) hq)⟩
end Go.Proofs.Ytinbcdadffljhaa
