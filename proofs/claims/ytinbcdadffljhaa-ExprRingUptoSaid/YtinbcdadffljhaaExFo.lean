/-
  The closure of the program's Fold that meets an operation: two numbers become their value.
-/
import Derived.Test.YtinbcdadffljhaaExFrA
import Derived.Laws.EntriesVeiled
namespace Go.Proofs.Ytinbcdadffljhaa
open Go.RowKit Go.Shelf
set_option maxRecDepth 100000

theorem Xp.fold_op (k : Int) (a b : Xp) : Xp.fold (.op k a b) = if a.names = [] ∧ b.names = [] then .num (ar k (a.ev []) (b.ev [])) else .op k a.fold b.fold := by
  show (if mrgN a.names b.names = [] then Xp.num ((Xp.op k a b).ev []) else .op k a.fold b.fold) = _
  by_cases h : a.names = [] ∧ b.names = []
  · rw [if_pos h, if_pos (mrgN_nil.2 h)]
    rfl
  · rw [if_neg h, if_neg fun e => h (mrgN_nil.1 e)]
theorem EOx.kindN {w : World} {lo B : Nat} : ∀ {T : Xp} {h : Eh}, EOx w lo B T h → (h.k == 1) = T.isNum
  | .num _, _, h => by rw [h.1]; rfl
  | .nam _, _, h => by rw [h.1]; rfl
  | .op k _ _, _, h => by
    have h1 := h.1
    have h2 := h.2.1
    show _ = false
    simp
    omega
  | .nul, _, h => h.elim
theorem EOx.numN {w : World} {lo B : Nat} : ∀ {T : Xp} {h : Eh}, EOx w lo B T h → T.isNum = true → ∀ env, h.n = T.ev env ∧ inI h.n
  | .num _, _, h, _ => fun _ => ⟨h.2.1, h.2.1 ▸ h.2.2.1⟩

set_option maxHeartbeats 4000000 in
theorem fold1_any (k : Int) (hk : 3 ≤ k ∧ k ≤ 9) (L R : Xp) (lo : Nat) (h g : Eh) (V : World) (hlo : lo ≤ V.heap.size) (hL : EOx V lo V.heap.size L.fold h) (hR : EOx V lo V.heap.size R.fold g) :
    Calls Try.prog 45 #[.int .i64 k, .agg h.cells, .agg g.cells] V fun e w' => ∃ h', e = .returned (.agg h'.cells) ∧ EOx w' lo w'.heap.size (Xp.fold (.op k L R)) h' ∧ Below V.heap.size V w' := by
  have key : ∃ w1, w1 = ((V.alloc (.cells h.cells 24)).alloc (.cells g.cells 24)).alloc (.cells Eh.zero.cells 24) ∧ Below V.heap.size V w1 ∧ EB 24 w1 V.heap.size h ∧ EB 24 w1 (V.heap.size + 1) g ∧ EB 24 w1 (V.heap.size + 1 + 1) Eh.zero ∧ w1.heap.size = V.heap.size + 3 := by
    refine ⟨_, rfl, (((Below.refl _ _).alloc (Nat.le_refl _) _).alloc (by simp) _).alloc (by simp; omega) _, ((EB.new V _ h).alloc _).alloc _, ?_, ?_, by simp⟩
    · have := (EB.new (V.alloc (.cells h.cells 24)) 24 g).alloc (.cells Eh.zero.cells 24)
      simpa using this
    · have := EB.new ((V.alloc (.cells h.cells 24)).alloc (.cells g.cells 24)) 24 Eh.zero
      simpa using this
  obtain ⟨w1, hw1, hb1, t1, u1, v1, z1⟩ := key
  have HW : Hid (w1 = ((V.alloc (.cells h.cells 24)).alloc (.cells g.cells 24)).alloc (.cells #[.int .i64 0, .int .i64 0, .string ⟨#[]⟩, .slice none 0 0] 24)) := hw1
  have hL1 := hL.step hb1
  have hR1 := hR.step hb1
  have kl := hL1.kindN
  have kr := hR1.kindN
  have nl := fun hn => hL1.numN hn []
  have nr := fun hn => hR1.numN hn []
  rw [L.fold_num] at kl nl
  rw [R.fold_num] at kr nr
  rw [L.ev_fold] at nl
  rw [R.ev_fold] at nr
  have hop := pop2_any k h g w1
  have hfo := Xp.fold_op k L R
  obtain ⟨hk0, hn0, hs0, hA0, hm0, hc0⟩ := h
  obtain ⟨gk0, gn0, gs0, gA0, gm0, gc0⟩ := g
  have c0 := t1.c0
  have c1 := t1.c1
  have c2 := t1.c2
  have c3 := t1.c3
  have d0 := u1.c0
  have d1 := u1.c1
  have d2 := u1.c2
  have d3 := u1.c3
  dsimp only at c0 c1 c2 c3 d0 d1 d2 d3 kl kr nl nr
  have HB := Lib.hid hb1
  have HT := Lib.hid v1
  have HZ := Lib.hid z1
  obtain ⟨bl, hbl⟩ : ∃ b, b = decide (L.names = []) := ⟨_, rfl⟩
  obtain ⟨br, hbr⟩ : ∃ b, b = decide (R.names = []) := ⟨_, rfl⟩
  rw [← hbl] at kl nl
  rw [← hbr] at kr nr
  have HBL := Lib.hid (And.intro hbl hbr)
  have HFO := Lib.hid hfo
  have HOP := Lib.hid hop
  have HN := Lib.hid (And.intro nl nr)
  have HLR := Lib.hid (And.intro hL hR)
  clear hw1 hb1 t1 u1 v1 z1 hL hR hL1 hR1 hop hfo hbl hbr nl nr
  have E := Lib.hid hlo
  by_cases hboth : bl = true ∧ br = true
  · obtain ⟨rfl, rfl⟩ := hboth
    have hl1 := of_decide_eq_true HBL.out.1.symm
    have hr1 := of_decide_eq_true HBL.out.2.symm
    obtain ⟨vl, il⟩ := HN.out.1 rfl
    obtain ⟨vr, ir⟩ := HN.out.2 rfl
    have hR0 := HFO.out.trans (if_pos ⟨hl1, hr1⟩)
    have A1 := Lib.hid (apply_any k hn0 gn0 w1 hk il)
    rw [hR0, ← vl, ← vr]
    obtain ⟨z, hz⟩ : ∃ z, z = ar k hn0 gn0 := ⟨_, rfl⟩
    have A2 := Lib.hid (pnum_any z w1 (by rw [hz]; exact ar_in k il))
    rw [← hz] at A1 ⊢
    clear hl1 hr1 vl il vr ir hR0 hz hlo hk
    go_enter Try.func45, Try.ntmps45
    go_upto_region 1 with fail
    rw [show ((V.alloc _).alloc _).alloc _ = w1 from HW.out.symm]
    go_wp2_with fail
    refine A1.out.mono ?_
    rintro e w4 ⟨rfl, rfl⟩
    go_wp2_with fail
    refine A2.out.mono ?_
    rintro e w5 ⟨⟨y0, y1, y2, y3, y4, y5⟩, rfl, hx5, hb5⟩
    have z := HT.out.step hb5
    have z0 := z.c0; have z1 := z.c1; have z2 := z.c2; have z3 := z.c3; have f0 := z.frozen 0; have f1 := z.frozen 1; have f2 := z.frozen 2; have f3 := z.frozen 3
    have P := Lib.hid (putE_fin (W := V) z hx5 (by omega) (by have := HZ.out; omega) (HB.out.trans (hb5.mono HB.out.size)))
    clear z hx5 hb5
    dsimp only [Eh.cells]
    go_wp2_with fail
    refine bodyPost_ret (results_cell_row rfl _ _ (V.heap.size + 1 + 1) 24 _ (0, 0) _ rfl P.out.1 rfl rfl Try.infoEx) rfl ?_
    exact ⟨_, rfl, P.out.2.1.keep E.out (Nat.le_refl _) (fun _ _ _ _ => rfl), P.out.2.2⟩
  · have hR0 : Xp.fold (.op k L R) = .op k L.fold R.fold := HFO.out.trans (if_neg fun h => hboth ⟨HBL.out.1.trans (decide_eq_true h.1), HBL.out.2.trans (decide_eq_true h.2)⟩)
    rw [hR0]
    have hand : (bl && br) = false := by cases bl <;> cases br <;> simp_all
    have HK := Lib.hid hk
    clear hR0 hboth hlo hk
    have hand2 : bl = false ∨ (bl = true ∧ br = false) := by
      cases bl
      · exact .inl rfl
      · exact .inr ⟨rfl, hand⟩
    clear hand
    rcases hand2 with rfl | ⟨rfl, rfl⟩
    all_goals
      go_enter Try.func45, Try.ntmps45
      go_upto_region 1 with fail
      rw [show ((V.alloc _).alloc _).alloc _ = w1 from HW.out.symm]
      go_wp2_with fail
      refine HOP.out.mono ?_
      rintro e w5 ⟨b, c, rfl, ⟨l1, l2, l3, l4⟩, hb5⟩
      have z := HT.out.step hb5
      have z0 := z.c0; have z1 := z.c1; have z2 := z.c2; have z3 := z.c3; have f0 := z.frozen 0; have f1 := z.frozen 1; have f2 := z.frozen 2; have f3 := z.frozen 3
      have hBV := HB.out.trans (hb5.mono HB.out.size)
      have hs1 := HZ.out
      have hlo := E.out
      have hcut : ∀ q x, q < V.heap.size → (putEh w5 (V.heap.size + 1 + 1) ⟨k, 0, ByteArray.empty, some ⟨b, 0, none⟩, 2, c⟩).cell? ⟨q, x, none⟩ = V.cell? ⟨q, x, none⟩ := fun q x hq => (put_cell (by omega)).trans (hBV.cell (p := ⟨q, x, none⟩) hq)
      have hzp : (putEh w5 (V.heap.size + 1 + 1) ⟨k, 0, ByteArray.empty, some ⟨b, 0, none⟩, 2, c⟩).heap.size = w5.heap.size := by unfold putEh; simp [World.setCell]
      have hz5 := hb5.size
      have hfin : EOx (putEh w5 (V.heap.size + 1 + 1) ⟨k, 0, ByteArray.empty, some ⟨b, 0, none⟩, 2, c⟩) lo (putEh w5 (V.heap.size + 1 + 1) ⟨k, 0, ByteArray.empty, some ⟨b, 0, none⟩, 2, c⟩).heap.size (.op k L.fold R.fold) ⟨k, 0, ByteArray.empty, some ⟨b, 0, none⟩, 2, c⟩ :=
        EOx.two HK.out ⟨by omega, by omega⟩ (l3.keep fun x => put_cell (by omega)) (l4.keep fun x => put_cell (by omega)) (HLR.out.1.keep (Nat.le_refl _) (by omega) fun q x _ hq => hcut q x hq) (HLR.out.2.keep (Nat.le_refl _) (by omega) fun q x _ hq => hcut q x hq)
      have P := Lib.hid (And.intro (z.put (h' := ⟨k, 0, ByteArray.empty, some ⟨b, 0, none⟩, 2, c⟩)) (And.intro hfin (below_putE hBV (show V.heap.size ≤ V.heap.size + 1 + 1 by omega) ⟨k, 0, ByteArray.empty, some ⟨b, 0, none⟩, 2, c⟩)))
      clear z hb5 hBV hs1 hlo hcut hzp hz5 hfin l1 l2 l3 l4
      dsimp only [Eh.cells]
      go_wp2_with fail
      refine bodyPost_ret (results_cell_row rfl _ _ (V.heap.size + 1 + 1) 24 _ (0, 0) _ rfl P.out.1 rfl rfl Try.infoEx) rfl ?_
      exact ⟨_, rfl, P.out.2⟩
end Go.Proofs.Ytinbcdadffljhaa
