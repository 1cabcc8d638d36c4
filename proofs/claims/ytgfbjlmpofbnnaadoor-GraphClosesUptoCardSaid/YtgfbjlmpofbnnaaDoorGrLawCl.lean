/-
  The law GraphClosed: the closure of the closure is it; it holds the graph's edges; the core has the same closure, and the closure the same core.
-/
import Derived.Test.YtgfbjlmpofbnnaaDoorGrEq
namespace Go.Proofs.YtgfbjlmpofbnnaaDoor
open Go.RowKit Go.Shelf
set_option maxRecDepth 100000

theorem GB.step {T : TypeId} {W W' : World} {B : Nat} {x : Int} {v : Value} (h : GB T W B x v) (hb : Below W.heap.size W W') : GB T W' B x v := (hb.block B h.lt).trans h

set_option maxHeartbeats 8000000 in
theorem closedLaw_any (A : Option Addr) (c : Nat) (N : Int) (es : List (Int × Int)) (w : World) (he : RdE w w.heap.size A es) (_hl : es.length ≤ 1048576) (hT : Tab w) :
    Calls Tryd.prog 7 #[.agg #[.int .i64 N, .slice A es.length c]] w fun e w' => e = .returned (.bool true) ∧ Below w.heap.size w w' := by
  go_enter Tryd.func7, Tryd.ntmps7
  go_wp2_with fail
  have g1 := GB.new w 24 N (.slice A es.length c)
  have hB := below_alloc w (.cells #[.int .i64 N, .slice A es.length c] 24)
  obtain ⟨w1, hw1⟩ : ∃ w1, w1 = w.alloc (.cells #[.int .i64 N, .slice A es.length c] 24) := ⟨_, rfl⟩
  rw [← hw1] at g1 hB ⊢
  have hs := hB.size
  have r1 := he.step hB
  replace hT := hT.step hB
  clear hw1 he
  refine (alive2_any _ hT).mono ?_
  rintro e w2 ⟨rfl, hb⟩
  replace g1 := g1.step hb
  replace r1 := r1.step hb
  replace hT := hT.step hb
  replace hB := below_step hB hs hb
  replace hs := hB.size
  clear hb
  have n1 := g1.n
  have e1 := g1.e
  go_wp2_with fail
  refine (closure_any A c N es _ r1 hT).mono ?_
  rintro e w3 ⟨A3, c3, rfl, r3, hb⟩
  clear n1 e1
  replace g1 := g1.step hb
  replace r1 := r1.step hb
  replace hT := hT.step hb
  replace hB := below_step hB hs hb
  replace hs := hB.size
  clear hb
  by_cases hE : errn N es = 0
  · obtain ⟨m, rfl, hin, hfull⟩ := errn_split hE
    obtain ⟨q1, q2, q3⟩ := cls_all hin hfull
    obtain ⟨p1, p2, p3⟩ := cor_all hin hfull
    have hsub : ∀ k, k < es.length → ed es k ∈ clsG m es := fun k hk => edge_cls hin hfull (ed_mem es k hk)
    have en : nG m es = m := by unfold nG; rw [if_pos hE]
    have en2 : nG m (clsG m es) = m := by unfold nG; rw [if_pos q1]
    have en3 : nG m (corG m es) = m := by unfold nG; rw [if_pos p1]
    rw [en, hE]
    obtain ⟨C, hC⟩ : ∃ C, C = clsG m es := ⟨_, rfl⟩
    obtain ⟨K, hK⟩ : ∃ K, K = corG m es := ⟨_, rfl⟩
    rw [← hC] at q1 q2 q3 p2 hsub en2 r3 ⊢
    rw [← hK] at q3 p1 p2 en3
    have f1 : ∀ (A : Option Addr) (c : Nat) (W : World), RdE W W.heap.size A C → Tab W → Calls Tryd.prog 18 #[.agg #[.int .i64 (m : Int), .slice A C.length c]] W fun e w' => ∃ A1 c1, e = .returned (.tuple #[.agg #[.int .i64 (m : Int), .slice A1 C.length c1], .int .i64 0]) ∧ RdE w' w'.heap.size A1 C ∧ Below W.heap.size W w' := fun A c W h hT => by
      have := closure_any A c m C W h hT
      rw [en2, q2, q1] at this
      exact this
    have f2 : ∀ (A : Option Addr) (c : Nat) (W : World), RdE W W.heap.size A es → Tab W → Calls Tryd.prog 20 #[.agg #[.int .i64 (m : Int), .slice A es.length c]] W fun e w' => ∃ A1 c1, e = .returned (.tuple #[.agg #[.int .i64 (m : Int), .slice A1 K.length c1], .int .i64 0]) ∧ RdE w' w'.heap.size A1 K ∧ Below W.heap.size W w' := fun A c W h hT => by
      have := core_any A c m es W h hT
      rw [en, ← hK, hE] at this
      exact this
    have f3 : ∀ (A : Option Addr) (c : Nat) (W : World), RdE W W.heap.size A K → Tab W → Calls Tryd.prog 18 #[.agg #[.int .i64 (m : Int), .slice A K.length c]] W fun e w' => ∃ A1 c1, e = .returned (.tuple #[.agg #[.int .i64 (m : Int), .slice A1 C.length c1], .int .i64 0]) ∧ RdE w' w'.heap.size A1 C ∧ Below W.heap.size W w' := fun A c W h hT => by
      have := closure_any A c m K W h hT
      rw [en3, p2, p1] at this
      exact this
    have f4 : ∀ (A : Option Addr) (c : Nat) (W : World), RdE W W.heap.size A C → Tab W → Calls Tryd.prog 20 #[.agg #[.int .i64 (m : Int), .slice A C.length c]] W fun e w' => ∃ A1 c1, e = .returned (.tuple #[.agg #[.int .i64 (m : Int), .slice A1 K.length c1], .int .i64 0]) ∧ RdE w' w'.heap.size A1 K ∧ Below W.heap.size W w' := fun A c W h hT => by
      have := core_any A c m C W h hT
      rw [en2, q3, q1] at this
      exact this
    have F1 := Lib.hid f1
    have F2 := Lib.hid f2
    have F3 := Lib.hid f3
    have F4 := Lib.hid f4
    have HS := Lib.hid hsub
    have hroom := r1.room
    clear f1 f2 f3 f4 hsub en en2 en3 hC hK q1 q2 q3 p1 p2 p3 hE hin hfull
    have g3 := GB.new w3 24 m (.slice A3 C.length c3)
    have hb := below_alloc w3 (.cells #[.int .i64 (m : Int), .slice A3 C.length c3] 24)
    replace g1 := g1.step hb
    replace r1 := r1.step hb
    replace r3 := r3.step hb
    replace hT := hT.step hb
    replace hB := below_step hB hs hb
    replace hs := hB.size
    clear hb
    have n1 := g1.n
    have e1 := g1.e
    have n3 := g3.n
    have e3 := g3.e
    go_wp2_with fail
    refine (F1.out A3 c3 _ r3 hT).mono ?_
    rintro e w4 ⟨A4, c4, rfl, r4, hb⟩
    clear n1 e1 n3 e3
    replace g1 := g1.step hb
    replace g3 := g3.step hb
    replace r1 := r1.step hb
    replace r3 := r3.step hb
    replace hT := hT.step hb
    replace hB := below_step hB hs hb
    replace hs := hB.size
    clear hb
    have g5 := GB.new w4 24 m (.slice A4 C.length c4)
    have hb := below_alloc w4 (.cells #[.int .i64 (m : Int), .slice A4 C.length c4] 24)
    replace g1 := g1.step hb
    replace g3 := g3.step hb
    replace r1 := r1.step hb
    replace r3 := r3.step hb
    replace r4 := r4.step hb
    replace hT := hT.step hb
    replace hB := below_step hB hs hb
    replace hs := hB.size
    clear hb
    have n1 := g1.n
    have e1 := g1.e
    have n3 := g3.n
    have e3 := g3.e
    have n5 := g5.n
    have e5 := g5.e
    go_wp2_with fail
    refine (F2.out A c _ r1 hT).mono ?_
    rintro e w5 ⟨A5, c5, rfl, r5, hb⟩
    clear n1 e1 n3 e3 n5 e5
    replace g1 := g1.step hb
    replace g3 := g3.step hb
    replace g5 := g5.step hb
    replace r1 := r1.step hb
    replace r3 := r3.step hb
    replace r4 := r4.step hb
    replace hT := hT.step hb
    replace hB := below_step hB hs hb
    replace hs := hB.size
    clear hb
    have g7 := GB.new w5 24 m (.slice A5 K.length c5)
    have hb := below_alloc w5 (.cells #[.int .i64 (m : Int), .slice A5 K.length c5] 24)
    replace g1 := g1.step hb
    replace g3 := g3.step hb
    replace g5 := g5.step hb
    replace r1 := r1.step hb
    replace r3 := r3.step hb
    replace r4 := r4.step hb
    replace r5 := r5.step hb
    replace hT := hT.step hb
    replace hB := below_step hB hs hb
    replace hs := hB.size
    clear hb
    have n1 := g1.n
    have e1 := g1.e
    have n3 := g3.n
    have e3 := g3.e
    have n5 := g5.n
    have e5 := g5.e
    have n7 := g7.n
    have e7 := g7.e
    go_wp2_with fail
    refine (F3.out A5 c5 _ r5 hT).mono ?_
    rintro e w6 ⟨A6, c6, rfl, r6, hb⟩
    clear n1 e1 n3 e3 n5 e5 n7 e7
    replace g1 := g1.step hb
    replace g3 := g3.step hb
    replace g5 := g5.step hb
    replace g7 := g7.step hb
    replace r1 := r1.step hb
    replace r3 := r3.step hb
    replace r4 := r4.step hb
    replace r5 := r5.step hb
    replace hT := hT.step hb
    replace hB := below_step hB hs hb
    replace hs := hB.size
    clear hb
    have g9 := GB.new w6 24 m (.slice A6 C.length c6)
    have hb := below_alloc w6 (.cells #[.int .i64 (m : Int), .slice A6 C.length c6] 24)
    replace g1 := g1.step hb
    replace g3 := g3.step hb
    replace g5 := g5.step hb
    replace g7 := g7.step hb
    replace r1 := r1.step hb
    replace r3 := r3.step hb
    replace r4 := r4.step hb
    replace r5 := r5.step hb
    replace r6 := r6.step hb
    replace hT := hT.step hb
    replace hB := below_step hB hs hb
    replace hs := hB.size
    clear hb
    have n1 := g1.n
    have e1 := g1.e
    have n3 := g3.n
    have e3 := g3.e
    have n5 := g5.n
    have e5 := g5.e
    have n7 := g7.n
    have e7 := g7.e
    have n9 := g9.n
    have e9 := g9.e
    go_wp2_with fail
    refine (F4.out A3 c3 _ r3 hT).mono ?_
    rintro e w7 ⟨A7, c7, rfl, r7, hb⟩
    clear n1 e1 n3 e3 n5 e5 n7 e7 n9 e9
    replace g1 := g1.step hb
    replace g3 := g3.step hb
    replace g5 := g5.step hb
    replace g7 := g7.step hb
    replace g9 := g9.step hb
    replace r1 := r1.step hb
    replace r3 := r3.step hb
    replace r4 := r4.step hb
    replace r5 := r5.step hb
    replace r6 := r6.step hb
    replace hT := hT.step hb
    replace hB := below_step hB hs hb
    replace hs := hB.size
    clear hb
    have g11 := GB.new w7 24 m (.slice A7 K.length c7)
    have hb := below_alloc w7 (.cells #[.int .i64 (m : Int), .slice A7 K.length c7] 24)
    replace g1 := g1.step hb
    replace g3 := g3.step hb
    replace g5 := g5.step hb
    replace g7 := g7.step hb
    replace g9 := g9.step hb
    replace r1 := r1.step hb
    replace r3 := r3.step hb
    replace r4 := r4.step hb
    replace r5 := r5.step hb
    replace r6 := r6.step hb
    replace r7 := r7.step hb
    replace hT := hT.step hb
    replace hB := below_step hB hs hb
    replace hs := hB.size
    clear hb
    have n1 := g1.n
    have e1 := g1.e
    have n3 := g3.n
    have e3 := g3.e
    have n5 := g5.n
    have e5 := g5.e
    have n7 := g7.n
    have e7 := g7.e
    have n9 := g9.n
    have e9 := g9.e
    have n11 := g11.n
    have e11 := g11.e
    go_wp2_with fail
    obtain ⟨w8, hw8⟩ : ∃ w8, w8 = w7.alloc (.cells #[.int .i64 (m : Int), .slice A7 K.length c7] 24) := ⟨_, rfl⟩
    clear n1 e1 n3 e3 n5 e5 n7 e7 n9 e9 n11 e11
    rw [← hw8] at g1 g3 g5 g7 g9 g11 r1 r3 r4 r5 r6 r7 hT hB hs ⊢
    clear hw8
    go_loopw [51] (fun i wr => ∃ k : Nat, k ≤ es.length ∧ i = .int .i64 k ∧ Below w8.heap.size w8 wr) (fun i _ => es.length - (intOf i).toNat)
    case atStart => exact ⟨0, Nat.zero_le _, rfl, Below.refl _ _⟩
    case round =>
      obtain ⟨k, hk, rfl, hb⟩ := hrel
      have hbr := hb
      replace g1 := g1.step hb
      replace g3 := g3.step hb
      replace g5 := g5.step hb
      replace g7 := g7.step hb
      replace g9 := g9.step hb
      replace g11 := g11.step hb
      replace r1 := r1.step hb
      replace r3 := r3.step hb
      replace r4 := r4.step hb
      replace r5 := r5.step hb
      replace r6 := r6.step hb
      replace r7 := r7.step hb
      replace hT := hT.step hb
      replace hB := below_step hB hs hb
      replace hs := hB.size
      clear hb
      by_cases hlt : k < es.length
      · obtain ⟨b, off, rfl, _, hc⟩ := r1.rd (by omega)
        obtain ⟨ha1, ha2⟩ := hc k hlt
        have hmem := HS.out k hlt
        clear hc
        have n3 := g3.n
        have e3 := g3.e
        obtain ⟨x, hx⟩ : ∃ x, x = (ed es k).1 := ⟨_, rfl⟩
        obtain ⟨y, hy⟩ : ∃ y, y = (ed es k).2 := ⟨_, rfl⟩
        rw [← hx] at ha1
        rw [← hy] at ha2
        have hm2 : (x, y) ∈ C := by rw [hx, hy]; exact hmem
        have hb := below_alloc wr (.cells #[.int .i64 x, .int .i64 y] 43)
        have g3a := g3.step hb
        have r3a := r3.step hb
        have n3a := g3a.n
        have e3a := g3a.e
        have hmem2 := Lib.hid hm2
        clear hx hy hmem hm2 g1 g5 g7 g9 g11 r4 r5 r6 r7
        go_wp2_with fail
        refine (containsE_yes A3 c3 C x y _ r3a hmem2.out).mono ?_
        rintro e w9 ⟨rfl, hb9⟩
        have hB9 := hbr.trans ((hb.trans (hb9.mono hb.size)).mono hbr.size)
        clear hb hb9 hbr g3 g3a r3 r3a n3 e3 n3a e3a r1
        go_wp2
        go_roundw
        case rel => exact ⟨k + 1, by omega, by go_num, hB9⟩
        case measure => simp [intOf]; omega
      · obtain rfl : k = es.length := by omega
        have n3 := g3.n
        have e3 := g3.e
        have n5 := g5.n
        have e5 := g5.e
        have n7 := g7.n
        have e7 := g7.e
        have n9 := g9.n
        have e9 := g9.e
        have n11 := g11.n
        have e11 := g11.e
        go_wp2_with fail
        refine (sameGraph_same A4 A3 c4 c3 m C _ r4 r3).mono ?_
        rintro e w10 ⟨rfl, hb⟩
        clear n3 e3 n5 e5 n7 e7 n9 e9 n11 e11
        replace g3 := g3.step hb
        replace g5 := g5.step hb
        replace g7 := g7.step hb
        replace g9 := g9.step hb
        replace g11 := g11.step hb
        replace r3 := r3.step hb
        replace r4 := r4.step hb
        replace r5 := r5.step hb
        replace r6 := r6.step hb
        replace r7 := r7.step hb
        replace hT := hT.step hb
        replace hB := below_step hB hs hb
        replace hs := hB.size
        clear hb
        have n3 := g3.n
        have e3 := g3.e
        have n5 := g5.n
        have e5 := g5.e
        have n7 := g7.n
        have e7 := g7.e
        have n9 := g9.n
        have e9 := g9.e
        have n11 := g11.n
        have e11 := g11.e
        go_wp2_with fail
        refine (sameGraph_same A6 A3 c6 c3 m C _ r6 r3).mono ?_
        rintro e w11 ⟨rfl, hb⟩
        clear n3 e3 n5 e5 n7 e7 n9 e9 n11 e11
        replace g3 := g3.step hb
        replace g5 := g5.step hb
        replace g7 := g7.step hb
        replace g9 := g9.step hb
        replace g11 := g11.step hb
        replace r3 := r3.step hb
        replace r4 := r4.step hb
        replace r5 := r5.step hb
        replace r6 := r6.step hb
        replace r7 := r7.step hb
        replace hT := hT.step hb
        replace hB := below_step hB hs hb
        replace hs := hB.size
        clear hb
        have n3 := g3.n
        have e3 := g3.e
        have n5 := g5.n
        have e5 := g5.e
        have n7 := g7.n
        have e7 := g7.e
        have n9 := g9.n
        have e9 := g9.e
        have n11 := g11.n
        have e11 := g11.e
        go_wp2_with fail
        refine (sameGraph_same A7 A5 c7 c5 m K _ r7 r5).mono ?_
        rintro e w12 ⟨rfl, hb⟩
        replace hB := below_step hB hs hb
        go_wp2
        go_ret
        exact ⟨rfl, hB⟩
  · obtain ⟨E, hEE⟩ : ∃ E, E = errn N es := ⟨_, rfl⟩
    have HE := Lib.hid hEE
    rw [← hEE] at hE ⊢
    have hb0 : (E != 0) = true := by simpa using hE
    have hv : ∀ W, RdE W W.heap.size A es → Tab W → Calls Tryd.prog 10 #[.agg #[.int .i64 N, .slice A es.length c]] W fun e w' => e = .returned (.int .i64 E) ∧ Below W.heap.size W w' := fun W h h2 => by
      rw [hEE]
      exact wrong_any A c N es W h h2
    clear hE hEE
    have HV := Lib.hid hv
    clear hv
    have hb := below_alloc w3 (.cells #[.int .i64 (nG N es), .slice A3 (clsG N es).length c3] 24)
    replace g1 := g1.step hb
    replace r1 := r1.step hb
    replace hT := hT.step hb
    replace hB := below_step hB hs hb
    replace hs := hB.size
    clear hb
    have n1 := g1.n
    have e1 := g1.e
    go_wp2_with fail
    refine (HV.out _ r1 hT).mono ?_
    rintro e w4 ⟨rfl, hb⟩
    replace hB := below_step hB hs hb
    go_wp2
    go_ret
    exact ⟨rfl, hB⟩
end Go.Proofs.YtgfbjlmpofbnnaaDoor
