/-
  Contracts of the reference's ETwo and EEval.
-/
import Derived.Test.YtinbcdadffljhaaExMem
import Derived.Test.YtinbcdadffljhaaExK
import Derived.Deep.RegionHeld3
import Derived.Deep.CutRange
import Derived.Outline
namespace Go.Proofs.Ytinbcdadffljhaa
open Go.RowKit Go.Shelf
set_option maxRecDepth 100000

theorem etwo_any (h : Eh) (w : World) :
    Calls Try.prog 32 #[.agg h.cells] w fun e w' => e = .returned (.bool h.two) ∧ Below w.heap.size w w' := by
  have key : ∃ w1, w1 = w.alloc (.cells h.cells 24) ∧ Below w.heap.size w w1 ∧ EB 24 w1 w.heap.size h := ⟨_, rfl, (Below.refl _ _).alloc (Nat.le_refl _) _, EB.new _ _ _⟩
  obtain ⟨w1, hw1, hb1, t1⟩ := key
  have c0 := t1.c0
  have c3 := t1.c3
  have HW := Lib.hid hw1
  obtain ⟨k, n, s, A, m, cap⟩ := h
  unfold Eh.two
  dsimp only at c0 c3 ⊢
  clear t1 hw1
  rcases (show k < 3 ∨ 9 < k ∨ (3 ≤ k ∧ k ≤ 9) by omega) with h | h | ⟨h1, h2⟩
  · have e : (decide (3 ≤ k) && decide (k ≤ 9) && decide (2 ≤ m)) = false := by simp; omega
    rw [e]
    clear e
    go_enter Try.func32, Try.ntmps32
    go_upto_region 1 with fail
    rw [show w.alloc _ = w1 from HW.out.symm]
    go_wp2_with fail
    go_ret
    exact ⟨rfl, hb1⟩
  · have e : (decide (3 ≤ k) && decide (k ≤ 9) && decide (2 ≤ m)) = false := by simp; omega
    rw [e]
    clear e
    go_enter Try.func32, Try.ntmps32
    go_upto_region 1 with fail
    rw [show w.alloc _ = w1 from HW.out.symm]
    go_wp2_with fail
    go_ret
    exact ⟨rfl, hb1⟩
  · have e : (decide (3 ≤ k) && decide (k ≤ 9) && decide (2 ≤ m)) = decide ((2 : Int) ≤ (m : Int)) := by simp [h1, h2]; omega
    rw [e]
    clear e
    go_enter Try.func32, Try.ntmps32
    go_upto_region 1 with fail
    rw [show w.alloc _ = w1 from HW.out.symm]
    go_wp2_with fail
    go_ret
    exact ⟨rfl, hb1⟩

theorem bnd_take (env : List (ByteArray × Int)) (s : ByteArray) {k : Nat} (hk : k < env.length) : bnd (env.take (k + 1)) s = if (bd env k).1 = s then (bd env k).2 else bnd (env.take k) s := by
  rw [List.take_succ_eq_append_getElem hk]
  have e : bd env k = env[k] := by unfold bd; simp [List.getD, hk]
  rw [e]
  unfold bnd
  rw [List.foldl_append]
  rfl
/-- what a leaf is worth -/
def leafV (h : Eh) (env : List (ByteArray × Int)) : Int := if h.k = 2 then bnd env h.s else if h.k = 1 then h.n else 0

set_option maxHeartbeats 4000000 in
theorem eval_leaf (h : Eh) (htwo : h.two = false) (A : Option Addr) (c : Nat) (env : List (ByteArray × Int)) (w : World) (he : RdB w w.heap.size A env) (hl : env.length ≤ 1048577) :
    Calls Try.prog 10 #[.agg h.cells, .slice A env.length c] w fun e w' => e = .returned (.int .i64 (leafV h env)) ∧ Below w.heap.size w w' := by
  have key : ∃ w1, w1 = w.alloc (.cells h.cells 24) ∧ Below w.heap.size w w1 ∧ EB 24 w1 w.heap.size h := ⟨_, rfl, (Below.refl _ _).alloc (Nat.le_refl _) _, EB.new _ _ _⟩
  obtain ⟨w1, hw1, hb1, t1⟩ := key
  have h2 := etwo_any h w1
  rw [htwo] at h2
  have lv : leafV h env = if h.k = 2 then bnd env h.s else if h.k = 1 then h.n else 0 := rfl
  obtain ⟨k, n, s, A', m, cap⟩ := h
  have c0 := t1.c0
  have c1 := t1.c1
  have c2 := t1.c2
  have c3 := t1.c3
  dsimp only at c0 c1 c2 c3 lv
  obtain ⟨V, hV⟩ : ∃ V, V = leafV ⟨k, n, s, A', m, cap⟩ env := ⟨_, rfl⟩
  rw [← hV] at lv ⊢
  have LV := Lib.hid lv
  have HW := Lib.hid hw1
  clear hw1 lv htwo hV
  go_enter Try.func10, Try.ntmps10
  go_upto_region 1 with fail
  rw [show w.alloc _ = w1 from HW.out.symm]
  go_wp2_with fail
  refine h2.mono ?_
  rintro e w2 ⟨rfl, hb2⟩
  replace t1 := t1.step hb2
  have hB := below_step hb1 hb1.size hb2
  have he2 := (he.step hb1).step hb2
  clear hb2 h2 c0 c1 c2 c3
  have c0 := t1.c0
  have c1 := t1.c1
  have c2 := t1.c2
  have hlt := t1.lt
  dsimp only at c0 c1 c2
  have hs := hB.size
  clear hb1 he
  have step : ∀ (x : Nat), x < env.length → ∀ wr, Below w2.heap.size w2 wr → ∃ b off, A = some ⟨b, off, none⟩ ∧ wr.cell? ⟨b, off + x * 2, none⟩ = some (.string (bd env x).1) ∧ wr.cell? ⟨b, off + x * 2 + 1, none⟩ = some (.int .i64 (bd env x).2) := fun x hx wr hb => by
    obtain ⟨b, off, h1, h2, h3⟩ := he2.rd (by omega)
    exact ⟨b, off, h1, (hb.cell (p := ⟨b, off + x * 2, none⟩) h2).trans (h3 x hx).1, (hb.cell (p := ⟨b, off + x * 2 + 1, none⟩) h2).trans (h3 x hx).2⟩
  have ST := Lib.hid step
  clear step
  by_cases k2 : k = 2
  · subst k2
    have LV2 : Hid (V = bnd env s) := Lib.hid (LV.out.trans (if_pos rfl))
    go_wp2_with fail
    obtain ⟨wo, rfl⟩ : ∃ wo : World, wo = w2 := ⟨_, rfl⟩
    go_loopw [5, 18] (fun v i wr => ∃ x : Nat, x ≤ env.length ∧ i = .int .i64 x ∧ v = .int .i64 (bnd (env.take x) s) ∧ Below wo.heap.size wo wr) (fun _ i _ => env.length - (intOf i).toNat)
    case atStart => exact ⟨0, Nat.zero_le _, rfl, rfl, Below.refl _ _⟩
    case round =>
      obtain ⟨x, hx, rfl, rfl, hb⟩ := hrel
      by_cases hlx : x < env.length
      · obtain ⟨b, off, rfl, q0, q1⟩ := ST.out x hlx wr hb
        have HT := Lib.hid (bnd_take env s hlx)
        obtain ⟨⟨nm, vl⟩, hbd⟩ : ∃ t, t = bd env x := ⟨_, rfl⟩
        rw [← hbd] at q0 q1 HT
        dsimp only at q0 q1 HT
        have d0 := (hb.cell (p := ⟨w.heap.size, 0, none⟩) hlt).trans c0
        have d2 := (hb.cell (p := ⟨w.heap.size, 2, none⟩) hlt).trans c2
        have e1 := World.alloc_heap_new wr (.cells #[.string nm, .int .i64 vl] 38)
        have hb3 := hb.alloc hb.size (.cells #[.string nm, .int .i64 vl] 38)
        have d0' := (hb3.cell (p := ⟨w.heap.size, 0, none⟩) hlt).trans c0
        have d2' := (hb3.cell (p := ⟨w.heap.size, 2, none⟩) hlt).trans c2
        obtain ⟨w3, hw3⟩ : ∃ w3, w3 = wr.alloc (.cells #[.string nm, .int .i64 vl] 38) := ⟨_, rfl⟩
        rw [← hw3] at e1 hb3 d0' d2'
        have f0 : w3.cell? ⟨wr.heap.size, 0, none⟩ = some (.string nm) := by simp only [World.cell?, e1]; rfl
        have f1 : w3.cell? ⟨wr.heap.size, 1, none⟩ = some (.int .i64 vl) := by simp only [World.cell?, e1]; rfl
        have HW3 := Lib.hid hw3
        clear e1 hw3 hbd
        go_upto_region 8 with fail
        rw [← HW3.out]
        clear q0 q1 d0 d2
        by_cases hn : nm = s
        · subst hn
          go_wp2_with fail
          go_roundw
          case rel => exact ⟨x + 1, by omega, by go_num, by rw [HT.out, if_pos rfl], hb3⟩
          case measure => simp [intOf]; omega
        · have hn1 := str_no hn
          go_wp2_with fail
          go_roundw
          case rel => exact ⟨x + 1, by omega, by go_num, by rw [HT.out, if_neg hn], hb3⟩
          case measure => simp [intOf]; omega
      · obtain rfl : x = env.length := by omega
        rw [List.take_length]
        go_wp2_with fail
        go_ret
        exact ⟨ret_n LV2.out.symm, below_step hB hs hb⟩
  · have hv0 : V = (if k = 1 then n else 0) := LV.out.trans (if_neg k2)
    have k3 : (k == 2) = false := by simpa using k2
    by_cases k1 : k = 1
    all_goals
      have LV2 : Hid (V = (if k = 1 then n else 0)) := hv0
      have k4 : (k == 1) = decide (k = 1) := by rw [Bool.eq_iff_iff]; simp
      clear hv0 k2
      go_wp2_with fail
      obtain ⟨wo, rfl⟩ : ∃ wo : World, wo = w2 := ⟨_, rfl⟩
      go_loopw [5, 18] (fun v i wr => ∃ x : Nat, x ≤ env.length ∧ i = .int .i64 x ∧ v = .int .i64 V ∧ Below wo.heap.size wo wr) (fun _ i _ => env.length - (intOf i).toNat)
      case atStart => exact ⟨0, Nat.zero_le _, rfl, by rw [LV2.out]; first | rw [if_pos k1] | rw [if_neg k1], Below.refl _ _⟩
      case round =>
        obtain ⟨x, hx, rfl, rfl, hb⟩ := hrel
        by_cases hlx : x < env.length
        · obtain ⟨b, off, rfl, q0, q1⟩ := ST.out x hlx wr hb
          obtain ⟨⟨nm, vl⟩, hbd⟩ : ∃ t, t = bd env x := ⟨_, rfl⟩
          rw [← hbd] at q0 q1
          dsimp only at q0 q1
          have hb3 := hb.alloc hb.size (.cells #[.string nm, .int .i64 vl] 38)
          have d0' := (hb3.cell (p := ⟨w.heap.size, 0, none⟩) hlt).trans c0
          obtain ⟨w3, hw3⟩ : ∃ w3, w3 = wr.alloc (.cells #[.string nm, .int .i64 vl] 38) := ⟨_, rfl⟩
          rw [← hw3] at hb3 d0'
          have HW3 := Lib.hid hw3
          clear hw3 hbd
          go_upto_region 8 with fail
          rw [← HW3.out]
          clear q0 q1
          go_wp2_with fail
          go_roundw
          case rel => exact ⟨x + 1, by omega, by go_num, rfl, hb3⟩
          case measure => simp [intOf]; omega
        · obtain rfl : x = env.length := by omega
          go_wp2_with fail
          go_ret
          exact ⟨rfl, below_step hB hs hb⟩
end Go.Proofs.Ytinbcdadffljhaa
