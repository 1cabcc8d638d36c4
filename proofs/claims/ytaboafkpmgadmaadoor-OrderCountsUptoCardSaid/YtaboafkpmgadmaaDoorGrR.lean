/-
  Contract of the reference's reach: which node leads to which, by Floyd and Warshall, for every graph in range.
-/
import Derived.Test.YtaboafkpmgadmaaDoorGrA
import Derived.Test.YtaboafkpmgadmaaDoorGrM
import Derived.StillTailTactics
import Derived.BigRegion
import Derived.Test.YtaboafkpmgadmaaDoorGrT
namespace Go.Proofs.YtaboafkpmgadmaaDoor
open Go.RowKit
set_option maxRecDepth 100000

theorem Tryd.infoSB : (Tryd.prog.info? 75).map (fun i => (i.zero, i.size, i.bytes)) = some (some (.slice none 0 0), 1, 24) := by kernel_rfl
theorem Tryd.infoB : (Tryd.prog.info? 4).map (fun i => (i.zero, i.size, i.bytes)) = some (some (.bool false), 1, 1) := by kernel_rfl

/-- a matrix of bools: block g holds the rows, row i lies in block g + 1 + i -/
structure BM (T E : TypeId) (w : World) (g m : Nat) (b : Nat → Nat → Bool) : Prop where
  row : w.rowIs g T m (fun i => .slice (some ⟨g + 1 + i, 0, none⟩) m m)
  el : ∀ i, i < m → w.rowIs (g + 1 + i) E m (fun j => .bool (b i j))
theorem BM.alloc {T E : TypeId} {w : World} {g m : Nat} {b : Nat → Nat → Bool} (h : BM T E w g m b) (o : Obj) : BM T E (w.alloc o) g m b := ⟨h.row.alloc o, fun i hi => (h.el i hi).alloc o⟩
theorem BM.drew {T E : TypeId} {w : World} {g m : Nat} {b : Nat → Nat → Bool} (h : BM T E w g m b) : BM T E w.drew g m b := ⟨h.row.drew, fun i hi => (h.el i hi).drew⟩
theorem BM.step {T E : TypeId} {w w' : World} {g m : Nat} {b : Nat → Nat → Bool} (h : BM T E w g m b) (hb : Below w.heap.size w w') : BM T E w' g m b := ⟨rowIs_step h.row hb, fun i hi => rowIs_step (h.el i hi) hb⟩
theorem BM.congr {T E : TypeId} {w : World} {g m : Nat} {b b' : Nat → Nat → Bool} (h : BM T E w g m b) (hb : ∀ i j, i < m → j < m → b i j = b' i j) : BM T E w g m b' := ⟨h.row, fun i hi => (h.el i hi).congr fun j hj => by rw [hb i j hi hj]⟩
theorem BM.set {T E : TypeId} {w : World} {g m : Nat} {b : Nat → Nat → Bool} (h : BM T E w g m b) (i j : Nat) (v : Bool) : BM T E (w.setCell ⟨g + 1 + i, j, none⟩ (.bool v)) g m (fun x y => if x = i ∧ y = j then v else b x y) := by
  refine ⟨h.row.setOther (by simp; omega) _, fun x hx => ?_⟩
  by_cases e : x = i
  · subst e
    refine ((h.el x hx).set j (.bool v)).congr fun y hy => ?_
    by_cases e2 : y = j <;> simp [e2]
  · refine ((h.el x hx).setOther (by simp; omega) _).congr fun y hy => ?_
    simp [e]
theorem BM.c1 {T E : TypeId} {w : World} {g m : Nat} {b : Nat → Nat → Bool} (h : BM T E w g m b) {i : Nat} (hi : i < m) : w.cell? ⟨g, i, none⟩ = some (.slice (some ⟨g + 1 + i, 0, none⟩) m m) := h.row.cell hi
theorem BM.c2 {T E : TypeId} {w : World} {g m : Nat} {b : Nat → Nat → Bool} (h : BM T E w g m b) {i j : Nat} (hi : i < m) (hj : j < m) : w.cell? ⟨g + 1 + i, j, none⟩ = some (.bool (b i j)) := (h.el i hi).cell hj
theorem BM.f2 {T E : TypeId} {w : World} {g m : Nat} {b : Nat → Nat → Bool} (h : BM T E w g m b) {i : Nat} (hi : i < m) (j : Nat) : w.frozen? ⟨g + 1 + i, j, none⟩ = false := (h.el i hi).frozen j
theorem BM.lt {T E : TypeId} {w : World} {g m : Nat} {b : Nat → Nat → Bool} (h : BM T E w g m b) {i : Nat} (hi : i < m) : g + 1 + i < w.heap.size := (h.el i hi).lt

/-- the rows made so far -/
structure BM0 (T E : TypeId) (w : World) (g m k : Nat) : Prop where
  row : w.rowIs g T m (fun i => if i < k then .slice (some ⟨g + 1 + i, 0, none⟩) m m else .slice none 0 0)
  el : ∀ i, i < k → w.rowIs (g + 1 + i) E m (fun _ => .bool false)
  size : w.heap.size = g + 1 + k
theorem BM0.step {T E : TypeId} {w : World} {g m k : Nat} (h : BM0 T E w g m k) : BM0 T E ((w.setCell ⟨g, k, none⟩ (.slice (some ⟨w.heap.size, 0, none⟩) m m)).alloc (.cells (madeCells #[.bool false] m) E)) g m (k + 1) := by
  have hs := h.size
  refine ⟨((h.row.set k _).alloc _).congr fun i hi => ?_, fun i hi => ?_, by simp; omega⟩
  · by_cases e : i = k
    · subst e; rw [if_pos rfl, if_pos (by omega), hs]
    · rw [if_neg e]
      by_cases e2 : i < k
      · rw [if_pos e2, if_pos (by omega)]
      · rw [if_neg e2, if_neg (by omega)]
  · by_cases e : i = k
    · subst e
      have := World.rowIs_made (w.setCell ⟨g, i, none⟩ (.slice (some ⟨w.heap.size, 0, none⟩) m m)) (.bool false) m E
      rw [World.size_setCell, hs] at this
      rw [hs]
      exact this
    · exact ((h.el i (by omega)).setOther (by simp; omega) _).alloc _

theorem BM.fw {T E : TypeId} {w : World} {g m i1 j1 : Nat} {F0 F1 : Nat → Nat → Bool} (h : BM T E w g m (fun x y => if x < i1 ∨ (x = i1 ∧ y < j1) then F1 x y else F0 x y)) {v : Bool} (hv : F1 i1 j1 = v) :
    BM T E (w.setCell ⟨g + 1 + i1, j1, none⟩ (.bool v)).drew g m (fun x y => if x < i1 ∨ (x = i1 ∧ y < j1 + 1) then F1 x y else F0 x y) := (h.set i1 j1 v).drew.congr fun x y _ _ => by
  by_cases e : x = i1 ∧ y = j1
  · obtain ⟨rfl, rfl⟩ := e
    rw [if_pos ⟨rfl, rfl⟩, if_pos (by omega), hv]
  · rw [if_neg e]
    by_cases e2 : x < i1 ∨ (x = i1 ∧ y < j1)
    · rw [if_pos e2, if_pos (by omega)]
    · rw [if_neg e2, if_neg (by omega)]

set_option maxHeartbeats 2000000 in
theorem reach_rows (A : Option Addr) (c m : Nat) (es : List (Int × Int)) (w : World) (he : RdE w w.heap.size A es) (hin : inR m es = true) :
    Calls Tryd.prog 53 #[.agg #[.int .i64 (m : Int), .slice A es.length c]] w fun e w' => ∃ g, e = .returned (.slice (some ⟨g, 0, none⟩) m m) ∧ BM 75 4 w' g m (fw (gR es) m) ∧ Below w.heap.size w w' := by
  have hroom := he.room
  have hm := okN_of hin
  have hm2 : m ≤ 200 := by omega
  have hok := okE_of hin
  clear hm
  have hmk1 := run_make_row' (P := Tryd.prog) 73 75 (.slice none 0 0) 24 Tryd.underlying73 Tryd.infoSB rfl .i64 .i64 m (by omega) (by omega)
  have hmk2 := run_make_row' (P := Tryd.prog) 75 4 (.bool false) 1 Tryd.underlying75 Tryd.infoB rfl .i64 .i64 m (by omega) (by omega)
  have HOK := Lib.hid hok
  have HIN := Lib.hid hin
  clear hok hin
  go_enter Tryd.func53, Tryd.ntmps53
  go_wp2_with fail
  have hG := GBox.new w m A es.length c 24
  obtain ⟨w1, hw1⟩ : ∃ w1, w1 = w.alloc (.cells #[.int .i64 (m : Int), .slice A es.length c] 24) := ⟨_, rfl⟩
  have hb1 : Below w.heap.size w w1 := by rw [hw1]; exact (Below.refl _ _).alloc (Nat.le_refl _) _
  have hs1 : w1.heap.size = w.heap.size + 1 := by rw [hw1]; simp
  have hM0 := World.rowIs_made w1 (.slice none 0 0) m 75
  obtain ⟨w2, hw2⟩ : ∃ w2, w2 = w1.alloc (.cells (madeCells #[.slice none 0 0] m) 75) := ⟨_, rfl⟩
  have hb2 : Below w1.heap.size w1 w2 := by rw [hw2]; exact (Below.refl _ _).alloc (Nat.le_refl _) _
  have hs2 : w2.heap.size = w1.heap.size + 1 := by rw [hw2]; simp
  rw [← hw1, ← hw2]
  rw [← hw1] at hG
  rw [← hw2] at hM0
  have he1 := he.step hb1
  obtain ⟨B, hB⟩ : ∃ B, B = w.heap.size := ⟨_, rfl⟩
  obtain ⟨g, hg⟩ : ∃ g, g = w1.heap.size := ⟨_, rfl⟩
  rw [← hg] at hb2 hs2 hM0 he1
  have hgB : g = B + 1 := by omega
  have hBM0 : BM0 75 4 w2 g m 0 := ⟨hM0.congr fun i hi => by simp, fun i hi => by omega, by omega⟩
  rw [← hB] at hG ⊢
  rw [← hgB]
  have hBg : B < g := by omega
  have HGB := Lib.hid hgB
  have HB := Lib.hid hB
  have HG1 := Lib.hid hg
  have hG2 := hG.below hb2 hBg
  have hgn := hG2.n
  clear hw1 hw2 hM0 he hs1 hs2 hgB hB hg
  go_loopw [15] (fun i wr => ∃ k : Nat, k ≤ m ∧ i = .int .i64 k ∧ BM0 75 4 wr g m k ∧ Below g w1 wr) (fun i _ => m - (intOf i).toNat)
  case atStart => exact ⟨0, Nat.zero_le _, rfl, hBM0, hb2⟩
  case round =>
    obtain ⟨k, hk, rfl, hM, hbr⟩ := hrel
    have hgr := (hG.below hbr hBg).n
    have hsz := Lib.hid hM.size
    clear hBM0 hb2 hG2 hgn
    by_cases hlt : k < m
    · have hlg := hM.row.lt
      have hck := fun o => ((hM.row.alloc o).cell hlt)
      have hfk := fun o => ((hM.row.alloc o).frozen k)
      have hst := Lib.hid hM.step
      clear hmk1
      go_wp2
      go_roundw
      case rel => exact ⟨k + 1, by omega, by go_num, hst.out, (hbr.setCell (p := ⟨g, k, none⟩) (Nat.le_refl _) _).alloc (by simp; omega) _⟩
      case measure => simp [intOf]; omega
    · obtain rfl : k = m := by omega
      have hM2 : BM 75 4 wr g k (fun i j => decide (((i : Int), (j : Int)) ∈ es.take 0)) :=
        ⟨hM.row.congr fun i hi => by rw [if_pos hi], fun i hi => (hM.el i hi).congr fun j hj => by simp⟩
      have hge := (hG.below hbr hBg).e
      clear hM hmk1 hmk2 hsz
      go_wp2_with fail
      obtain ⟨wo, rfl⟩ : ∃ wo : World, wo = wr := ⟨_, rfl⟩
      go_loopw [28] (fun i wr => ∃ t : Nat, t ≤ es.length ∧ i = .int .i64 t ∧ BM 75 4 wr g k (fun i j => decide (((i : Int), (j : Int)) ∈ es.take t)) ∧ Below g w1 wr) (fun i _ => es.length - (intOf i).toNat)
      case atStart => exact ⟨0, Nat.zero_le _, rfl, hM2, hbr⟩
      case round =>
        obtain ⟨t, ht, rfl, hM, hbt⟩ := hrel
        clear hM2 hbr hgr hge
        by_cases htl : t < es.length
        · have hoke := HOK.out t htl
          unfold okE at hoke
          rw [Bool.and_eq_true] at hoke
          obtain ⟨o1, o2⟩ := hoke
          replace o1 := nodeB_true o1
          replace o2 := nodeB_true o2
          obtain ⟨x, hx⟩ : ∃ x : Nat, (ed es t).1 = (x : Int) := ⟨(ed es t).1.toNat, by omega⟩
          obtain ⟨y, hy⟩ : ∃ y : Nat, (ed es t).2 = (y : Int) := ⟨(ed es t).2.toNat, by omega⟩
          have hxm : x < k := by omega
          have hym : y < k := by omega
          have hte : Hid (ed es t = ((x : Int), (y : Int))) := Lib.hid (by rw [← hx, ← hy])
          have hglt := hM.row.lt
          obtain ⟨b, off, rfl, hb, hc⟩ := he1.rd (by omega)
          have hc1 := (hbt.cell (p := ⟨b, off + t * 2, none⟩) hb).trans (hc t htl).1
          have hc2 := (hbt.cell (p := ⟨b, off + t * 2 + 1, none⟩) hb).trans (hc t htl).2
          rw [hx] at hc1
          rw [hy] at hc2
          clear hc o1 o2 hx hy
          go_wp2_with fail
          have hX := EBox.new wr x y 38
          obtain ⟨w3, hw3⟩ : ∃ w3, w3 = wr.alloc (.cells #[.int .i64 (x : Int), .int .i64 (y : Int)] 38) := ⟨_, rfl⟩
          have hM3 : BM 75 4 w3 g k (fun i j => decide (((i : Int), (j : Int)) ∈ es.take t)) := by rw [hw3]; exact hM.alloc _
          have hbt3 : Below g w1 w3 := by rw [hw3]; exact hbt.alloc (by omega) _
          rw [← hw3] at hX ⊢
          clear hw3 hM hbt hc1 hc2
          have hcx := hX.x
          have hcy := hX.y
          have hr1 := hM3.c1 hxm
          have hr2 := hM3.c2 hxm hym
          have hf2 := hM3.f2 hxm y
          have hx0 : (0 : Int) ≤ (x : Int) := Int.natCast_nonneg _
          have hx1 : (x : Int) < (k : Int) := by omega
          have hy0 : (0 : Int) ≤ (y : Int) := Int.natCast_nonneg _
          have hy1 : (y : Int) < (k : Int) := by omega
          obtain ⟨b0, hb0⟩ : ∃ b0 : Bool, decide (((x : Int), (y : Int)) ∈ es.take t) = b0 := ⟨_, rfl⟩
          rw [hb0] at hr2
          clear hb0 hX
          go_region
          go_wp2
          have hM4 : BM 75 4 (w3.setCell ⟨g + 1 + x, y, none⟩ (.bool true)).drew g k (fun i j => decide (((i : Int), (j : Int)) ∈ es.take (t + 1))) := (hM3.set x y true).drew.congr fun i j hi hj => by
            rw [take_ed es t htl, hte.out]
            by_cases e : i = x ∧ j = y
            · obtain ⟨rfl, rfl⟩ := e; simp
            · have : ¬ ((i : Int) = (x : Int) ∧ (j : Int) = (y : Int)) := fun h => e (by omega)
              rw [if_neg e, Bool.eq_iff_iff, decide_eq_true_iff, decide_eq_true_iff, List.mem_append]
              simp [this]
          go_roundw
          case rel => exact ⟨t + 1, by omega, by go_num, hM4, (hbt3.setCell (p := ⟨g + 1 + x, y, none⟩) (by simp; omega) _).drew⟩
          case measure => simp [intOf]; omega
        · obtain rfl : t = es.length := by omega
          rw [List.take_length] at hM
          obtain ⟨R, hR⟩ : ∃ R, R = gR es := ⟨_, rfl⟩
          have hM0 : BM 75 4 wr g k (fw R 0) := hM.congr fun i j _ _ => by rw [hR]; rfl
          have HRR := Lib.hid hR
          clear hM hR hlt htl ht hk
          go_wp2_with fail
          obtain ⟨wo, rfl⟩ : ∃ wo : World, wo = wr := ⟨_, rfl⟩
          go_loopw [43] (fun i wr => ∃ a : Nat, a ≤ k ∧ i = .int .i64 a ∧ BM 75 4 wr g k (fw R a) ∧ Below g w1 wr) (fun i _ => k - (intOf i).toNat)
          case atStart => exact ⟨0, Nat.zero_le _, rfl, hM0, hbt⟩
          case round =>
            clear hM0 hbt
            obtain ⟨a, ha, rfl, hMa, hba⟩ := hrel
            by_cases hal : a < k
            · have hMi0 : BM 75 4 wr g k (fun x y => if x < 0 then fw R (a + 1) x y else fw R a x y) := hMa.congr fun x y _ _ => by rw [if_neg (by omega)]
              clear hMa
              go_wp2_with fail
              obtain ⟨wo, rfl⟩ : ∃ wo : World, wo = wr := ⟨_, rfl⟩
              go_loopw [48] (fun i wr => ∃ i1 : Nat, i1 ≤ k ∧ i = .int .i64 i1 ∧ BM 75 4 wr g k (fun x y => if x < i1 then fw R (a + 1) x y else fw R a x y) ∧ Below g w1 wr) (fun i _ => k - (intOf i).toNat)
              case atStart => exact ⟨0, Nat.zero_le _, rfl, hMi0, hba⟩
              case round =>
                clear hMi0 hba
                obtain ⟨i1, hi1, rfl, hMi, hbi⟩ := hrel
                by_cases hil : i1 < k
                · have hMj0 : BM 75 4 wr g k (fun x y => if x < i1 ∨ (x = i1 ∧ y < 0) then fw R (a + 1) x y else fw R a x y) := hMi.congr fun x y _ _ => by
                    by_cases e : x < i1
                    · rw [if_pos e, if_pos (.inl e)]
                    · rw [if_neg e, if_neg (by omega)]
                  clear hMi
                  go_wp2_with fail
                  obtain ⟨wo, rfl⟩ : ∃ wo : World, wo = wr := ⟨_, rfl⟩
                  go_loopw [53] (fun i wr => ∃ j1 : Nat, j1 ≤ k ∧ i = .int .i64 j1 ∧ BM 75 4 wr g k (fun x y => if x < i1 ∨ (x = i1 ∧ y < j1) then fw R (a + 1) x y else fw R a x y) ∧ Below g w1 wr) (fun i _ => k - (intOf i).toNat)
                  case atStart => exact ⟨0, Nat.zero_le _, rfl, hMj0, hbi⟩
                  case round =>
                    clear hMj0 hbi
                    obtain ⟨j1, hj1, rfl, hMj, hbj⟩ := hrel
                    by_cases hjl : j1 < k
                    · have hc1 := hMj.c1 hil
                      have hc2 := hMj.c1 hal
                      have hij := hMj.c2 hil hjl
                      have hia := hMj.c2 hil hal
                      have haj := hMj.c2 hal hjl
                      have hf := hMj.f2 hil j1
                      have e1 : (if i1 < i1 ∨ (i1 = i1 ∧ j1 < j1) then fw R (a + 1) i1 j1 else fw R a i1 j1) = fw R a i1 j1 := if_neg (by omega)
                      have e2 : (if i1 < i1 ∨ (i1 = i1 ∧ a < j1) then fw R (a + 1) i1 a else fw R a i1 a) = fw R a i1 a := by rw [fw_col]; exact ite_self _
                      have e3 : (if a < i1 ∨ (a = i1 ∧ j1 < j1) then fw R (a + 1) a j1 else fw R a a j1) = fw R a a j1 := by rw [fw_row]; exact ite_self _
                      rw [e1] at hij
                      rw [e2] at hia
                      rw [e3] at haj
                      clear e1 e2 e3
                      obtain ⟨v1, hv1⟩ : ∃ v1, fw R a i1 j1 = v1 := ⟨_, rfl⟩
                      obtain ⟨v2, hv2⟩ : ∃ v2, fw R a i1 a = v2 := ⟨_, rfl⟩
                      obtain ⟨v3, hv3⟩ : ∃ v3, fw R a a j1 = v3 := ⟨_, rfl⟩
                      rw [hv1] at hij
                      rw [hv2] at hia
                      rw [hv3] at haj
                      have hnew : fw R (a + 1) i1 j1 = (v1 || (v2 && v3)) := by simp only [fw]; rw [hv1, hv2, hv3]
                      have HNEW := Lib.hid hnew
                      clear hv1 hv2 hv3 hnew
                      have hi0 : (0 : Int) ≤ (i1 : Int) := Int.natCast_nonneg _
                      have hi2 : (i1 : Int) < (k : Int) := by omega
                      have hj0 : (0 : Int) ≤ (j1 : Int) := Int.natCast_nonneg _
                      have hj2 : (j1 : Int) < (k : Int) := by omega
                      have ha0 : (0 : Int) ≤ (a : Int) := Int.natCast_nonneg _
                      have ha2 : (a : Int) < (k : Int) := by omega
                      have hcases : v1 = true ∨ (v1 = false ∧ v2 = false) ∨ (v1 = false ∧ v2 = true ∧ v3 = true) ∨ (v1 = false ∧ v2 = true ∧ v3 = false) := by
                        cases v1 <;> cases v2 <;> cases v3 <;> simp
                      rcases hcases with rfl | ⟨rfl, rfl⟩ | ⟨rfl, rfl, rfl⟩ | ⟨rfl, rfl, rfl⟩
                      all_goals
                        go_wp2
                        go_region
                        go_wp2
                        go_roundw
                        case rel => exact ⟨j1 + 1, by omega, by go_num, hMj.fw HNEW.out, (hbj.setCell (p := ⟨g + 1 + i1, j1, none⟩) (by simp; omega) _).drew⟩
                        case measure => simp [intOf]; omega
                    · obtain rfl : j1 = k := by omega
                      have hMi2 : BM 75 4 wr g j1 (fun x y => if x < i1 + 1 then fw R (a + 1) x y else fw R a x y) := hMj.congr fun x y hx hy => by
                        by_cases e : x < i1 + 1
                        · rw [if_pos e, if_pos (by omega)]
                        · rw [if_neg e, if_neg (by omega)]
                      clear hMj
                      go_wp2
                      go_roundw
                      case rel => exact ⟨i1 + 1, by omega, by go_num, hMi2, hbj⟩
                      case measure => simp [intOf]; omega
                · obtain rfl : i1 = k := by omega
                  have hMa2 : BM 75 4 wr g i1 (fw R (a + 1)) := hMi.congr fun x y hx hy => by rw [if_pos hx]
                  clear hMi
                  go_wp2
                  go_roundw
                  case rel => exact ⟨a + 1, by omega, by go_num, hMa2, hbi⟩
                  case measure => simp [intOf]; omega
            · obtain rfl : a = k := by omega
              go_wp2
              go_ret
              refine ⟨g, rfl, by rw [← HRR.out]; exact hMa, hb1.trans (hba.mono ?_)⟩
              have h1 := HGB.out
              have h2 := HB.out
              omega
end Go.Proofs.YtaboafkpmgadmaaDoor
