/-
  Contracts of the marker's methods.
-/
import Derived.Test.YtafdpimkfkddaaaDoorSpM
import Derived.Test.YtafdpimkfkddaaaDoorSpA
namespace Go.Proofs.YtafdpimkfkddaaaDoor
open Go.RowKit
set_option maxRecDepth 100000

def zVals (Z : List Int) : List Value := Z.map fun z => .int .i64 z
theorem zVals_at (Z : List Int) (k : Nat) (hk : k < Z.length) : (zVals Z)[k]? = some (.int .i64 (z0 Z k)) := by
  unfold zVals z0
  simp [hk, List.getD]
theorem zVals_set (Z : List Int) (k : Nat) (v : Int) : (zVals Z).set k (.int .i64 v) = zVals (Z.set k v) := by
  unfold zVals
  rw [List.map_set]
theorem zVals_snoc (Z : List Int) (v : Int) : zVals (Z ++ [v]) = zVals Z ++ [.int .i64 v] := by simp [zVals]
theorem zVals_len (Z : List Int) : (zVals Z).length = Z.length := by simp [zVals]

/-- a store into a row of its own -/
theorem own_set {w : World} {base size n g cap j : Nat} {e : TypeId} {xs : List Value} (h : w.ownsRow base e size (.slice (some ⟨g, 0, none⟩) n cap) n xs) (u : Value) :
    (w.setCell ⟨g, j, none⟩ u).ownsRow base e size (.slice (some ⟨g, 0, none⟩) n cap) n (xs.set j u) := by
  rcases h.2 with ⟨h1, _⟩ | ⟨g', cap', cur, h1, h2, h3, h4, h5, h6, h7⟩
  · cases h1
  · injection h1 with hA _ hc
    injection hA with hA
    injection hA with hA
    subst hA
    subst hc
    refine ⟨by rw [List.length_set]; exact h.1, .inr ⟨_, _, cur.set! j u, rfl, h2, heap_set_in h3 u, h4, h5, by simpa using h6, ?_⟩⟩
    rw [← h7]
    simp [List.take_set]
theorem own_cell1 {w : World} {base n g cap : Nat} {e : TypeId} {Z : List Int} (h : w.ownsRow base e 1 (.slice (some ⟨g, 0, none⟩) n cap) n (zVals Z)) (k : Nat) (hk : k < n) : w.cell? ⟨g, k, none⟩ = some (.int .i64 (z0 Z k)) := by
  rw [h.cellAt k (by omega), zVals_at Z k (by have := h.1; rw [zVals_len] at this; omega)]
theorem own_frozen {w : World} {base size n g cap : Nat} {e : TypeId} {xs : List Value} (h : w.ownsRow base e size (.slice (some ⟨g, 0, none⟩) n cap) n xs) (k : Nat) : w.frozen? ⟨g, k, none⟩ = false := by
  rcases h.2 with ⟨h1, _⟩ | ⟨g', cap', cur, h1, h2, h3, h4⟩
  · cases h1
  · injection h1 with hA _ hc
    injection hA with hA
    injection hA with hA
    subst hA
    simp [World.frozen?, h3]

theorem Tryd.infoIntP : ∃ i0, Tryd.prog.info? 3 = some i0 ∧ i0.zero = some (.int .i64 0) ∧ i0.size = 1 ∧ i0.bytes = 8 := by
  have h : (Tryd.prog.info? 3).map (fun i => (i.zero, i.size, i.bytes)) = some (some (.int .i64 0), 1, 8) := by kernel_rfl
  obtain ⟨i0, hi, hii⟩ := Option.map_eq_some_iff.1 h
  simp only [Prod.mk.injEq] at hii
  exact ⟨i0, hi, hii⟩

/-- one is appended to the row that lies in the box; row and box lie from block M on -/
theorem coll_stepM {M C size k m : Nat} {T E : TypeId} {xs ys : List Value} {W w1 : World} {v v' : Value} {tmp : Obj} (hM : M ≤ C) (hv : Boxed W C T v) (hTE : T ≠ E) (hrow : W.ownsRow M E size v k xs)
    (hown' : w1.ownsRow M E size v' m ys) (hgrow : (W.alloc tmp).grownBy w1 v.ownBlock) :
    Boxed (w1.setCell ⟨C, 0, none⟩ v') C T v' ∧ (w1.setCell ⟨C, 0, none⟩ v').ownsRow M E size v' m ys ∧ Below M W (w1.setCell ⟨C, 0, none⟩ v') := by
  have hv0 : Boxed (W.alloc tmp) C T v := hv.alloc tmp
  have hv1 : Boxed w1 C T v := hv0.kept hgrow (hv.not_row hTE hrow)
  refine ⟨hv1.set v', hown'.kept (grownBy_setCell' w1 C v') (.inr (hv1.not_row hTE hown').symm), ?_⟩
  have hlt := hv.lt
  exact (((Below.refl M W).alloc (by omega) tmp).grown hgrow (by simp; omega) fun j ej => (hrow.lt j ej).1).setCell (p := ⟨C, 0, none⟩) hM v'

/-- the marker's state -/
def MarkI (M C : Nat) (w : World) (Z : List Int) (n : Nat) : Prop :=
  M ≤ C ∧ ∃ g cap, Boxed w C 86 (.slice (some ⟨g, 0, none⟩) Z.length cap) ∧ w.ownsRow M 3 1 (.slice (some ⟨g, 0, none⟩) Z.length cap) Z.length (zVals Z) ∧ Z.length = n + 1
theorem MarkI.lt {M C n : Nat} {w : World} {Z : List Int} (h : MarkI M C w Z n) : C < w.heap.size := by
  obtain ⟨_, g, cap, h1, _⟩ := h
  exact h1.lt
theorem MarkI.alloc {M C n : Nat} {w : World} {Z : List Int} (h : MarkI M C w Z n) (o : Obj) : MarkI M C (w.alloc o) Z n := by
  obtain ⟨hM, g, cap, h1, h2, h3⟩ := h
  exact ⟨hM, g, cap, h1.alloc o, h2.alloc o, h3⟩

theorem mark_leaf (M C n : Nat) (a : Acc) (Z : List Int) (w : World) (h : MarkI M C w Z n) (hn : n < 1048576) :
    Calls Tryd.prog 79 #[.pointer (some ⟨C, 0, none⟩), .int .i64 n, accV a] w fun e w' => e = .returned (.bool true) ∧ MarkI M C w' (Z ++ [0]) (n + 1) ∧ Below M w w' := by
  obtain ⟨hM, g0, cap0, hv, hown, hle⟩ := h
  obtain ⟨c, x, l⟩ := a
  dsimp only [accV]
  obtain ⟨i0, hi, hz0, hz1, hz2⟩ := Tryd.infoIntP
  have hv1 := hv.alloc (.cells #[.int .i64 c, .bool x, .int .i64 l] 23)
  have hown1 := hown.alloc (.cells #[.int .i64 c, .bool x, .int .i64 l] 23)
  have hb1 : Below M w (w.alloc (.cells #[.int .i64 c, .bool x, .int .i64 l] 23)) := (Below.refl M w).alloc (by have := hv.lt; omega) _
  obtain ⟨w1, hw1⟩ : ∃ w1, w1 = w.alloc (.cells #[.int .i64 c, .bool x, .int .i64 l] 23) := ⟨_, rfl⟩
  rw [← hw1] at hv1 hown1 hb1
  have hc0 := hv.cell
  have hlt0 := hv.lt
  have hlt := hv1.lt
  obtain ⟨L, hL⟩ : ∃ L, L = Z.length := ⟨_, rfl⟩
  rw [← hL] at hown1 hle hv1 hc0
  have hin1 : L + 1 ≤ maxLen := by unfold maxLen; omega
  have hin2 : (L + 1) * 8 ≤ 140737488355328 := by omega
  have hfin : ∀ gg cap w4, w4.ownsRow M 3 1 (.slice (some ⟨gg, 0, none⟩) (L + 1) cap) (L + 1) (zVals Z ++ [.int .i64 0]) →
      (w1.alloc (.cells #[.int .i64 0] 3)).grownBy w4 (Value.slice (some ⟨g0, 0, none⟩) L cap0).ownBlock →
      MarkI M C (w4.setCell ⟨C, 0, none⟩ (.slice (some ⟨gg, 0, none⟩) (L + 1) cap)) (Z ++ [0]) (n + 1) ∧ Below M w (w4.setCell ⟨C, 0, none⟩ (.slice (some ⟨gg, 0, none⟩) (L + 1) cap)) := fun gg cap w4 h1 h2 => by
    obtain ⟨p1, p2, p3⟩ := coll_stepM hM hv1 (by decide) hown1 h1 h2
    refine ⟨⟨hM, gg, cap, ?_, ?_, by simp; omega⟩, hb1.trans p3⟩
    · rw [List.length_append, List.length_singleton, ← hL]; exact p1
    · rw [zVals_snoc, List.length_append, List.length_singleton, ← hL]; exact p2
  have hsz1 : w1.heap.size = w.heap.size + 1 := by rw [hw1]; simp
  have hnew : (w1.alloc (.cells #[.int .i64 0] 3)).heap[w.heap.size + 1]? = some (.cells #[.int .i64 0] 3 (0, 0)) := by rw [← hsz1]; exact World.alloc_heap_new w1 _
  have HNW := Lib.hid hnew
  have hbs : M ≤ (w1.alloc (.cells #[.int .i64 0] 3)).heap.size := by simp; omega
  have HBS := Lib.hid hbs
  clear hnew hsz1 hbs
  have HF := Lib.hid hfin
  have hne := hv1.not_row (by decide) hown1
  have HV1 := Lib.hid hv1
  have HOW := Lib.hid hown1
  have HNE := Lib.hid hne
  clear hL hv hown hb1 hfin hv1 hown1 hne hle
  go_enter Tryd.func79, Tryd.ntmps79
  go_wp2_with (first
    | (at_builtin; (rw [← hw1]; refine wpList_append_lies _ rfl _ _ _ rfl M 3 i0 _ 1 8 Tryd.underlying84 hi hz0 hz1 hz2 rfl (by omega) (.slice (some ⟨g0, 0, none⟩) L cap0) L (zVals Z) rfl (HOW.out.alloc _) ⟨w.heap.size + 1, 0, none⟩ 1 1 [.int .i64 0] rfl rfl (World.news_of_block (cs := #[.int .i64 0]) (t := 3) (fr := (0, 0)) HNW.out) (by simp [Value.oneCell']) (by omega) hin1 hin2 HBS.out _ rfl ?_; intro gg cap w4 hown4 hgrow hat hlt'; have hc4 : w4.cell? ⟨C, 0, none⟩ = some (.slice (some ⟨g0, 0, none⟩) L cap0) := ((HV1.out.alloc _).kept hgrow HNE.out).cell; have hf4 : w4.frozen? ⟨C, 0, none⟩ = false := ((HV1.out.alloc _).kept hgrow HNE.out).frozen; have hfin4 := Lib.hid (HF.out gg cap w4 hown4 hgrow)))
    | fail)
  go_ret
  exact ⟨rfl, hfin4.out⟩

theorem mark_par (M C x m t : Nat) (Z : List Int) (w : World) (h : MarkI M C w Z t) (hx : x ≤ m) (hm : m ≤ t) (ht : t ≤ 1048576) :
    Calls Tryd.prog 80 #[.pointer (some ⟨C, 0, none⟩), .int .i64 x, .int .i64 m, .int .i64 t] w fun e w' => e = .returned (.tuple #[]) ∧ MarkI M C w' (mkP Z x m t) t ∧ Below M w w' := by
  obtain ⟨hM, g, cap, hv, hown, hle⟩ := h
  obtain ⟨L, hL⟩ : ∃ L, L = Z.length := ⟨_, rfl⟩
  rw [← hL] at hv hown hle
  have hne := hv.not_row (by decide) hown
  have hCg : C ≠ g := fun e => hne (by rw [e]; rfl)
  have hgC : g ≠ C := fun e => hCg e.symm
  have hcell := hv.cell
  have hgb : M ≤ g := by have := (hown.lt g rfl).1; exact this
  -- the three stores
  obtain ⟨v1, hv1⟩ : ∃ v1, v1 = IntKind.i64.wrap (z0 Z x + ((t : Int) - m)) := ⟨_, rfl⟩
  obtain ⟨Z1, hZ1⟩ : ∃ Z1, Z1 = Z.set x v1 := ⟨_, rfl⟩
  obtain ⟨v2, hv2⟩ : ∃ v2, v2 = IntKind.i64.wrap (z0 Z1 m - ((t : Int) - x)) := ⟨_, rfl⟩
  obtain ⟨Z2, hZ2⟩ : ∃ Z2, Z2 = Z1.set m v2 := ⟨_, rfl⟩
  obtain ⟨v3, hv3⟩ : ∃ v3, v3 = IntKind.i64.wrap (z0 Z2 t + ((m : Int) - x)) := ⟨_, rfl⟩
  have hZ3 : mkP Z x m t = Z2.set t v3 := by rw [hv3, hZ2, hv2, hZ1, hv1]; rfl
  rw [hZ3]
  have o1 := own_set (j := x) hown (.int .i64 v1)
  rw [zVals_set, ← hZ1] at o1
  have o2 := own_set (j := m) o1 (.int .i64 v2)
  rw [zVals_set, ← hZ2] at o2
  have o3 := own_set (j := t) o2 (.int .i64 v3)
  rw [zVals_set] at o3
  have k1 : (w.setCell ⟨g, x, none⟩ (.int .i64 v1)).heap[C]? = w.heap[C]? := Below.heap_setCell _ _ _ _ hCg
  have k2 : ((w.setCell ⟨g, x, none⟩ (.int .i64 v1)).setCell ⟨g, m, none⟩ (.int .i64 v2)).heap[C]? = w.heap[C]? := (Below.heap_setCell _ _ _ _ hCg).trans k1
  have k3 : (((w.setCell ⟨g, x, none⟩ (.int .i64 v1)).setCell ⟨g, m, none⟩ (.int .i64 v2)).setCell ⟨g, t, none⟩ (.int .i64 v3)).heap[C]? = w.heap[C]? := (Below.heap_setCell _ _ _ _ hCg).trans k2
  have hb3 : Below M w (((w.setCell ⟨g, x, none⟩ (.int .i64 v1)).setCell ⟨g, m, none⟩ (.int .i64 v2)).setCell ⟨g, t, none⟩ (.int .i64 v3)) :=
    (((Below.refl M w).setCell (p := ⟨g, x, none⟩) (by dsimp only; omega) _).setCell (p := ⟨g, m, none⟩) (by dsimp only; omega) _).setCell (p := ⟨g, t, none⟩) (by dsimp only; omega) _
  have hfin : MarkI M C (((w.setCell ⟨g, x, none⟩ (.int .i64 v1)).setCell ⟨g, m, none⟩ (.int .i64 v2)).setCell ⟨g, t, none⟩ (.int .i64 v3)) (Z2.set t v3) t := by
    have hl3 : (Z2.set t v3).length = L := by rw [List.length_set, hZ2, List.length_set, hZ1, List.length_set, hL]
    refine ⟨hM, g, cap, ?_, ?_, by rw [hl3]; omega⟩
    · rw [hl3]; exact k3.trans hv
    · rw [hl3]; exact o3
  have c1 := own_cell1 hown x (by omega)
  have c2 : (w.setCell ⟨g, x, none⟩ (.int .i64 v1)).cell? ⟨g, m, none⟩ = some (.int .i64 (z0 Z1 m)) := own_cell1 o1 m (by omega)
  have c3 : ((w.setCell ⟨g, x, none⟩ (.int .i64 v1)).setCell ⟨g, m, none⟩ (.int .i64 v2)).cell? ⟨g, t, none⟩ = some (.int .i64 (z0 Z2 t)) := own_cell1 o2 t (by omega)
  have hf := own_frozen hown
  have b1 : (w.setCell ⟨g, x, none⟩ (.int .i64 v1)).cell? ⟨C, 0, none⟩ = some (.slice (some ⟨g, 0, none⟩) L cap) := (World.cell?_of_block k1).trans hcell
  have b2 : ((w.setCell ⟨g, x, none⟩ (.int .i64 v1)).setCell ⟨g, m, none⟩ (.int .i64 v2)).cell? ⟨C, 0, none⟩ = some (.slice (some ⟨g, 0, none⟩) L cap) := (World.cell?_of_block k2).trans hcell
  have f1 : ∀ k, (w.setCell ⟨g, x, none⟩ (.int .i64 v1)).frozen? ⟨g, k, none⟩ = false := own_frozen o1
  have f2 : ∀ k, ((w.setCell ⟨g, x, none⟩ (.int .i64 v1)).setCell ⟨g, m, none⟩ (.int .i64 v2)).frozen? ⟨g, k, none⟩ = false := own_frozen o2
  have e1 : IntKind.i64.wrap ((t : Int) - (m : Int)) = (t : Int) - m := by rw [IntKind.wrap_i64]; omega
  have e2 : IntKind.i64.wrap ((m : Int) - (x : Int)) = (m : Int) - x := by rw [IntKind.wrap_i64]; omega
  have e3 : IntKind.i64.wrap (((t : Int) - (m : Int)) + ((m : Int) - (x : Int))) = (t : Int) - x := by rw [IntKind.wrap_i64]; omega
  have n1 : (0 : Int) ≤ (x : Int) := by omega
  have n2 : (x : Int) < (L : Int) := by omega
  have n3 : (m : Int) < (L : Int) := by omega
  have n4 : (t : Int) < (L : Int) := by omega
  have HFIN := Lib.hid hfin
  have HB3 := Lib.hid hb3
  have hv1' := hv1.symm
  have hv2' := hv2.symm
  have hv3' := hv3.symm
  clear hfin hb3 hZ3 hv hown hv1 hv2 hv3 hZ1 hZ2 o1 o2 o3 k1 k2 k3 hL hne hgb
  go_enter Tryd.func80, Tryd.ntmps80
  go_wp2_with fail
  go_end0
  exact ⟨rfl, HFIN.out, HB3.out⟩
end Go.Proofs.YtafdpimkfkddaaaDoor
