/-
  Contract of order.fewestChains.
  Contracts of the chain that begins with a node, of order.Cover, of order.Wide.
  The law SpanHeight, as a walk: it answers true and leaves the memory of before as it was.
-/
import Derived.Test.YtidgibkiacbgfaaDoorPk22
import Derived.Test.YtidgibkiacbgfaaDoorPk21
import Derived.Laws.EntriesVeiled
import Derived.Laws.IdiomCopy
import Derived.Lib.LazyBuf
import Derived.Maps.AppendAt
import Derived.Test.YtidgibkiacbgfaaDoorPk20
import Derived.Test.YtidgibkiacbgfaaDoorPk09
namespace Go.Proofs.YtidgibkiacbgfaaDoor
open Go.RowKit
set_option maxRecDepth 100000

theorem Tryd.infoCh : (Tryd.prog.info? 77).map (·.size) = some 3 := by kernel_rfl
theorem set_at {w : World} {B : Nat} {t : TypeId} {cs : Array Value} (h : w.heap[B]? = some (.cells cs t (0, 0))) (o : Nat) (v : Value) : (w.setCell ⟨B, o, none⟩ v).heap[B]? = some (.cells (cs.setIfInBounds o v) t (0, 0)) := by
  obtain ⟨hlt, hk⟩ := Array.getElem?_eq_some_iff.1 h
  show (w.heap.modify B _)[B]? = _
  rw [Array.getElem?_eq_getElem (by rw [Array.size_modify]; exact hlt), Array.getElem_modify_self, hk]
  rfl
theorem three_set {w : World} {B : Nat} {t : TypeId} {x y z : Value} (h : w.heap[B]? = some (.cells #[x, y, z] t (0, 0))) (a b c : Value) :
    (((w.setCell ⟨B, 0, none⟩ a).setCell ⟨B, 1, none⟩ b).setCell ⟨B, 2, none⟩ c).heap[B]? = some (.cells #[a, b, c] t (0, 0)) := set_at (set_at (set_at h 0 a) 1 b) 2 c
theorem cells3 {W : World} {D : Nat} {x y z : Value} {t : TypeId} (h : W.heap[D]? = some (.cells #[x, y, z] t (0, 0))) : W.cell? ⟨D, 0, none⟩ = some x ∧ W.cell? ⟨D, 1, none⟩ = some y ∧ W.cell? ⟨D, 2, none⟩ = some z := by
  refine ⟨?_, ?_, ?_⟩ <;> (unfold World.cell?; dsimp only; rw [h]; rfl)
theorem Rows3.other {w : World} {m gb gh gt : Nat} {B H : Nat → Option Nat} {T : Nat → Bool} (h : Rows3 w m gb gh gt B H T) {p : Addr} (hp : NB gb gh gt p.block) (v : Value) : Rows3 (w.setCell p v) m gb gh gt B H T :=
  ⟨rowIs_other h.b (fun e => hp.1 e.symm) v, rowIs_other h.h (fun e => hp.2.1 e.symm) v, rowIs_other h.t (fun e => hp.2.2 e.symm) v⟩
/-- how many have nobody behind them -/
def unm (m : Nat) (H : Nat → Option Nat) : Nat := sumN m fun k => if (H k).isSome = true then 0 else 1
theorem unm_suc {f : Nat → Nat → Bool} {m n : Nat} {B H B' H' : Nat → Option Nat} {T : Nat → Bool} (hn : n < m) (h0 : H n = none) (h : Suc f m B H T n B' H') : unm m H = unm m H' + 1 := by
  unfold unm
  refine sumN_single hn (fun k _ hne => ?_) ?_
  · rw [h.dom k]
    have : decide (k = n) = false := by simpa using hne
    rw [this, Bool.or_false]
  · rw [h.dom n, h0]; simp
def cntN (gh m : Nat) (w : World) : Nat := sumN m fun k => match w.cell? ⟨gh, k, none⟩ with | some (.int _ z) => if z = -1 then 1 else 0 | _ => 0
theorem cntN_rows {w : World} {m gb gh gt : Nat} {B H : Nat → Option Nat} {T : Nat → Bool} (h : Rows3 w m gb gh gt B H T) : cntN gh m w = unm m H := by
  unfold cntN unm
  refine sumN_congr fun k hk => ?_
  rw [h.h.cell hk]
  cases hH : H k with
  | none => rfl
  | some a =>
    show (if ((a : Nat) : Int) = -1 then 1 else 0) = _
    rw [if_neg (by omega)]
    rfl
def mz (gh m : Nat) (v : Value) (w : World) : Nat := match v with | .bool true => cntN gh m w + 1 | _ => 0
theorem run_clear_bool {P : Program} (w : World) (t e ty : TypeId) (ht : P.underlying t = some (.slice e)) (hv : ∀ w, (zeroValue e).run P w = .ok (.bool false) w) (g m c : Nat)
    (hc : ∀ j, j < m → (w.cell? ⟨g, j, none⟩).isSome = true) (hf : ∀ j, j < m → w.frozen? ⟨g, j, none⟩ = false) :
    (Builtin.clear_ #[t] ty #[.slice (some ⟨g, 0, none⟩) m c]).run P w = .ok (.tuple #[]) (w.setCells g 0 (List.replicate m (.bool false))) := by
  have hzc : (Builtin.zeroCells (Value.bool false).cells m).toList = List.replicate m (.bool false) := by
    apply List.ext_getElem
    · simp [Builtin.zeroCells, Value.cells]
    · intro i h1 h2
      simp [Builtin.zeroCells, Value.cells, Nat.mod_one]
  have hst := run_storeCells_cells (P := P) g 0 (List.replicate m (.bool false)) 0 w (by simpa using hc) (by simpa using hf) (by intro v hv'; rw [(List.mem_replicate.1 hv').2]; rfl)
  simp only [Nat.add_zero] at hst
  cases m with
  | zero =>
    simp [Builtin.clear_, run_underlying ht]
    rfl
  | succ m => simp [Builtin.clear_, run_underlying ht, hv, hzc, hst]
theorem Rows3.clear {w : World} {m gb gh gt : Nat} {B H : Nat → Option Nat} {T : Nat → Bool} (h : Rows3 w m gb gh gt B H T) (ne : gb ≠ gh ∧ gb ≠ gt ∧ gh ≠ gt) : Rows3 (w.setCells gt 0 (List.replicate m (.bool false))) m gb gh gt B H (fun _ => false) := by
  refine ⟨rowIs_setCells_other ne.2.1 _ _ _ h.b, rowIs_setCells_other ne.2.2 _ _ _ h.h, (rowIs_setCells _ 0 w _ h.t).congr fun j hj => ?_⟩
  rw [if_pos ⟨Nat.zero_le _, by simpa using hj⟩, Nat.sub_zero, List.getElem?_replicate, if_pos hj]
  rfl
theorem keeps_setCells {p : Nat → Prop} {a : World} (b : Nat) (hb : ¬ p b) : ∀ (vs : List Value) (o : Nat) {w : World}, Keeps p a w → Keeps p a (w.setCells b o vs)
  | [], _, _, h => h
  | v :: r, o, _, h => keeps_setCells b hb r (o + 1) (h.setCell (q := ⟨b, o, none⟩) (fun _ => hb) v)

/-- the box of what follows, and all that lay -/
abbrev HeldW (w1 : World) (B : Nat) (v : Value) (W : World) : Prop := W.cell? ⟨B, 0, none⟩ = some v ∧ Below w1.heap.size w1 W
theorem HeldW.drew {w1 W : World} {B : Nat} {v : Value} (h : HeldW w1 B v W) : HeldW w1 B v W.drew := ⟨h.1, h.2.drew⟩
theorem HeldW.step {w1 W W2 : World} {B : Nat} {v : Value} (h : HeldW w1 B v W) (hb : Below W.heap.size W W2) : HeldW w1 B v W2 := ⟨(hb.cell (p := ⟨B, 0, none⟩) (World.block_lt_of_cell? _ _ h.1)).trans h.1, h.2.trans (hb.mono h.2.size)⟩
theorem HeldW.alloc {w1 W : World} {B : Nat} {v : Value} (h : HeldW w1 B v W) (o : Obj) : HeldW w1 B v (W.alloc o) := h.step (below_alloc _ _)
theorem HeldW.set3 {w1 W : World} {B D : Nat} {v : Value} (hB : B < w1.heap.size) (hD : w1.heap.size ≤ D) (x y z : Value) (h : HeldW w1 B v W) : HeldW w1 B v (((W.setCell ⟨D, 0, none⟩ x).setCell ⟨D, 1, none⟩ y).setCell ⟨D, 2, none⟩ z) := by
  have hb : Below w1.heap.size W (((W.setCell ⟨D, 0, none⟩ x).setCell ⟨D, 1, none⟩ y).setCell ⟨D, 2, none⟩ z) := (((Below.refl _ W).setCell (p := ⟨D, 0, none⟩) hD x).setCell (p := ⟨D, 1, none⟩) hD y).setCell (p := ⟨D, 2, none⟩) hD z
  exact ⟨(hb.cell (p := ⟨B, 0, none⟩) hB).trans h.1, h.2.trans hb⟩
/-- the new chains, empty -/
def HD (D : Nat) (W : World) : Prop := W.heap[D]? = some (.cells #[.slice none 0 0, .slice none 0 0, .slice none 0 0] 77 (0, 0))
theorem HD.lt {D : Nat} {W : World} (h : HD D W) : D < W.heap.size := (Array.getElem?_eq_some_iff.1 h).1
theorem HD.c0 {D : Nat} {W : World} (h : HD D W) : W.cell? ⟨D, 0, none⟩ = some (.slice none 0 0) := by unfold HD at h; unfold World.cell?; dsimp only; rw [h]; rfl
theorem HD.c1 {D : Nat} {W : World} (h : HD D W) : W.cell? ⟨D, 1, none⟩ = some (.slice none 0 0) := by unfold HD at h; unfold World.cell?; dsimp only; rw [h]; rfl
theorem HD.c2 {D : Nat} {W : World} (h : HD D W) : W.cell? ⟨D, 2, none⟩ = some (.slice none 0 0) := by unfold HD at h; unfold World.cell?; dsimp only; rw [h]; rfl
theorem HD.fz {D : Nat} {W : World} (h : HD D W) (o : Nat) : W.frozen? ⟨D, o, none⟩ = false := by unfold HD at h; unfold World.frozen?; dsimp only; rw [h]; simp
theorem HD.new (W : World) : HD W.heap.size (W.alloc (.cells #[.slice none 0 0, .slice none 0 0, .slice none 0 0] 77)) := World.alloc_heap_new W _
theorem HD.new' {W : World} {D : Nat} (h : D = W.heap.size) : HD D (W.alloc (.cells #[.slice none 0 0, .slice none 0 0, .slice none 0 0] 77)) := by subst h; exact HD.new W
theorem HD.step {D : Nat} {W W2 : World} (h : HD D W) (hb : Below W.heap.size W W2) : HD D W2 := (hb.block D h.lt).trans h
theorem cell_new' {W : World} {b : Nat} {v : Value} {t : TypeId} (h : b = W.heap.size) : (W.alloc (.cells #[v] t)).cell? ⟨b, 0, none⟩ = some v := by
  have h2 := World.alloc_heap_new W (.cells #[v] t)
  unfold World.cell?; dsimp only; rw [h, h2]; rfl
theorem HD.alloc {D : Nat} {W : World} (h : HD D W) (o : Obj) : HD D (W.alloc o) := h.step (below_alloc _ _)
theorem HD.drew {D : Nat} {W : World} (h : HD D W) : HD D W.drew := h
theorem cell_drew {W : World} {p : Addr} {v : Option Value} (h : W.cell? p = v) : W.drew.cell? p = v := h
theorem rowIs_made' {W : World} {g m : Nat} {v : Value} {t : TypeId} (h : g = W.heap.size) : (W.alloc (.cells (madeCells #[v] m) t)).rowIs g t m (fun _ => v) := by subst h; exact World.rowIs_made W v m t
theorem rowIs_al {W : World} {g t m : Nat} {F : Nat → Value} (h : W.rowIs g t m F) (o : Obj) : (W.alloc o).rowIs g t m F := h.alloc o
theorem rowIs_dr {W : World} {g t m : Nat} {F : Nat → Value} (h : W.rowIs g t m F) : W.drew.rowIs g t m F := h
/-- three new rows, and the chains that hold them -/
def Fin1 (w1 : World) (m : Nat) (t : Value) (wx : World) : Prop := ∃ B3 gb gh gt, t = .pointer (some ⟨B3, 0, none⟩) ∧ wx.cell? ⟨B3, 0, none⟩ = some (.slice (some ⟨gb, 0, none⟩) m m) ∧ wx.cell? ⟨B3, 1, none⟩ = some (.slice (some ⟨gh, 0, none⟩) m m) ∧ wx.cell? ⟨B3, 2, none⟩ = some (.slice (some ⟨gt, 0, none⟩) m m) ∧
    Rows3 wx m gb gh gt (fun _ => none) (fun _ => none) (fun _ => false) ∧ (gb ≠ gh ∧ gb ≠ gt ∧ gh ≠ gt) ∧ NB gb gh gt B3 ∧ w1.heap.size ≤ gb ∧ w1.heap.size ≤ gh ∧ w1.heap.size ≤ gt ∧ w1.heap.size ≤ B3 ∧ Below w1.heap.size w1 wx
theorem fin_set {w1 W : World} {m D gb gh gt B : Nat} {v : Value} (hD : HD D W) (hb : W.rowIs gb 3 m (fun _ => .int .i64 (-1))) (hh : W.rowIs gh 3 m (fun _ => .int .i64 (-1))) (ht : W.rowIs gt 4 m (fun _ => .bool false)) (hH : HeldW w1 B v W)
    (hs : w1.heap.size ≤ gb ∧ w1.heap.size ≤ gh ∧ w1.heap.size ≤ gt ∧ w1.heap.size ≤ D) (hn : (gb ≠ gh ∧ gb ≠ gt ∧ gh ≠ gt) ∧ D ≠ gb ∧ D ≠ gh ∧ D ≠ gt) :
    Fin1 w1 m (.pointer (some ⟨D, 0, none⟩)) (((W.setCell ⟨D, 0, none⟩ (.slice (some ⟨gb, 0, none⟩) m m)).setCell ⟨D, 1, none⟩ (.slice (some ⟨gh, 0, none⟩) m m)).setCell ⟨D, 2, none⟩ (.slice (some ⟨gt, 0, none⟩) m m)) := by
  obtain ⟨c0, c1, c2⟩ := cells3 (three_set hD (.slice (some ⟨gb, 0, none⟩) m m) (.slice (some ⟨gh, 0, none⟩) m m) (.slice (some ⟨gt, 0, none⟩) m m))
  have hR : Rows3 W m gb gh gt (fun _ => none) (fun _ => none) (fun _ => false) := ⟨hb, hh, ht⟩
  exact ⟨D, gb, gh, gt, rfl, c0, c1, c2, ((hR.other (p := ⟨D, 0, none⟩) hn.2 _).other (p := ⟨D, 1, none⟩) hn.2 _).other (p := ⟨D, 2, none⟩) hn.2 _, hn.1, hn.2, hs.1, hs.2.1, hs.2.2.1, hs.2.2.2,
    ((hH.2.setCell (p := ⟨D, 0, none⟩) hs.2.2.2 _).setCell (p := ⟨D, 1, none⟩) hs.2.2.2 _).setCell (p := ⟨D, 2, none⟩) hs.2.2.2 _⟩
theorem fin_new {w1 W : World} {m D gb gh gt B : Nat} {v : Value} (hD : D = W.heap.size) (hb : W.rowIs gb 3 m (fun _ => .int .i64 (-1))) (hh : W.rowIs gh 3 m (fun _ => .int .i64 (-1))) (ht : W.rowIs gt 4 m (fun _ => .bool false)) (hH : HeldW w1 B v W)
    (hs : w1.heap.size ≤ gb ∧ w1.heap.size ≤ gh ∧ w1.heap.size ≤ gt) (hn : gb ≠ gh ∧ gb ≠ gt ∧ gh ≠ gt) :
    Fin1 w1 m (.pointer (some ⟨D, 0, none⟩)) (W.alloc (.cells #[.slice (some ⟨gb, 0, none⟩) m m, .slice (some ⟨gh, 0, none⟩) m m, .slice (some ⟨gt, 0, none⟩) m m] 77)) := by
  subst hD
  obtain ⟨c0, c1, c2⟩ := cells3 (World.alloc_heap_new W (.cells #[.slice (some ⟨gb, 0, none⟩) m m, .slice (some ⟨gh, 0, none⟩) m m, .slice (some ⟨gt, 0, none⟩) m m] 77))
  have hR : Rows3 W m gb gh gt (fun _ => none) (fun _ => none) (fun _ => false) := ⟨hb, hh, ht⟩
  have l1 := hb.lt
  have l2 := hh.lt
  have l3 := ht.lt
  exact ⟨_, gb, gh, gt, rfl, c0, c1, c2, hR.step (below_alloc W _), hn, ⟨by omega, by omega, by omega⟩, hs.1, hs.2.1, hs.2.2, hH.2.size, hH.2.trans ((below_alloc W _).mono hH.2.size)⟩

/-- what has come up of the first statement, and what it left -/
structure FF (w1 : World) (m : Nat) (b0 b3 b4 b7 b10 b11 b12 : Bool) (v3 v7 v10 v11 v14 v17 v18 : Value) (W : World) : Prop where
  f0 : b0 = true → ∃ p, v7 = .slice (some ⟨p, 0, none⟩) 1 1 ∧ W.cell? ⟨p, 0, none⟩ = some (.int .i64 (-1))
  f4 : b4 = true → ∃ p, v11 = .slice (some ⟨p, 0, none⟩) 1 1 ∧ W.cell? ⟨p, 0, none⟩ = some (.int .i64 (-1))
  f3 : b3 = true → ∃ g, v10 = .slice (some ⟨g, 0, none⟩) m m ∧ W.rowIs g 3 m (fun _ => .int .i64 (-1)) ∧ w1.heap.size ≤ g
  f7 : b7 = true → b3 = true ∧ ∃ g h, v10 = .slice (some ⟨g, 0, none⟩) m m ∧ v14 = .slice (some ⟨h, 0, none⟩) m m ∧ W.rowIs g 3 m (fun _ => .int .i64 (-1)) ∧ W.rowIs h 3 m (fun _ => .int .i64 (-1)) ∧ w1.heap.size ≤ g ∧ w1.heap.size ≤ h ∧ g ≠ h
  f10 : b10 = true → ∃ t, v17 = .slice (some ⟨t, 0, none⟩) m m ∧ W.rowIs t 4 m (fun _ => .bool false) ∧ w1.heap.size ≤ t
  f11 : b11 = true → b3 = true ∧ b7 = true ∧ b10 = true ∧ v18 = .agg #[v10, v14, v17]
  f12 : b12 = true → ∃ D, v3 = .pointer (some ⟨D, 0, none⟩) ∧ HD D W ∧ w1.heap.size ≤ D
theorem FF.step {w1 : World} {m : Nat} {b0 b3 b4 b7 b10 b11 b12 : Bool} {v3 v7 v10 v11 v14 v17 v18 : Value} {W W' : World} (h : FF w1 m b0 b3 b4 b7 b10 b11 b12 v3 v7 v10 v11 v14 v17 v18 W) (hb : Below W.heap.size W W') : FF w1 m b0 b3 b4 b7 b10 b11 b12 v3 v7 v10 v11 v14 v17 v18 W' := by
  have key : ∀ {p v}, W.cell? ⟨p, 0, none⟩ = some v → W'.cell? ⟨p, 0, none⟩ = some v := fun hc => (hb.cell (p := ⟨_, 0, none⟩) (World.block_lt_of_cell? _ _ hc)).trans hc
  refine ⟨fun e => ?_, fun e => ?_, fun e => ?_, fun e => ?_, fun e => ?_, h.f11, fun e => ?_⟩
  · obtain ⟨p, h1, h2⟩ := h.f0 e; exact ⟨p, h1, key h2⟩
  · obtain ⟨p, h1, h2⟩ := h.f4 e; exact ⟨p, h1, key h2⟩
  · obtain ⟨g, h1, h2, h3⟩ := h.f3 e; exact ⟨g, h1, rowIs_step h2 hb, h3⟩
  · obtain ⟨h0, g, q, h1, h2, h3, h4, h5, h6, h7⟩ := h.f7 e; exact ⟨h0, g, q, h1, h2, rowIs_step h3 hb, rowIs_step h4 hb, h5, h6, h7⟩
  · obtain ⟨t, h1, h2, h3⟩ := h.f10 e; exact ⟨t, h1, rowIs_step h2 hb, h3⟩
  · obtain ⟨D, h1, h2, h3⟩ := h.f12 e; exact ⟨D, h1, h2.step hb, h3⟩
theorem rowIs_ne_hd {W : World} {g t m D : Nat} {f : Nat → Value} (h : W.rowIs g t m f) (hD : HD D W) (ht : t ≠ 77) : D ≠ g := by
  intro e
  subst e
  obtain ⟨c, hc, _⟩ := h
  unfold HD at hD
  rw [hD] at hc
  injection hc with hc
  injection hc with _ hc
  exact ht hc.symm
theorem rowIs_ne_row {W : World} {g h t t' m : Nat} {f f' : Nat → Value} (h1 : W.rowIs g t m f) (h2 : W.rowIs h t' m f') (ht : t ≠ t') : g ≠ h := by
  intro e
  subst e
  obtain ⟨c, hc, _⟩ := h1
  obtain ⟨c', hc', _⟩ := h2
  rw [hc] at hc'
  injection hc' with hc'
  injection hc' with _ hc'
  exact ht hc'

set_option maxHeartbeats 16000000 in
theorem fewest_any (es : List (Int × Int)) (m : Nat) (hm : m ≤ 200) (hin : inR m es = true) (f : Nat → Nat → Bool) (hf : f = fw (gR es) m) (A1 : Option Addr) (c1 : Nat) (w : World) (hu : RdUU w w.heap.size A1 (behs m es)) (hT : Tab w) :
    Calls Tryd.prog 27 #[.slice A1 m c1] w fun e w' => ∃ (gb gh gt : Nat) (B H : Nat → Option Nat) (T : Nat → Bool), e = .returned (.agg #[.slice (some ⟨gb, 0, none⟩) m m, .slice (some ⟨gh, 0, none⟩) m m, .slice (some ⟨gt, 0, none⟩) m m]) ∧
      Rows3 w' m gb gh gt B H T ∧ Kon f m B H T ∧ w.heap.size ≤ gb ∧ w.heap.size ≤ gh ∧ w.heap.size ≤ gt ∧ Below w.heap.size w w' := by
  have HF := Lib.hid hf
  clear hf
  go_enter Tryd.func27, Tryd.ntmps27
  go_upto_region 1 with fail
  have bx1 := (Boxed.new w 64 (.slice A1 m c1)).alloc (.cells #[.slice none 0 0, .slice none 0 0, .slice none 0 0] 77)
  have hb : Below w.heap.size w ((w.alloc (.cells #[.slice A1 m c1] 64)).alloc (.cells #[.slice none 0 0, .slice none 0 0, .slice none 0 0] 77)) := ((Below.refl _ _).alloc (Nat.le_refl _) _).alloc (by simp) _
  have h2 := World.alloc_heap_new (w.alloc (.cells #[.slice A1 m c1] 64)) (.cells #[.slice none 0 0, .slice none 0 0, .slice none 0 0] 77)
  simp only [World.size_alloc] at h2
  obtain ⟨w1, hw1⟩ : ∃ w1, w1 = (w.alloc (.cells #[.slice A1 m c1] 64)).alloc (.cells #[.slice none 0 0, .slice none 0 0, .slice none 0 0] 77) := ⟨_, rfl⟩
  have hs1 : w1.heap.size = w.heap.size + 2 := by rw [hw1]; simp
  rw [← hw1] at bx1 hb h2 ⊢
  have cf := bx1.cell
  go_cut [3] from 7 to 18 (fun t wx => Fin1 w1 m t wx)
  case first =>
    have hmkb := run_make_row' (P := Tryd.prog) 75 4 (.bool false) 1 Tryd.underlying75 Tryd.infoB rfl .i64 .i64 m (by omega) (by omega)
    have hb0 := Below.refl w1.heap.size w1
    have hB1 : w.heap.size < w1.heap.size := by omega
    clear hu hT h2 hw1 bx1 hb hs1
    refine wp_region_held_drew (S := HeldW w1 w.heap.size (.slice A1 m c1)) (by kernel_rfl) ?_ (fun hHeld => ?_)
    · exact HeldW.drew ⟨cf, hb0⟩
    refine wpAnyH_take (i := 1) (oi := { dst := some 8, op := _, type := _, pos := _, after := _, guard := _ }) (v := ?_) rfl (by kernel_rfl) (by kernel_rfl) (by kernel_rfl) (fun _ _ _ h => h) (Or.inl ⟨by rfl, ?_⟩) (by assumption) ?_
    rotate_left
    · intro w hSw; (try dsimp only at hSw); go_simp; (try with_reducible rfl)
    (try simp only [Act.put, List.setIfInBounds_toArray, List.set_cons_zero, List.set_cons_succ])
    refine wpAnyH_take (i := 2) (oi := { dst := some 9, op := _, type := _, pos := _, after := _, guard := _ }) (v := ?_) rfl (by kernel_rfl) (by kernel_rfl) (by kernel_rfl) (fun _ _ _ h => h) (Or.inl ⟨by rfl, ?_⟩) (by assumption) ?_
    rotate_left
    · intro w hSw; (try dsimp only at hSw); go_simp; (try with_reducible rfl)
    (try simp only [Act.put, List.setIfInBounds_toArray, List.set_cons_zero, List.set_cons_succ])
    refine wpAnyH_take (i := 5) (oi := { dst := some 12, op := _, type := _, pos := _, after := _, guard := _ }) (v := ?_) rfl (by kernel_rfl) (by kernel_rfl) (by kernel_rfl) (fun _ _ _ h => h) (Or.inl ⟨by rfl, ?_⟩) (by assumption) ?_
    rotate_left
    · intro w hSw; (try dsimp only at hSw); go_simp; (try with_reducible rfl)
    (try simp only [Act.put, List.setIfInBounds_toArray, List.set_cons_zero, List.set_cons_succ])
    refine wpAnyH_take (i := 6) (oi := { dst := some 13, op := _, type := _, pos := _, after := _, guard := _ }) (v := ?_) rfl (by kernel_rfl) (by kernel_rfl) (by kernel_rfl) (fun _ _ _ h => h) (Or.inl ⟨by rfl, ?_⟩) (by assumption) ?_
    rotate_left
    · intro w hSw; (try dsimp only at hSw); go_simp; (try with_reducible rfl)
    (try simp only [Act.put, List.setIfInBounds_toArray, List.set_cons_zero, List.set_cons_succ])
    refine wpAnyH_take (i := 8) (oi := { dst := some 15, op := _, type := _, pos := _, after := _, guard := _ }) (v := ?_) rfl (by kernel_rfl) (by kernel_rfl) (by kernel_rfl) (fun _ _ _ h => h) (Or.inl ⟨by rfl, ?_⟩) (by assumption) ?_
    rotate_left
    · intro w hSw; (try dsimp only at hSw); go_simp; (try with_reducible rfl)
    (try simp only [Act.put, List.setIfInBounds_toArray, List.set_cons_zero, List.set_cons_succ])
    refine wpAnyH_take (i := 9) (oi := { dst := some 16, op := _, type := _, pos := _, after := _, guard := _ }) (v := ?_) rfl (by kernel_rfl) (by kernel_rfl) (by kernel_rfl) (fun _ _ _ h => h) (Or.inl ⟨by rfl, ?_⟩) (by assumption) ?_
    rotate_left
    · intro w hSw; (try dsimp only at hSw); go_simp; (try with_reducible rfl)
    (try simp only [Act.put, List.setIfInBounds_toArray, List.set_cons_zero, List.set_cons_succ])
    refine wpAnyH_inv (I := fun listed a W => (∃ (b0 b3 b4 b7 b10 b11 b12 : Bool) (v3 v7 v10 v11 v14 v17 v18 : Value), listed = #[b0, true, true, b3, b4, true, true, b7, true, true, b10, b11, b12, false] ∧ a = ({ tmps := #[.slice A1 m c1, .pointer (some ⟨w.heap.size, 0, none⟩), .pointer (some ⟨w.heap.size + 1, 0, none⟩), v3, undef, undef, undef, v7, .slice A1 m c1, .int .i64 (m : Int), v10, v11, .slice A1 m c1, .int .i64 (m : Int), v14, .slice A1 m c1, .int .i64 (m : Int), v17, v18, undef, undef, undef, undef, undef, undef, undef, undef, undef, undef, undef, undef, undef, undef, undef, undef, undef, undef, undef, undef, undef, undef], defers := [] } : Act) ∧ FF w1 m b0 b3 b4 b7 b10 b11 b12 v3 v7 v10 v11 v14 v17 v18 W ∧ HeldW w1 w.heap.size (.slice A1 m c1) W) ∨ (∃ (v3 v7 v10 v11 v14 v17 v18 : Value), listed = #[true, true, true, true, true, true, true, true, true, true, true, true, true, true] ∧ a = ({ tmps := #[.slice A1 m c1, .pointer (some ⟨w.heap.size, 0, none⟩), .pointer (some ⟨w.heap.size + 1, 0, none⟩), v3, undef, undef, undef, v7, .slice A1 m c1, .int .i64 (m : Int), v10, v11, .slice A1 m c1, .int .i64 (m : Int), v14, .slice A1 m c1, .int .i64 (m : Int), v17, v18, undef, undef, undef, undef, undef, undef, undef, undef, undef, undef, undef, undef, undef, undef, undef, undef, undef, undef, undef, undef, undef, undef], defers := [] } : Act) ∧ Fin1 w1 m v3 W)) ?_ ?_ _ _ _ _ (by decide +kernel) (.inl ⟨false, false, false, false, false, false, false, undef, undef, undef, undef, undef, undef, undef, rfl, rfl, ⟨fun h => (by cases h), fun h => (by cases h), fun h => (by cases h), fun h => (by cases h), fun h => (by cases h), fun h => (by cases h), fun h => (by cases h)⟩, hHeld⟩)
    · intro listed a W hI i o ho hf ha K hK
      have hi : i = 0 ∨ i = 1 ∨ i = 2 ∨ i = 3 ∨ i = 4 ∨ i = 5 ∨ i = 6 ∨ i = 7 ∨ i = 8 ∨ i = 9 ∨ i = 10 ∨ i = 11 ∨ i = 12 ∨ i = 13 := by
        have h1 := (Array.getElem?_eq_some_iff.1 ho).1
        have h2 : i < 14 := h1
        omega
      rcases hI with ⟨b0, b3, b4, b7, b10, b11, b12, v3, v7, v10, v11, v14, v17, v18, rfl, rfl, hF, hH⟩ | ⟨v3, v7, v10, v11, v14, v17, v18, rfl, rfl, _⟩
      rotate_left
      · rcases hi with rfl | rfl | rfl | rfl | rfl | rfl | rfl | rfl | rfl | rfl | rfl | rfl | rfl | rfl <;> cases hf
      clear hHeld hb0 cf
      rcases hi with rfl | rfl | rfl | rfl | rfl | rfl | rfl | rfl | rfl | rfl | rfl | rfl | rfl | rfl
      · cases ho
        have HF := Lib.hid hF
        have HHH := Lib.hid hH
        clear hF hH ha hf
        go_simp
        (try simp only [Act.put, List.setIfInBounds_toArray, List.set_cons_zero, List.set_cons_succ])
        refine hK.out _ _ (HeldW.alloc HHH.out _) (.inl ⟨true, b3, b4, b7, b10, b11, b12, v3, _, v10, v11, v14, v17, v18, rfl, rfl, ?_, HeldW.alloc HHH.out _⟩)
        have h := HF.out.step (below_alloc W (.cells #[.int .i64 (-1)] 3))
        exact ⟨fun _ => ⟨_, rfl, cell_new' rfl⟩, h.f4, h.f3, h.f7, h.f10, h.f11, h.f12⟩
      · cases hf
      · cases hf
      · cases ho
        have d0 : b0 = true := ha { on := 0, ground := .data } (by simp) rfl
        have n3 : b3 = false := hf
        obtain ⟨p, rfl, hp⟩ := hF.f0 d0
        have hC := repeat_any p 0 1 m (by omega) (-1) W (World.block_lt_of_cell? _ _ hp) hp
        have HC := Lib.hid hC
        have HF := Lib.hid hF
        have HHH := Lib.hid hH
        have N3 := Lib.hid n3
        clear hF hH ha hf hC d0 n3
        go_simp
        refine HC.out.mono ?_
        rintro e w6 ⟨rfl, hr6, hb6⟩
        dsimp only
        (try simp only [Act.put, List.setIfInBounds_toArray, List.set_cons_zero, List.set_cons_succ])
        refine hK.out _ _ (HeldW.step HHH.out hb6) (.inl ⟨b0, true, b4, b7, b10, b11, b12, v3, _, _, v11, v14, v17, v18, rfl, rfl, ?_, HeldW.step HHH.out hb6⟩)
        have h := HF.out.step hb6
        exact ⟨h.f0, h.f4, fun _ => ⟨_, rfl, hr6, HHH.out.2.size⟩, fun e => (by have := (h.f7 e).1; rw [N3.out] at this; cases this), h.f10, fun e => (by have := (h.f11 e).1; rw [N3.out] at this; cases this), h.f12⟩
      · cases ho
        have HF := Lib.hid hF
        have HHH := Lib.hid hH
        clear hF hH ha hf
        go_simp
        (try simp only [Act.put, List.setIfInBounds_toArray, List.set_cons_zero, List.set_cons_succ])
        refine hK.out _ _ (HeldW.alloc HHH.out _) (.inl ⟨b0, b3, true, b7, b10, b11, b12, v3, v7, v10, _, v14, v17, v18, rfl, rfl, ?_, HeldW.alloc HHH.out _⟩)
        have h := HF.out.step (below_alloc W (.cells #[.int .i64 (-1)] 3))
        exact ⟨h.f0, fun _ => ⟨_, rfl, cell_new' rfl⟩, h.f3, h.f7, h.f10, h.f11, h.f12⟩
      · cases hf
      · cases hf
      · cases ho
        have d4 : b4 = true := ha { on := 4, ground := .data } (by simp) rfl
        have d3 : b3 = true := ha { on := 3, ground := .chain } (by simp) rfl
        have n7 : b7 = false := hf
        obtain ⟨p, rfl, hp⟩ := hF.f4 d4
        obtain ⟨g, rfl, hg, hgl⟩ := hF.f3 d3
        have hC := repeat_any p 0 1 m (by omega) (-1) W (World.block_lt_of_cell? _ _ hp) hp
        have HC := Lib.hid hC
        have HF := Lib.hid hF
        have HHH := Lib.hid hH
        have N7 := Lib.hid n7
        have D3 := Lib.hid d3
        have HHG := Lib.hid hg
        clear hF hH ha hf hC d4 d3 n7 hg
        go_simp
        refine HC.out.mono ?_
        rintro e w6 ⟨rfl, hr6, hb6⟩
        dsimp only
        (try simp only [Act.put, List.setIfInBounds_toArray, List.set_cons_zero, List.set_cons_succ])
        refine hK.out _ _ (HeldW.step HHH.out hb6) (.inl ⟨b0, b3, b4, true, b10, b11, b12, v3, v7, _, _, _, v17, v18, rfl, rfl, ?_, HeldW.step HHH.out hb6⟩)
        have h := HF.out.step hb6
        exact ⟨h.f0, h.f4, h.f3, fun _ => ⟨D3.out, g, _, rfl, rfl, rowIs_step HHG.out hb6, hr6, hgl, HHH.out.2.size, Nat.ne_of_lt HHG.out.lt⟩, h.f10, fun e => (by have := (h.f11 e).2.1; rw [N7.out] at this; cases this), h.f12⟩
      · cases hf
      · cases hf
      · cases ho
        have na : b10 = false := hf
        have HF := Lib.hid hF
        have HHH := Lib.hid hH
        have NA := Lib.hid na
        clear hF hH ha hf na
        go_simp
        (try simp only [Act.put, List.setIfInBounds_toArray, List.set_cons_zero, List.set_cons_succ])
        refine hK.out _ _ (HeldW.alloc HHH.out _) (.inl ⟨b0, b3, b4, b7, true, b11, b12, v3, v7, v10, v11, v14, _, v18, rfl, rfl, ?_, HeldW.alloc HHH.out _⟩)
        have h := HF.out.step (below_alloc W (.cells (madeCells #[.bool false] m) 4))
        exact ⟨h.f0, h.f4, h.f3, h.f7, fun _ => ⟨_, rfl, World.rowIs_made W (.bool false) m 4, HHH.out.2.size⟩, fun e => (by have := (h.f11 e).2.2.1; rw [NA.out] at this; cases this), h.f12⟩
      · cases ho
        have d3 : b3 = true := ha { on := 3, ground := .data } (by simp) rfl
        have d7 : b7 = true := ha { on := 7, ground := .data } (by simp) rfl
        have da : b10 = true := ha { on := 10, ground := .data } (by simp) rfl
        have HF := Lib.hid hF
        have HHH := Lib.hid hH
        have DD := Lib.hid (show b3 = true ∧ b7 = true ∧ b10 = true from ⟨d3, d7, da⟩)
        obtain ⟨_, g, q, rfl, rfl, _⟩ := hF.f7 d7
        obtain ⟨t, rfl, _⟩ := hF.f10 da
        clear hF hH ha hf d3 d7 da
        go_simp
        (try simp only [Act.put, List.setIfInBounds_toArray, List.set_cons_zero, List.set_cons_succ])
        refine hK.out _ _ HHH.out (.inl ⟨b0, b3, b4, b7, b10, true, b12, v3, v7, _, v11, _, _, _, rfl, rfl, ?_, HHH.out⟩)
        have h := HF.out
        exact ⟨h.f0, h.f4, h.f3, h.f7, h.f10, fun _ => ⟨DD.out.1, DD.out.2.1, DD.out.2.2, rfl⟩, h.f12⟩
      · cases ho
        have HF := Lib.hid hF
        have HHH := Lib.hid hH
        clear hF hH ha hf
        go_simp
        (try simp only [Act.put, List.setIfInBounds_toArray, List.set_cons_zero, List.set_cons_succ])
        refine hK.out _ _ (HeldW.alloc HHH.out _) (.inl ⟨b0, b3, b4, b7, b10, b11, true, _, v7, v10, v11, v14, v17, v18, rfl, rfl, ?_, HeldW.alloc HHH.out _⟩)
        have h := HF.out.step (below_alloc W (.cells #[.slice none 0 0, .slice none 0 0, .slice none 0 0] 77))
        exact ⟨h.f0, h.f4, h.f3, h.f7, h.f10, h.f11, fun _ => ⟨_, rfl, HD.new W, HHH.out.2.size⟩⟩
      · cases ho
        have d0 : b0 = true := ha { on := 0, ground := .phase } (by simp) rfl
        have d4 : b4 = true := ha { on := 4, ground := .phase } (by simp) rfl
        have db : b11 = true := ha { on := 11, ground := .data } (by simp) rfl
        have dc : b12 = true := ha { on := 12, ground := .data } (by simp) rfl
        obtain ⟨d3, d7, da, rfl⟩ := hF.f11 db
        obtain ⟨_, g, h, rfl, rfl, hg, hh, lg, lh, ngh⟩ := hF.f7 d7
        obtain ⟨t, rfl, ht, lt⟩ := hF.f10 da
        obtain ⟨D, rfl, hD, lD⟩ := hF.f12 dc
        subst d0 d3 d4 d7 da db dc
        have c0 := hD.c0
        have c1' := hD.c1
        have c2' := hD.c2
        have cz := hD.fz
        have FIN := Lib.hid (fin_set hD hg hh ht hH ⟨lg, lh, lt, lD⟩ ⟨⟨ngh, rowIs_ne_row hg ht (by decide), rowIs_ne_row hh ht (by decide)⟩, rowIs_ne_hd hg hD (by decide), rowIs_ne_hd hh hD (by decide), rowIs_ne_hd ht hD (by decide)⟩)
        have HHH := Lib.hid (HeldW.set3 hB1 lD (.slice (some ⟨g, 0, none⟩) m m) (.slice (some ⟨h, 0, none⟩) m m) (.slice (some ⟨t, 0, none⟩) m m) hH)
        clear hF hH ha hf hg hh ht hD
        go_simp
        (try simp only [Act.put, List.setIfInBounds_toArray, List.set_cons_zero, List.set_cons_succ])
        exact hK.out _ _ HHH.out (.inr ⟨_, _, _, _, _, _, _, rfl, rfl, FIN.out⟩)
    · intro listed a W hI hr
      rcases hI with ⟨b0, b3, b4, b7, b10, b11, b12, v3, v7, v10, v11, v14, v17, v18, rfl, rfl, hF, hH⟩ | ⟨v3, v7, v10, v11, v14, v17, v18, rfl, rfl, hfin⟩
      · exfalso
        obtain rfl : b0 = true := came_up' hr (i := 0) rfl (by rfl)
        obtain rfl : b4 = true := came_up' hr (i := 4) rfl (by rfl)
        obtain rfl : b12 = true := came_up' hr (i := 12) rfl (by rfl)
        obtain rfl : b10 = true := came_up' hr (i := 10) rfl (by rfl)
        obtain rfl : b3 = true := came_up' hr (i := 3) rfl (by rfl)
        obtain rfl : b7 = true := came_up' hr (i := 7) rfl (by rfl)
        obtain rfl : b11 = true := came_up' hr (i := 11) rfl (by rfl)
        have : false = true := came_up' hr (i := 13) rfl (by rfl)
        cases this
      · have FIN := Lib.hid hfin
        clear hfin hr hHeld hb0 cf
        go_wp2_with fail
        go_meet
        case rel => exact FIN.out
  case rest =>
    obtain ⟨B3, gb, gh, gt, rfl, s0, s1, s2, hR, hne, hn3, lb, lh, lt, l3, hbx⟩ := hcut
    have hgl := hR.b.lt
    have hhl := hR.h.lt
    have htl := hR.t.lt
    have h3l : B3 < wc.heap.size := World.block_lt_of_cell? _ _ s0
    go_wp2_with fail
    have hE : Env (wc.alloc (.cells #[.func (.func 38) #[] #[.pointer (some ⟨w.heap.size, 0, none⟩), .pointer (some ⟨B3, 0, none⟩), .pointer (some ⟨wc.heap.size, 0, none⟩)]] 103)) es m w.heap.size B3 wc.heap.size gb gh gt w.heap.size A1 c1 := by
      have ha := below_alloc wc (.cells #[.func (.func 38) #[] #[.pointer (some ⟨w.heap.size, 0, none⟩), .pointer (some ⟨B3, 0, none⟩), .pointer (some ⟨wc.heap.size, 0, none⟩)]] 103)
      have hx := Boxed.new wc 103 (.func (.func 38) #[] #[.pointer (some ⟨w.heap.size, 0, none⟩), .pointer (some ⟨B3, 0, none⟩), .pointer (some ⟨wc.heap.size, 0, none⟩)])
      have hbw : Below w.heap.size w wc := hb.trans (hbx.mono (by omega))
      have hbw2 := hbw.trans (ha.mono hbw.size)
      exact ⟨(ha.cell (p := ⟨w.heap.size, 0, none⟩) (by show w.heap.size < _; omega)).trans ((hbx.cell (p := ⟨w.heap.size, 0, none⟩) (by show w.heap.size < _; omega)).trans cf), (ha.cell (p := ⟨B3, 0, none⟩) h3l).trans s0, (ha.cell (p := ⟨B3, 1, none⟩) h3l).trans s1, (ha.cell (p := ⟨B3, 2, none⟩) h3l).trans s2, hx.cell,
        hu.below hbw2, hT.below hT.pos hbw2, ⟨by omega, by omega, by omega⟩, hn3, ⟨by omega, by omega, by omega⟩, ⟨by omega, by omega, by omega⟩, hbw2.size, hT.pos, hne⟩
    have hR4 := hR.step (below_alloc wc (.cells #[.func (.func 38) #[] #[.pointer (some ⟨w.heap.size, 0, none⟩), .pointer (some ⟨B3, 0, none⟩), .pointer (some ⟨wc.heap.size, 0, none⟩)]] 103))
    obtain ⟨w4, hw4⟩ : ∃ w4, w4 = wc.alloc (.cells #[.func (.func 38) #[] #[.pointer (some ⟨w.heap.size, 0, none⟩), .pointer (some ⟨B3, 0, none⟩), .pointer (some ⟨wc.heap.size, 0, none⟩)]] 103) := ⟨_, rfl⟩
    rw [← hw4] at hE hR4 ⊢
    have hbw4 : Below w.heap.size w w4 := by
      rw [hw4]
      exact (hb.trans (hbx.mono (by omega))).alloc (by have := hbx.size; omega) _
    obtain ⟨B4, hB4⟩ : ∃ B4, B4 = wc.heap.size := ⟨_, rfl⟩
    have h24 : w4.heap[w.heap.size + 1]? = some (.cells #[.slice none 0 0, .slice none 0 0, .slice none 0 0] 77 (0, 0)) := by
      rw [hw4]
      exact ((below_alloc wc _).block _ (by have := hbx.size; omega)).trans ((hbx.block _ (by omega)).trans h2)
    have h2n : NB gb gh gt (w.heap.size + 1) := ⟨by omega, by omega, by omega⟩
    have h23 : ¬ (w.heap.size + 1 = B3) := by omega
    rw [← hB4] at hE ⊢
    have HE := Lib.hid hE
    have hlb : w.heap.size ≤ gb ∧ w.heap.size ≤ gh ∧ w.heap.size ≤ gt := ⟨by omega, by omega, by omega⟩
    have H24 := Lib.hid h24
    have hsl4 : w.heap.size + 1 < w4.heap.size := (Array.getElem?_eq_some_iff.1 h24).1
    clear hw4 hB4 hE s0 s1 s2 hR hbx bx1 hb h2 hw1 cf hgl hhl htl h3l lb lh lt l3 hs1 h24 hu hT
    go_loopw [5] (fun v wr => ∃ (r : Bool) (B H : Nat → Option Nat) (T : Nat → Bool), v = .bool r ∧ Rows3 wr m gb gh gt B H T ∧ Mt f m B H ∧ (r = false → Kon f m B H T) ∧ Keeps (NB gb gh gt) w4 wr) (fun v wr => mz gh m v wr)
    case atStart => exact ⟨true, _, _, _, rfl, hR4, ⟨fun k a h => (by cases h), fun a k h => (by cases h)⟩, fun h => (by cases h), Keeps.refl _ _⟩
    case round =>
      obtain ⟨r, B, H, T, rfl, hR, hM, hK, hkp⟩ := hrel
      clear hR4
      have hE := HE.out.keeps hkp
      cases r with
      | false =>
        have hK := hK rfl
        have k0 := hE.s0
        have k1 := hE.s1
        have k2 := hE.s2
        have h24 := (hkp.block _ hsl4 h2n).trans H24.out
        have z0 : wr.cell? ⟨w.heap.size + 1, 0, none⟩ = some (.slice none 0 0) := by unfold World.cell?; dsimp only; rw [h24]; rfl
        have z1 : wr.cell? ⟨w.heap.size + 1, 1, none⟩ = some (.slice none 0 0) := by unfold World.cell?; dsimp only; rw [h24]; rfl
        have z2 : wr.cell? ⟨w.heap.size + 1, 2, none⟩ = some (.slice none 0 0) := by unfold World.cell?; dsimp only; rw [h24]; rfl
        have zf : ∀ o, wr.frozen? ⟨w.heap.size + 1, o, none⟩ = false := fun o => by simp [World.frozen?, h24]
        have hrow := ((hR.other (p := ⟨w.heap.size + 1, 0, none⟩) h2n (.slice (some ⟨gb, 0, none⟩) m m)).other (p := ⟨w.heap.size + 1, 1, none⟩) h2n (.slice (some ⟨gh, 0, none⟩) m m)).other (p := ⟨w.heap.size + 1, 2, none⟩) h2n (.slice (some ⟨gt, 0, none⟩) m m)
        have hfin := three_set h24 (.slice (some ⟨gb, 0, none⟩) m m) (.slice (some ⟨gh, 0, none⟩) m m) (.slice (some ⟨gt, 0, none⟩) m m)
        have hbf := (((hbw4.trans (hkp.below (by omega) fun k hk => ⟨by omega, by omega, by omega⟩)).setCell (p := ⟨w.heap.size + 1, 0, none⟩) (Nat.le_succ _) (.slice (some ⟨gb, 0, none⟩) m m)).setCell (p := ⟨w.heap.size + 1, 1, none⟩) (Nat.le_succ _) (.slice (some ⟨gh, 0, none⟩) m m)).setCell (p := ⟨w.heap.size + 1, 2, none⟩) (Nat.le_succ _) (.slice (some ⟨gt, 0, none⟩) m m)
        have HROW := Lib.hid hrow
        have HFIN := Lib.hid hfin
        have HBF := Lib.hid hbf
        have HK := Lib.hid hK
        clear hrow hfin hbf hK h24
        go_wp2_with fail
        refine bodyPost_ret (results_cell_row rfl _ _ (w.heap.size + 1) 77 _ (0, 0) _ rfl HFIN.out rfl rfl Tryd.infoCh) rfl ?_
        exact ⟨gb, gh, gt, rfl, B, H, T, HROW.out, HK.out, hlb.1, hlb.2.1, hlb.2.2, HBF.out⟩
      | true =>
        clear hK
        have hcl := fun ty => run_clear_bool wr 75 4 ty Tryd.underlying75 (fun w => by kernel_rfl) gt m m (fun j hj => by rw [hR.t.cell hj]; rfl) (fun j _ => hR.t.frozen j)
        have hR5 := hR.clear hne
        have hk5 : Keeps (NB gb gh gt) wr (wr.setCells gt 0 (List.replicate m (.bool false))) := keeps_setCells gt (fun h => h.2.2 rfl) _ 0 (Keeps.refl _ wr)
        have hE5 := hE.keeps hk5
        have k2 := hE.s2
        have hf5 := hE5.f
        have HE5 := Lib.hid hE5
        have hmz : cntN gh m wr = unm m H := cntN_rows hR
        have HMZ := Lib.hid hmz
        have HM := Lib.hid hM
        have HR5 := Lib.hid hR5
        have HK5 := Lib.hid (hkp.trans hk5)
        obtain ⟨w5, hw5⟩ : ∃ w5, w5 = wr.setCells gt 0 (List.replicate m (.bool false)) := ⟨_, rfl⟩
        rw [← hw5] at hcl hf5 HE5 HR5 HK5
        obtain ⟨wo, hwo⟩ : ∃ wo : World, wo = wr := ⟨_, rfl⟩
        rw [← hwo] at HMZ hcl k2 ⊢
        clear hR hE hR5 hE5 hk5 hkp hmz hM hw5 hwo
        go_wp2_with fail
        go_loopw [25, 5] (fun i v wq => ∃ n : Nat, n ≤ m ∧ i = .int .i64 n ∧ ∃ (r : Bool) (B' H' : Nat → Option Nat) (T' : Nat → Bool), v = .bool r ∧ Rows3 wq m gb gh gt B' H' T' ∧ Mt f m B' H' ∧ Keeps (NB gb gh gt) w5 wq ∧
          ((r = true ∧ unm m H' < unm m H) ∨ (r = false ∧ B' = B ∧ H' = H ∧ (∀ a, a < n → H a = none → ∀ j, f a j = true → T' j = true) ∧ ∀ k, T' k = true → ∃ a, B k = some a ∧ ∀ j, f a j = true → T' j = true))) (fun i _ _ => m - (intOf i).toNat)
        case atStart => exact ⟨0, Nat.zero_le _, rfl, false, B, H, _, rfl, HR5.out, HM.out, Keeps.refl _ _, .inr ⟨rfl, rfl, rfl, fun a h => by omega, fun k h => by cases h⟩⟩
        case round =>
          obtain ⟨n, hn, rfl, r, B', H', T', rfl, hRq, hMq, hkq, hcase⟩ := hrel
          have hEq := HE5.out.keeps hkq
          clear hcl hf5 k2
          by_cases hnm : n < m
          · have k1 := hEq.s1
            have kv := hEq.v
            have ch := hRq.h.cell hnm
            try dsimp only at ch
            have n0 : (0 : Int) ≤ (n : Int) := Int.natCast_nonneg _
            have n1 : (n : Int) < (m : Int) := by omega
            cases hHn : H' n with
            | some k =>
              rw [hHn] at ch
              have ch' : wr.cell? ⟨gh, n, none⟩ = some (.int .i64 (k : Int)) := ch
              have hk0 : ((k : Int) == -1) = false := beq_eq_false_iff_ne.2 (by omega)
              have HC : Hid ((r = true ∧ unm m H' < unm m H) ∨ (r = false ∧ B' = B ∧ H' = H ∧ (∀ a, a < n + 1 → H a = none → ∀ j, f a j = true → T' j = true) ∧ ∀ k, T' k = true → ∃ a, B k = some a ∧ ∀ j, f a j = true → T' j = true)) := by
                rcases hcase with h | ⟨h1, h2, h3, h4, h5⟩
                · exact .inl h
                · refine .inr ⟨h1, h2, h3, fun a ha hHa => ?_, h5⟩
                  by_cases e : a = n
                  · subst e
                    rw [h3, hHa] at hHn
                    cases hHn
                  · exact h4 a (by omega) hHa
              clear ch hcase hHn
              go_wp2_with fail
              go_roundw
              case rel => exact ⟨n + 1, by omega, by go_num, r, B', H', T', rfl, hRq, hMq, hkq, HC.out⟩
              case measure => simp [intOf]; omega
            | none =>
              rw [hHn] at ch
              have ch' : wr.cell? ⟨gh, n, none⟩ = some (.int .i64 (-1)) := ch
              have HC := Lib.hid (extend_any es m hm hin f HF.out w.heap.size B3 B4 gb gh gt w.heap.size A1 c1 (untr m T') B' H' T' n (Nat.le_refl _) hMq hnm (fun k hk => by rw [hHn] at hk; cases hk) wr hEq hRq)
              have HHN := Lib.hid hHn
              have HCASE := Lib.hid hcase
              clear ch hcase hHn hRq hEq
              go_upto_region 11 with fail
              go_wp2_with (first | (go_at_call 38; refine HC.out.mono ?_; rintro e w6 ⟨r2, B2, H2, T2, rfl, hR2, hk2, hup2, hc2⟩; cases r2) | fail)
              · have hi : B2 = B' ∧ H2 = H' ∧ Fal f B' T' n T2 := by
                  rcases hc2 with ⟨h, _⟩ | ⟨_, h⟩
                  · cases h
                  · exact h
                obtain ⟨rfl, rfl, hfa⟩ := hi
                have HC2 : Hid ((r = true ∧ unm m H2 < unm m H) ∨ (r = false ∧ B2 = B ∧ H2 = H ∧ (∀ a, a < n + 1 → H a = none → ∀ j, f a j = true → T2 j = true) ∧ ∀ k, T2 k = true → ∃ a, B k = some a ∧ ∀ j, f a j = true → T2 j = true)) := by
                  rcases HCASE.out with h | ⟨h1, h2, h3, h4, h5⟩
                  · exact .inl h
                  · refine .inr ⟨h1, h2, h3, fun a ha hHa j hj => ?_, fun k hk => ?_⟩
                    · by_cases e : a = n
                      · subst e; exact hfa.all j hj
                      · exact hfa.up j (h4 a (by omega) hHa j hj)
                    · rcases hfa.new k hk with h6 | ⟨a, h6, h7⟩
                      · obtain ⟨a, h8, h9⟩ := h5 k h6
                        exact ⟨a, h8, fun j hj => hfa.up j (h9 j hj)⟩
                      · exact ⟨a, by rw [← h2]; exact h6, h7⟩
                clear hc2 hfa hup2
                go_wp2_with fail
                go_roundw
                case rel => exact ⟨n + 1, by omega, by go_num, r, _, _, T2, rfl, hR2, hMq, hkq.trans hk2, HC2.out⟩
                case measure => simp [intOf]; omega
              · have hi : Suc f m B' H' T' n B2 H2 := by
                  rcases hc2 with ⟨_, h⟩ | ⟨h, _⟩
                  · exact h
                  · cases h
                have hM2 := hi.mt HHN.out
                have hun := unm_suc hnm HHN.out hi
                have HC2 : Hid (unm m H2 < unm m H) := by
                  rcases HCASE.out with ⟨_, h⟩ | ⟨_, _, h, _⟩
                  · show unm m H2 < unm m H; omega
                  · show unm m H2 < unm m H; rw [← h]; omega
                clear hc2 hi hun hup2
                go_wp2_with fail
                go_roundw
                case rel => exact ⟨n + 1, by omega, by go_num, true, B2, H2, T2, rfl, hR2, hM2, hkq.trans hk2, .inl ⟨rfl, HC2.out⟩⟩
                case measure => simp [intOf]; omega
          · obtain rfl : n = m := by omega
            have hcn := cntN_rows hRq
            have HCN := Lib.hid hcn
            have HCASE := Lib.hid hcase
            have HKF := Lib.hid (HK5.out.trans hkq)
            clear hcn hcase hEq
            go_wp2_with fail
            go_roundw
            case rel =>
              refine ⟨r, B', H', T', rfl, hRq, hMq, fun hr => ?_, HKF.out⟩
              rcases HCASE.out with ⟨h, _⟩ | ⟨_, h2, h3, h4, h5⟩
              · rw [hr] at h; cases h
              · exact ⟨hMq, fun a ha hHa j hj => h4 a ha (by rw [← h3]; exact hHa) j hj, fun k hk => by rw [h2]; exact h5 k hk⟩
            case measure =>
              show mz gh n (.bool r) wr < mz gh n (.bool true) wo
              cases r with
              | false => show 0 < cntN gh n wo + 1; omega
              | true =>
                show cntN gh n wr + 1 < cntN gh n wo + 1
                rw [HCN.out, HMZ.out]
                rcases HCASE.out with ⟨_, h⟩ | ⟨h, _⟩
                · omega
                · cases h
end Go.Proofs.YtidgibkiacbgfaaDoor

namespace Go.Proofs.YtidgibkiacbgfaaDoor
open Go.RowKit
set_option maxRecDepth 100000

/-- a slice of ints whose block p names -/
structure RdIp (w : World) (p : Nat → Prop) (A : Option Addr) (zs : List Int) : Prop where
  lo : ∀ k, -9223372036854775808 ≤ zd zs k
  hi : ∀ k, zd zs k ≤ 9223372036854775807
  room : zs.length ≤ 1152921504606846976
  rd : 0 < zs.length → ∃ b off, A = some ⟨b, off, none⟩ ∧ p b ∧ b < w.heap.size ∧ ∀ k, k < zs.length → w.cell? ⟨b, off + k, none⟩ = some (.int .i64 (zd zs k))
theorem RdIp.toI {w : World} {p : Nat → Prop} {A : Option Addr} {zs : List Int} (h : RdIp w p A zs) : RdI w w.heap.size A zs := ⟨h.lo, h.hi, h.room, fun hn => by
  obtain ⟨b, off, hA, _, hb, hc⟩ := h.rd hn
  exact ⟨b, off, hA, hb, hc⟩⟩
theorem RdIp.imp {w w' : World} {p q : Nat → Prop} {A : Option Addr} {zs : List Int} (h : RdIp w p A zs) (hk : ∀ b, p b → b < w.heap.size → q b ∧ b < w'.heap.size ∧ ∀ o, w'.cell? ⟨b, o, none⟩ = w.cell? ⟨b, o, none⟩) : RdIp w' q A zs := ⟨h.lo, h.hi, h.room, fun hn => by
  obtain ⟨b, off, hA, hp, hb, hc⟩ := h.rd hn
  obtain ⟨h1, h2, h3⟩ := hk b hp hb
  exact ⟨b, off, hA, h1, h2, fun k hk' => (h3 _).trans (hc k hk')⟩⟩
theorem RdIp.step {w w' : World} {p : Nat → Prop} {A : Option Addr} {zs : List Int} (h : RdIp w p A zs) (hb : Below w.heap.size w w') : RdIp w' p A zs :=
  h.imp fun b hp hlt => ⟨hp, Nat.lt_of_lt_of_le hlt hb.size, fun o => hb.cell (p := ⟨b, o, none⟩) hlt⟩
theorem own_stp {w w' : World} {base e size n : Nat} {v : Value} {xs : List Value} (h : w.ownsRow base e size v n xs) (hb : Below w.heap.size w w') : w'.ownsRow base e size v n xs := by
  rcases h.2 with h0 | ⟨g, cap, cur, hv, hg, hh, hr⟩
  · exact ⟨h.1, .inl h0⟩
  · exact ⟨h.1, .inr ⟨g, cap, cur, hv, hg, (hb.block g (Array.getElem?_eq_some_iff.1 hh).1).trans hh, hr⟩⟩
theorem toI_zd {l : List Nat} {N : Nat} (h : ∀ x, x ∈ l → x < N) (k : Nat) : 0 ≤ zd (toI l) k ∧ (zd (toI l) k < (N : Int) ∨ zd (toI l) k = 0) := by
  unfold zd toI
  rw [List.getD, List.getElem?_map]
  cases e : l[k]? with
  | none => simp
  | some x => have := h x (List.mem_of_getElem? e); simp; omega
theorem own_rdIp {w : World} {base : Nat} {e : TypeId} {v : Value} {zs : List Int} (h : w.ownsRow base e 1 v zs.length (iVals zs)) (hlo : ∀ k, -9223372036854775808 ≤ zd zs k) (hhi : ∀ k, zd zs k ≤ 9223372036854775807) (hroom : zs.length ≤ 1152921504606846976) :
    ∃ A c, v = .slice A zs.length c ∧ RdIp w (fun b => base ≤ b) A zs := by
  obtain ⟨A, c, hv⟩ := own_any h
  refine ⟨A, c, hv, hlo, hhi, hroom, fun hn => ?_⟩
  obtain ⟨g, cap, hv2, hb, hg⟩ := own_shape h hn
  rw [hv2] at hv h
  injection hv with hA _ hc
  subst hA
  exact ⟨g, 0, rfl, hb, hg, fun k hk => by rw [Nat.zero_add, h.cellAt k (by omega)]; exact iVals_at zs k hk⟩

/-- a list of lists that the call owns: its row may grow, each list lies elsewhere -/
def LL (w : World) (v : Value) (ls : List (List Int)) (hd : List Value) : Prop := ∀ k, k < ls.length → ∃ A c, hd[k]? = some (.slice A (ls.getD k []).length c) ∧ RdIp w (fun b => v.ownBlock ≠ some b) A (ls.getD k [])
def OwnII (w : World) (base : Nat) (v : Value) (ls : List (List Int)) : Prop := ∃ hd : List Value, w.ownsRow base 42 1 v ls.length hd ∧ hd.length = ls.length ∧ LL w v ls hd
theorem OwnII.nil (w : World) (base : Nat) : OwnII w base (.slice none 0 0) [] := ⟨[], World.ownsRow_nil _ _ _ _, rfl, fun k hk => by simp at hk⟩
theorem OwnII.step {w w' : World} {base : Nat} {v : Value} {ls : List (List Int)} (h : OwnII w base v ls) (hb : Below w.heap.size w w') : OwnII w' base v ls := by
  obtain ⟨hd, h1, h2, h3⟩ := h
  exact ⟨hd, own_stp h1 hb, h2, fun k hk => by
    obtain ⟨A, c, h4, h5⟩ := h3 k hk
    exact ⟨A, c, h4, h5.step hb⟩⟩
theorem getD_app {α : Type} (l r : List α) {k : Nat} (h : k < l.length) {d : α} : (l ++ r).getD k d = l.getD k d := by
  unfold List.getD; rw [List.getElem?_append_left h]
theorem OwnII.app {w w1 : World} {base c : Nat} {v v' : Value} {ls : List (List Int)} {hd : List Value} {A : Option Addr} {zs : List Int} (hl : hd.length = ls.length) (h : LL w v ls hd) (hz : RdIp w (fun b => v.ownBlock ≠ some b) A zs) (o : Obj)
    (hown : w1.ownsRow base 42 1 v' (ls.length + 1) (hd ++ [.slice A zs.length c])) (hg : (w.alloc o).grownBy w1 v.ownBlock) (hat : v'.ownBlock = v.ownBlock ∨ v'.ownBlock = some (w.alloc o).heap.size) : OwnII w1 base v' (ls ++ [zs]) := by
  have key : ∀ {A : Option Addr} {zs : List Int}, RdIp w (fun b => v.ownBlock ≠ some b) A zs → RdIp w1 (fun b => v'.ownBlock ≠ some b) A zs := fun hr => hr.imp fun b hp hb => by
    have hb1 : b < (w.alloc o).heap.size := by simp; omega
    have hk := hg.block b hb1 (fun e => hp e.symm)
    refine ⟨fun e => ?_, ?_, fun off => ?_⟩
    · rcases hat with h1 | h1
      · exact hp (h1.symm.trans e)
      · rw [h1] at e; injection e with e; omega
    · have := hg.size; omega
    · exact (World.cell?_of_block (a := ⟨b, off, none⟩) hk).trans ((below_alloc w o).cell (p := ⟨b, off, none⟩) hb)
  refine ⟨hd ++ [.slice A zs.length c], by simpa using hown, by simp [hl], fun k hk => ?_⟩
  rw [List.length_append, List.length_singleton] at hk
  by_cases e : k < ls.length
  · obtain ⟨A', c', h4, h5⟩ := h k e
    refine ⟨A', c', ?_, ?_⟩
    · rw [List.getElem?_append_left (by omega), getD_app _ _ e]; exact h4
    · rw [getD_app _ _ e]; exact key h5
  · obtain rfl : k = ls.length := by omega
    have e1 : (ls ++ [zs]).getD ls.length [] = zs := by simp [List.getD]
    refine ⟨A, c, ?_, ?_⟩
    · rw [e1, ← hl]; simp
    · rw [e1]; exact key hz
theorem OwnII.rd {w : World} {base : Nat} {v : Value} {ls : List (List Int)} (h : OwnII w base v ls) (hl : ls.length ≤ 1048576) : ∃ A c, v = .slice A ls.length c ∧ RdII w w.heap.size A ls := by
  obtain ⟨hd, h1, h2, h3⟩ := h
  obtain ⟨A, c, rfl⟩ := own_any h1
  have h4 : ∀ k, ∃ Ac : Option Addr × Nat, k < ls.length → hd[k]? = some (.slice Ac.1 (ls.getD k []).length Ac.2) ∧ RdI w w.heap.size Ac.1 (ls.getD k []) := fun k => by
    by_cases hk : k < ls.length
    · obtain ⟨A, c, h5, h6⟩ := h3 k hk
      exact ⟨(A, c), fun _ => ⟨h5, h6.toI⟩⟩
    · exact ⟨(none, 0), fun h => absurd h hk⟩
  refine ⟨A, c, rfl, hl, fun i => (h4 i).choose.1, fun i => (h4 i).choose.2, own_rd h1 fun k hk => ((h4 k).choose_spec hk).1, fun k hk => ((h4 k).choose_spec hk).2⟩

def lnV : Value → Nat
  | .slice _ n _ => n
  | _ => 0
theorem own_ln {w : World} {base e size n : Nat} {v : Value} {xs : List Value} (h : w.ownsRow base e size v n xs) : lnV v = n := by
  rcases h.2 with ⟨rfl, rfl⟩ | ⟨g, cap, cur, rfl, _⟩ <;> rfl
theorem chO_lt {f : Nat → Nat → Bool} {m n k x : Nat} {B H : Nat → Option Nat} (hM : Mt f m B H) (hS : So f m) (hn : n < m) (hx : x ∈ chO H n k) : x < m := by
  obtain ⟨i, _, hi⟩ := chO_mem.1 hx
  exact (itO_lt hM hS hn hi).2

theorem OwnII.blk {w : World} {base : Nat} {v : Value} {ls : List (List Int)} (h : OwnII w base v ls) : ∀ b, v.ownBlock = some b → b < w.heap.size := by
  obtain ⟨hd, h1, _⟩ := h
  exact fun b hb => (h1.lt b hb).2
theorem so_of {m : Nat} {es : List (Int × Int)} (hin : inR m es = true) (hfull : (ordr m es).length = m) : So (fw (gR es) m) m :=
  ⟨fw_irr hin hfull, fun h1 h2 => fw_tr hin h1 h2, fun h => fw_lt hin h⟩
/-- a list of chains, one for each that has nobody ahead -/
def CovL (N : Int) (es : List (Int × Int)) (L : List (List Int)) : Prop := (errn N es ≠ 0 → L = []) ∧ (errn N es = 0 → ∃ B H T, Kon (fw (gR es) N.toNat) N.toNat B H T ∧ L = (cov B H N.toNat).map toI)
/-- those that are the last in their chains that were not tried -/
def WidL (N : Int) (es : List (Int × Int)) (L : List Int) : Prop := (errn N es ≠ 0 → L = []) ∧ (errn N es = 0 → ∃ B H T, Kon (fw (gR es) N.toNat) N.toNat B H T ∧ L = toI ((List.range N.toNat).filter (lastU H T)))
def cvs (B H : Nat → Option Nat) (m k : Nat) : List (List Int) := (((List.range k).filter (start B)).map (chn' H m)).map toI
theorem cvs_snoc {B H : Nat → Option Nat} {m k : Nat} (h : B k = none) : cvs B H m (k + 1) = cvs B H m k ++ [toI (chn' H m k)] := by
  unfold cvs
  rw [List.range_succ, List.filter_append]
  simp [start, h]
theorem cvs_same {B H : Nat → Option Nat} {m k a : Nat} (h : B k = some a) : cvs B H m (k + 1) = cvs B H m k := by
  unfold cvs
  rw [List.range_succ, List.filter_append]
  simp [start, h]
theorem cvs_len (B H : Nat → Option Nat) (m k : Nat) : (cvs B H m k).length ≤ k := by
  unfold cvs
  rw [List.length_map, List.length_map]
  have := List.length_filter_le (start B) (List.range k)
  rwa [List.length_range] at this

def wds (H : Nat → Option Nat) (T : Nat → Bool) (k : Nat) : List Int := toI ((List.range k).filter (lastU H T))
theorem wds_snoc {H : Nat → Option Nat} {T : Nat → Bool} {k : Nat} (h : lastU H T k = true) : wds H T (k + 1) = wds H T k ++ [((k : Nat) : Int)] := by
  unfold wds
  rw [List.range_succ, List.filter_append]
  simp [h, toI]
theorem wds_same {H : Nat → Option Nat} {T : Nat → Bool} {k : Nat} (h : lastU H T k = false) : wds H T (k + 1) = wds H T k := by
  unfold wds
  rw [List.range_succ, List.filter_append]
  simp [h]
theorem wds_len (H : Nat → Option Nat) (T : Nat → Bool) (k : Nat) : (wds H T k).length ≤ k := by
  unfold wds
  rw [toI_len]
  have := List.length_filter_le (lastU H T) (List.range k)
  rwa [List.length_range] at this

set_option maxHeartbeats 8000000 in
theorem wide_any (A : Option Addr) (c : Nat) (N : Int) (es : List (Int × Int)) (w : World) (he : RdE w w.heap.size A es) (hT : Tab w) :
    Calls Tryd.prog 12 #[.agg #[.int .i64 N, .slice A es.length c]] w fun e w' => ∃ A1 c1 L, e = .returned (.tuple #[.slice A1 L.length c1, .int .i64 (errn N es)]) ∧ RdI w' w'.heap.size A1 L ∧ WidL N es L ∧ L.length ≤ 200 ∧ Below w.heap.size w w' := by
  obtain ⟨i0, hi, hz0, hz1, hz2⟩ := info_parts Tryd.infoInt
  go_enter Tryd.func12, Tryd.ntmps12
  go_wp2_with fail
  have g1 := GB.new w 30 N (.slice A es.length c)
  have hB := below_alloc w (.cells #[.int .i64 N, .slice A es.length c] 30)
  obtain ⟨w1, hw1⟩ : ∃ w1, w1 = w.alloc (.cells #[.int .i64 N, .slice A es.length c] 30) := ⟨_, rfl⟩
  rw [← hw1] at g1 hB ⊢
  have hs := hB.size
  replace he := he.step hB
  replace hT := hT.step hB
  clear hw1
  refine (behind_any A c N es _ he hT).mono ?_
  rintro e w2 ⟨A1, c1, rfl, hu, hb⟩
  replace g1 := g1.step hb
  replace hB := below_step hB hs hb
  replace hT := hT.step hb
  replace hs := hB.size
  clear hb he
  have n1 := g1.n
  by_cases hE : errn N es = 0
  · obtain ⟨m, rfl, hin, hfull⟩ := errn_split hE
    have hm : m ≤ 200 := by have := hin; unfold inR okN200 at this; simp at this; omega
    have e3 : behG m es = behs m es := by unfold behG; rw [if_pos hE, Int.toNat_natCast]
    rw [e3] at hu
    rw [e3, hE, behs_len]
    have HE := Lib.hid hE
    have HC := Lib.hid (fewest_any es m hm hin (fw (gR es) m) rfl A1 c1 w2 hu hT)
    clear e3 hE hin hfull hT hu g1 n1
    go_upto_region 4 with fail
    go_wp2_with (go_at_call 27; refine HC.out.mono ?_; rintro e w3 ⟨gb, gh, gt, B, H, T, rfl, hR, hK, l1, l2, l3, hb3⟩)
    have hs3 := hb3.size
    have h24 := World.alloc_heap_new w3 (.cells #[.slice (some ⟨gb, 0, none⟩) m m, .slice (some ⟨gh, 0, none⟩) m m, .slice (some ⟨gt, 0, none⟩) m m] 77)
    obtain ⟨_, k1, _⟩ := cells3 h24
    have hb4 := below_alloc w3 (.cells #[.slice (some ⟨gb, 0, none⟩) m m, .slice (some ⟨gh, 0, none⟩) m m, .slice (some ⟨gt, 0, none⟩) m m] 77)
    obtain ⟨w4, hw4⟩ : ∃ w4, w4 = w3.alloc (.cells #[.slice (some ⟨gb, 0, none⟩) m m, .slice (some ⟨gh, 0, none⟩) m m, .slice (some ⟨gt, 0, none⟩) m m] 77) := ⟨_, rfl⟩
    rw [← hw4] at k1 hb4 ⊢
    have hs4 : w4.heap.size = w3.heap.size + 1 := by rw [hw4]; simp
    have h34 : w4.heap[w3.heap.size]? = some (.cells #[.slice (some ⟨gb, 0, none⟩) m m, .slice (some ⟨gh, 0, none⟩) m m, .slice (some ⟨gt, 0, none⟩) m m] 77 (0, 0)) := by rw [hw4]; exact h24
    have hR4 := hR.step hb4
    have lb := hR.b.lt
    have lh := hR.h.lt
    have lt := hR.t.lt
    have hbw : Below w.heap.size w w4 := hB.trans ((hb3.trans (hb4.mono hs3)).mono hs)
    have HK := Lib.hid hK
    have HBW := Lib.hid hbw
    have H34 := Lib.hid h34
    clear hw4 h24 hb3 hb4 hR hK hbw hB HC h34
    go_wp2_with fail
    go_loopw [23, 7] (fun i v wr => ∃ k : Nat, k ≤ m ∧ i = .int .i64 k ∧ wr.ownsRow w4.heap.size 3 1 v (wds H T k).length (iVals (wds H T k)) ∧ Below w4.heap.size w4 wr) (fun i _ _ => m - (intOf i).toNat)
    case atStart => exact ⟨0, Nat.zero_le _, rfl, World.ownsRow_nil _ _ _ _, Below.refl _ _⟩
    case round =>
      obtain ⟨k, hk, rfl, hown, hbr⟩ := hrel
      have hsz := hbr.size
      clear k1
      by_cases hkm : k < m
      · have hrh := rowIs_below hR4.h hbr (by omega)
        have hrt := rowIs_below hR4.t hbr (by omega)
        have ch := hrh.cell hkm
        have ct := hrt.cell hkm
        have z0 : (0 : Int) ≤ (k : Int) := Int.natCast_nonneg _
        have z1 : (k : Int) < (m : Int) := by omega
        have h34r := (hbr.block w3.heap.size (by omega)).trans H34.out
        obtain ⟨_, _, k2⟩ := cells3 h34r
        have hlen := wds_len H T k
        have h3 : (wds H T k).length + 1 ≤ maxLen := by unfold maxLen; omega
        have h4 : ((wds H T k).length + 1) * 8 ≤ 140737488355328 := by omega
        have h5 : w4.heap.size ≤ (wr.alloc (.cells #[.int .i64 (k : Int)] 3)).heap.size := by simp; omega
        try dsimp only at ch ct
        clear h34r
        cases hTk : T k with
        | true =>
          rw [hTk] at ct
          have HL := Lib.hid (show lastU H T k = false by simp [lastU, hTk])
          clear hTk
          go_wp2_with fail
          go_roundw
          case rel => exact ⟨k + 1, by omega, by go_num, by rw [wds_same HL.out]; exact hown, hbr⟩
          case measure => simp [intOf]; omega
        | false =>
          rw [hTk] at ct
          cases hHk : H k with
          | none =>
            rw [hHk] at ch
            have ch' : wr.cell? ⟨gh, k, none⟩ = some (.int .i64 (-1)) := ch
            have HL := Lib.hid (show lastU H T k = true by simp [lastU, hTk, hHk])
            clear hTk hHk ch
            go_wp2_with (at_builtin; refine wpList_append_own _ rfl _ _ 42 rfl w4.heap.size 3 i0 (.int .i64 0) 1 8 Tryd.underlying42 hi hz0 hz1 hz2 rfl (by decide) _ _ _ rfl (hown.alloc _) ⟨wr.heap.size, 0, none⟩ 1 1 [.int .i64 (k : Int)] rfl rfl (cell_one_new _ _ _) (by simp [Value.oneCell']) h3 h4 h5 ?_; intro v' wa hown' hgrow _; have hB1 := below_app hbr hsz hown hgrow)
            rw [iVals_snoc, ← wds_snoc HL.out] at hown'
            have he : (wds H T k).length + 1 = (wds H T (k + 1)).length := by rw [wds_snoc HL.out, List.length_append]; rfl
            rw [he] at hown'
            clear he hgrow
            go_roundw
            case rel => exact ⟨k + 1, by omega, by go_num, hown', hB1⟩
            case measure => simp [intOf]; omega
          | some a =>
            rw [hHk] at ch
            have ch' : wr.cell? ⟨gh, k, none⟩ = some (.int .i64 (a : Int)) := ch
            obtain ⟨_, ham, _⟩ := HK.out.mt.next hHk
            have y0 : (0 : Int) ≤ (a : Int) := Int.natCast_nonneg _
            have y1 : (a : Int) < (m : Int) := by omega
            have y2 : ((a : Int) == -1) = false := beq_eq_false_iff_ne.2 (by omega)
            have cta := hrt.cell ham
            try dsimp only at cta
            cases hTa : T a with
            | true =>
              rw [hTa] at cta
              have HL := Lib.hid (show lastU H T k = true by simp [lastU, hTk, hHk, hTa])
              clear hTk hHk hTa ch
              go_wp2_with (at_builtin; refine wpList_append_own _ rfl _ _ 42 rfl w4.heap.size 3 i0 (.int .i64 0) 1 8 Tryd.underlying42 hi hz0 hz1 hz2 rfl (by decide) _ _ _ rfl (hown.alloc _) ⟨wr.heap.size, 0, none⟩ 1 1 [.int .i64 (k : Int)] rfl rfl (cell_one_new _ _ _) (by simp [Value.oneCell']) h3 h4 h5 ?_; intro v' wa hown' hgrow _; have hB1 := below_app hbr hsz hown hgrow)
              rw [iVals_snoc, ← wds_snoc HL.out] at hown'
              have he : (wds H T k).length + 1 = (wds H T (k + 1)).length := by rw [wds_snoc HL.out, List.length_append]; rfl
              rw [he] at hown'
              clear he hgrow
              go_roundw
              case rel => exact ⟨k + 1, by omega, by go_num, hown', hB1⟩
              case measure => simp [intOf]; omega
            | false =>
              rw [hTa] at cta
              have HL := Lib.hid (show lastU H T k = false by simp [lastU, hTk, hHk, hTa])
              clear hTk hHk hTa ch
              go_wp2_with fail
              go_roundw
              case rel => exact ⟨k + 1, by omega, by go_num, by rw [wds_same HL.out]; exact hown, hbr⟩
              case measure => simp [intOf]; omega
      · obtain rfl : k = m := by omega
        have hl : (wds H T k).length ≤ k := wds_len H T k
        have hz := fun j => toI_zd (l := (List.range k).filter (lastU H T)) (N := k) (fun x hx => List.mem_range.1 (List.mem_filter.1 hx).1) j
        obtain ⟨A9, c9, rfl, hr9⟩ := own_rdI hown (fun j => by have := hz j; unfold wds; omega) (fun j => by have := hz j; unfold wds; omega) (by omega)
        have HR := Lib.hid hr9
        clear hr9 hown hz
        go_wp2_with fail
        go_ret2
        rw [HE.out]
        exact ⟨A9, c9, wds H T k, rfl, HR.out, ⟨fun h => absurd HE.out h, fun _ => ⟨B, H, T, by rw [Int.toNat_natCast]; exact HK.out, by rw [Int.toNat_natCast]; rfl⟩⟩, by omega, HBW.out.trans (hbr.mono (HBW.out.size))⟩
  · have e3 : behG N es = [] := by unfold behG; rw [if_neg hE]
    rw [e3] at hu ⊢
    have ne1 : (errn N es == 0) = false := beq_eq_false_iff_ne.2 hE
    have HE := Lib.hid hE
    clear hE e3
    go_wp2_with fail
    go_ret2
    exact ⟨none, 0, [], rfl, ⟨fun k => by simp [zd], fun k => by simp [zd], by simp, fun h => by simp at h⟩, ⟨fun _ => rfl, fun h => absurd h HE.out⟩, by simp, hB⟩
end Go.Proofs.YtidgibkiacbgfaaDoor

namespace Go.Proofs.YtidgibkiacbgfaaDoor
open Go.RowKit
set_option maxRecDepth 100000

theorem wid_eds (T : Tm) (hs : T.sz ≤ 200) {L : List Int} (h : WidL (T.sz : Int) T.eds L) : L.length = T.wd := by
  obtain ⟨B, H, t, hK, rfl⟩ := h.2 (T.errn_eds hs)
  have hf : fw (gR T.eds) T.sz = T.bN := by funext i j; exact eds_fw T T.sz i j
  have hS := so_of (T.inR_eds hs) (T.full_eds hs)
  rw [Int.toNat_natCast] at hK ⊢
  rw [hf] at hK hS
  rw [toI_len]
  exact T.kon_wd hK hS

/-- what is held in the law's last statement -/
@[reducible] def SH (w5 : World) (D B B3 : Nat) (h : Hd) (N : Int) (v3 : Value) (W : World) : Prop :=
  Below D w5 W ∧ D ≤ W.heap.size ∧
  W.cell? ⟨B, 0, none⟩ = some (.int .i64 h.k) ∧ W.cell? ⟨B, 1, none⟩ = some (.int .i64 h.c) ∧ W.cell? ⟨B, 2, none⟩ = some (.bool h.x) ∧ W.cell? ⟨B, 3, none⟩ = some (.int .i64 h.l) ∧ W.cell? ⟨B, 4, none⟩ = some (.slice h.A h.n h.cap) ∧
  W.cell? ⟨B3, 0, none⟩ = some (.int .i64 N) ∧ W.cell? ⟨B3, 1, none⟩ = some v3
theorem SH.mk {w5 W : World} {D B B3 : Nat} {h : Hd} {N : Int} {v3 : Value} {T : TypeId} (t : TB T w5 B h) (g3 : GrB w5 B3 N v3) (hD : D = w5.heap.size) (hb : Below D w5 W) : SH w5 D B B3 h N v3 W := by
  have l : B < D := hD ▸ t.lt
  have l3 : B3 < D := hD ▸ g3.lt
  exact ⟨hb, hD ▸ hb.size, (hb.cell (p := ⟨B, 0, none⟩) l).trans t.c0, (hb.cell (p := ⟨B, 1, none⟩) l).trans t.c1, (hb.cell (p := ⟨B, 2, none⟩) l).trans t.c2, (hb.cell (p := ⟨B, 3, none⟩) l).trans t.c3, (hb.cell (p := ⟨B, 4, none⟩) l).trans t.c4,
    (hb.cell (p := ⟨B3, 0, none⟩) l3).trans g3.n, (hb.cell (p := ⟨B3, 1, none⟩) l3).trans g3.e⟩

set_option maxHeartbeats 2000000 in
theorem spanHeightLaw_many (T : Tm) (h : Hd) (w : World) (hT : TIn w w.heap.size T h) (hs : T.sz ≤ 1048576) (hTab : Tab w) (hbig : 200 < T.sz) :
    Calls Tryd.prog 4 #[.agg h.cells] w fun e w' => e = .returned (.bool true) ∧ Below w.heap.size w w' := by
  have key : ∃ w1, w1 = w.alloc (.cells h.cells 26) ∧ Below w.heap.size w w1 ∧ TB 26 w1 w.heap.size h := ⟨_, rfl, (Below.refl _ _).alloc (Nat.le_refl _) _, TB.new _ _ _⟩
  obtain ⟨w1, hw1, hb, ht⟩ := key
  have hs1 : w.heap.size + 1 = w1.heap.size := by rw [hw1]; simp
  have hTi := (hT.below hb (Nat.le_refl _)).more (show w.heap.size ≤ w1.heap.size by omega)
  have hTa : Tab w1 := hTab.step hb
  obtain ⟨k, c, x, l, A, q, cap⟩ := h
  dsimp only [Hd.cells] at hw1 ⊢
  clear hT hTab hs1
  go_enter Tryd.func4, Tryd.ntmps4
  go_wp2_with fail
  rw [← hw1]
  clear hw1
  refine (alive5_any w1).mono ?_
  rintro e w2 ⟨rfl, hb2⟩
  replace hTi := (hTi.below hb2 (Nat.le_refl _)).more hb2.size
  replace hTa := hTa.step hb2
  replace ht : TB 26 _ _ _ := (hb2.block _ ht.lt).trans ht
  replace hb := hb.trans (hb2.mono hb.size)
  clear hb2
  have t0 := ht.c0
  have t1 := ht.c1
  have t2 := ht.c2
  have t3 := ht.c3
  have t4 := ht.c4
  dsimp only at t0 t1 t2 t3 t4
  go_wp2_with fail
  refine (graph_many T _ _ hTi hs hbig).mono ?_
  rintro e w3 ⟨rfl, hb3⟩
  replace hTi := (hTi.below hb3 (Nat.le_refl _)).more hb3.size
  replace hTa := hTa.step hb3
  replace ht : TB 26 _ _ _ := (hb3.block _ ht.lt).trans ht
  replace hb := hb.trans (hb3.mono hb.size)
  clear hb3
  clear t0 t1 t2 t3 t4
  obtain ⟨w4, hw4⟩ : ∃ w4, w4 = w3.alloc (.cells #[.int .i64 0, .slice none 0 0] 30) := ⟨_, rfl⟩
  have hb4 : Below w3.heap.size w3 w4 := by rw [hw4]; exact (Below.refl _ _).alloc (Nat.le_refl _) _
  replace hTi := (hTi.below hb4 (Nat.le_refl _)).more hb4.size
  replace hTa := hTa.step hb4
  replace ht : TB 26 _ _ _ := (hb4.block _ ht.lt).trans ht
  replace hb := hb.trans (hb4.mono hb.size)
  clear hb4
  have t0 := ht.c0
  have t1 := ht.c1
  have t2 := ht.c2
  have t3 := ht.c3
  have t4 := ht.c4
  dsimp only at t0 t1 t2 t3 t4
  rw [hw4] at t0 t1 t2 t3 t4
  go_wp2_with fail
  rw [← hw4]
  clear t0 t1 t2 t3 t4 hw4
  refine (work_any T _ _ hTi hs).mono ?_
  rintro e w5 ⟨rfl, hb5⟩
  have hbf := hb.trans (hb5.mono hb.size)
  have hlt : decide ((200 : Int) < (T.sz : Int)) = true := decide_eq_true (by omega)
  go_wp2_with fail
  go_ret
  exact ⟨rfl, hbf⟩

set_option maxHeartbeats 2000000 in
theorem spanHeightLaw_few (T : Tm) (h : Hd) (w : World) (hT : TIn w w.heap.size T h) (hs : T.sz ≤ 1048576) (hTab : Tab w) (hfew : T.sz ≤ 200) :
    Calls Tryd.prog 4 #[.agg h.cells] w fun e w' => e = .returned (.bool true) ∧ Below w.heap.size w w' := by
  have key : ∃ w1, w1 = w.alloc (.cells h.cells 26) ∧ Below w.heap.size w w1 ∧ TB 26 w1 w.heap.size h := ⟨_, rfl, (Below.refl _ _).alloc (Nat.le_refl _) _, TB.new _ _ _⟩
  obtain ⟨w1, hw1, hb, ht⟩ := key
  have hs1 : w.heap.size + 1 = w1.heap.size := by rw [hw1]; simp
  have hTi := (hT.below hb (Nat.le_refl _)).more (show w.heap.size ≤ w1.heap.size by omega)
  have hTa : Tab w1 := hTab.step hb
  obtain ⟨k, c, x, l, A, q, cap⟩ := h
  dsimp only [Hd.cells] at hw1 ⊢
  clear hT hTab hs1
  go_enter Tryd.func4, Tryd.ntmps4
  go_wp2_with fail
  rw [← hw1]
  clear hw1
  refine (alive5_any w1).mono ?_
  rintro e w2 ⟨rfl, hb2⟩
  replace hTi := (hTi.below hb2 (Nat.le_refl _)).more hb2.size
  replace hTa := hTa.step hb2
  replace ht : TB 26 _ _ _ := (hb2.block _ ht.lt).trans ht
  replace hb := hb.trans (hb2.mono hb.size)
  clear hb2
  have t0 := ht.c0
  have t1 := ht.c1
  have t2 := ht.c2
  have t3 := ht.c3
  have t4 := ht.c4
  dsimp only at t0 t1 t2 t3 t4
  go_wp2_with fail
  refine (graph_few T _ _ hTi hfew).mono ?_
  rintro e w3 ⟨A3, c3, rfl, hown, hb3⟩
  have hr3 := own_rdEg hown (eds_len T hfew)
  replace hTi := (hTi.below hb3 (Nat.le_refl _)).more hb3.size
  replace hTa := hTa.step hb3
  replace ht : TB 26 _ _ _ := (hb3.block _ ht.lt).trans ht
  replace hb := hb.trans (hb3.mono hb.size)
  clear hb3
  clear t0 t1 t2 t3 t4
  clear hown
  obtain ⟨w4, hw4⟩ : ∃ w4, w4 = w3.alloc (.cells #[.int .i64 (T.sz : Int), .slice A3 T.eds.length c3] 30) := ⟨_, rfl⟩
  have hb4 : Below w3.heap.size w3 w4 := by rw [hw4]; exact (Below.refl _ _).alloc (Nat.le_refl _) _
  have g4 : GrB w4 w3.heap.size (T.sz : Int) (.slice A3 T.eds.length c3) := by rw [hw4]; exact World.alloc_heap_new w3 _
  replace hr3 := (hr3.below hb4).more hb4.size
  replace hTi := (hTi.below hb4 (Nat.le_refl _)).more hb4.size
  replace hTa := hTa.step hb4
  replace ht : TB 26 _ _ _ := (hb4.block _ ht.lt).trans ht
  replace hb := hb.trans (hb4.mono hb.size)
  clear hb4
  have n4 := g4.n
  have e4 := g4.e
  rw [hw4] at n4 e4
  obtain ⟨z, hz⟩ : ∃ z, z = T.sz := ⟨_, rfl⟩
  obtain ⟨ne, hne⟩ : ∃ ne, ne = T.eds.length := ⟨_, rfl⟩
  have HZ := Lib.hid hz
  have HNE := Lib.hid hne
  have HFEW := Lib.hid hfew
  have HSS := Lib.hid hs
  rw [← hz, ← hne] at n4 e4 g4 hw4
  rw [← hz]
  rw [← hne]
  clear hz hne hfew hs
  obtain ⟨B3, hB3⟩ : ∃ B3, B3 = w3.heap.size := ⟨_, rfl⟩
  go_wp2_with fail
  rw [← hw4]
  rw [← hB3] at g4 ⊢
  clear n4 e4 hw4 hB3
  have hoc := heightG_any A3 c3 (T.sz : Int) T.eds w4 (T.rdE HFEW.out hr3) hTa
  rw [hgtG_eds T HFEW.out, T.errn_eds HFEW.out] at hoc
  rw [← HZ.out, ← HNE.out] at hoc
  refine hoc.mono ?_
  rintro e w5 ⟨rfl, hb5⟩
  clear hoc
  replace g4 : GrB _ _ _ _ := (hb5.block _ g4.lt).trans g4
  replace hr3 := (hr3.below hb5).more hb5.size
  replace hTi := (hTi.below hb5 (Nat.le_refl _)).more hb5.size
  replace hTa := hTa.step hb5
  replace ht : TB 26 _ _ _ := (hb5.block _ ht.lt).trans ht
  replace hb := hb.trans (hb5.mono hb.size)
  clear hb5
  have n4 := g4.n
  have e4 := g4.e
  obtain ⟨s, hsE⟩ : ∃ s, s = T.sn := ⟨_, rfl⟩
  have HSN := Lib.hid hsE
  rw [← hsE]
  clear hsE
  go_wp2_with fail
  have hwc := wide_any A3 c3 (T.sz : Int) T.eds w5 (T.rdE HFEW.out hr3) hTa
  rw [T.errn_eds HFEW.out] at hwc
  rw [← HZ.out, ← HNE.out] at hwc
  refine hwc.mono ?_
  rintro e w6 ⟨A6, c6, L6, rfl, _, hwl, _, hb6⟩
  have hlen : L6.length = T.wd := wid_eds T HFEW.out (by rw [← HZ.out]; exact hwl)
  clear hwc hwl n4 e4
  rw [hlen]
  clear hlen
  replace g4 : GrB _ _ _ _ := (hb6.block _ g4.lt).trans g4
  replace hTi := (hTi.below hb6 (Nat.le_refl _)).more hb6.size
  replace hTa := hTa.step hb6
  replace ht : TB 26 _ _ _ := (hb6.block _ ht.lt).trans ht
  replace hb := hb.trans (hb6.mono hb.size)
  clear hb6
  clear hr3 hTa
  obtain ⟨b, hbE⟩ : ∃ b, b = T.wd := ⟨_, rfl⟩
  have HWD := Lib.hid hbE
  rw [← hbE]
  clear hbE
  obtain ⟨D, hD⟩ : ∃ D, D = w6.heap.size := ⟨_, rfl⟩
  have HS : Hid (∀ W, Below D w6 W → SH w6 D w.heap.size B3 ⟨k, c, x, l, A, q, cap⟩ (z : Int) (.slice A3 ne c3) W) := Lib.hid fun W hW => SH.mk ht g4 hD hW
  have hDw : ∀ W, Below D w6 W → D ≤ W.heap.size := fun W hW => by rw [hD]; exact hW.size
  have hTW : ∀ W, Below D w6 W → TIn W W.heap.size T ⟨k, c, x, l, A, q, cap⟩ := fun W hW => by subst hD; exact (hTi.below hW (Nat.le_refl _)).more hW.size
  have H1 : Hid (∀ W, Below D w6 W → Calls Tryd.prog 10 #[.agg #[.int .i64 k, .int .i64 c, .bool x, .int .i64 l, .slice A q cap]] W fun e w' => e = .returned (.int .i64 (z : Int)) ∧ SH w6 D w.heap.size B3 ⟨k, c, x, l, A, q, cap⟩ (z : Int) (.slice A3 ne c3) w') := Lib.hid fun W hW => by
    rw [HZ.out]; exact (work_any T ⟨k, c, x, l, A, q, cap⟩ W (hTW W hW) HSS.out).mono fun e w' ⟨h1, h2⟩ => ⟨h1, by rw [← HZ.out]; exact HS.out w' (hW.trans (h2.mono (hDw W hW)))⟩
  have H2 : Hid (∀ W, Below D w6 W → Calls Tryd.prog 13 #[.agg #[.int .i64 k, .int .i64 c, .bool x, .int .i64 l, .slice A q cap]] W fun e w' => e = .returned (.int .i64 (s : Int)) ∧ SH w6 D w.heap.size B3 ⟨k, c, x, l, A, q, cap⟩ (z : Int) (.slice A3 ne c3) w') := Lib.hid fun W hW => by
    rw [HSN.out]; exact (span_any T ⟨k, c, x, l, A, q, cap⟩ W (hTW W hW) HSS.out).mono fun e w' ⟨h1, h2⟩ => ⟨h1, HS.out w' (hW.trans (h2.mono (hDw W hW)))⟩
  have H3 : Hid (∀ W, Below D w6 W → Calls Tryd.prog 14 #[.agg #[.int .i64 k, .int .i64 c, .bool x, .int .i64 l, .slice A q cap]] W fun e w' => e = .returned (.int .i64 (b : Int)) ∧ SH w6 D w.heap.size B3 ⟨k, c, x, l, A, q, cap⟩ (z : Int) (.slice A3 ne c3) w') := Lib.hid fun W hW => by
    rw [HWD.out]; exact (width_any T ⟨k, c, x, l, A, q, cap⟩ W (hTW W hW) HSS.out).mono fun e w' ⟨h1, h2⟩ => ⟨h1, HS.out w' (hW.trans (h2.mono (hDw W hW)))⟩
  have HEND : Hid (∀ W, Below D w6 W → Below w.heap.size w W) := Lib.hid fun W hW => hb.trans (hW.mono (by have := hb.size; omega))
  obtain ⟨z0, z00, z1, z2, z3, z4, z5, z6, z7⟩ := HS.out w6 (Below.refl _ _)
  dsimp only at z1 z2 z3 z4 z5
  clear hDw hTW hb hTi ht g4 hD
  go_wp2_with fail
  go_region_held3 (SH w6 D w.heap.size B3 ⟨k, c, x, l, A, q, cap⟩ (z : Int) (.slice A3 ne c3))
    (first
      | (go_split_ands; refine ⟨?_, ?_, ?_, ?_, ?_, ?_, ?_, ?_, ?_⟩ <;> assumption)
      | (go_split_ands; exact HS.out _ (by first | assumption | (refine Below.drew ?_; assumption))))
    (first
      | (go_at_call 10; (try go_split_ands); refine (H1.out _ (by assumption)).mono ?_; rintro e w7 ⟨rfl, hS7⟩; clear z0 z00 z1 z2 z3 z4 z5 z6 z7; obtain ⟨z0, z00, z1, z2, z3, z4, z5, z6, z7⟩ := hS7; dsimp only at z1 z2 z3 z4 z5)
      | (go_at_call 13; (try go_split_ands); refine (H2.out _ (by assumption)).mono ?_; rintro e w7 ⟨rfl, hS7⟩; clear z0 z00 z1 z2 z3 z4 z5 z6 z7; obtain ⟨z0, z00, z1, z2, z3, z4, z5, z6, z7⟩ := hS7; dsimp only at z1 z2 z3 z4 z5)
      | (go_at_call 14; (try go_split_ands); refine (H3.out _ (by assumption)).mono ?_; rintro e w7 ⟨rfl, hS7⟩; clear z0 z00 z1 z2 z3 z4 z5 z6 z7; obtain ⟨z0, z00, z1, z2, z3, z4, z5, z6, z7⟩ := hS7; dsimp only at z1 z2 z3 z4 z5)
      | fail)
  all_goals
    have hbf := HEND.out _ z0
    go_wp2_with fail
    go_ret
    exact ⟨by simp, hbf⟩

theorem spanHeightLaw_any (T : Tm) (h : Hd) (w : World) (hT : TIn w w.heap.size T h) (hs : T.sz ≤ 1048576) (hTab : Tab w) :
    Calls Tryd.prog 4 #[.agg h.cells] w fun e w' => e = .returned (.bool true) ∧ Below w.heap.size w w' := by
  by_cases hb : 200 < T.sz
  · exact spanHeightLaw_many T h w hT hs hTab hb
  · exact spanHeightLaw_few T h w hT hs hTab (by omega)
end Go.Proofs.YtidgibkiacbgfaaDoor
