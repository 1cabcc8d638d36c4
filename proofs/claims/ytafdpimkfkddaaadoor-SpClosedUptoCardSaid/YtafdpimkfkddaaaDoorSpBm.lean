/-
  A matrix of bools in memory, and what a writer of it lets stand.
-/
import Derived.Test.YtafdpimkfkddaaaDoorSpEd
import Derived.Deep.OwnRows
namespace Go.Proofs.YtafdpimkfkddaaaDoor
open Go.RowKit Go.Deep
set_option maxRecDepth 100000

theorem Tryd.infoRowB : (Tryd.prog.info? 58).map (fun i => (i.zero, i.size, i.bytes)) = some (some (.slice none 0 0), 1, 24) := by kernel_rfl
theorem Tryd.infoBoolB : (Tryd.prog.info? 4).map (fun i => (i.zero, i.size, i.bytes)) = some (some (.bool false), 1, 1) := by kernel_rfl

/-- a matrix of bools: block g holds the rows, row i lies in block g + 1 + i -/
structure SM (T E : TypeId) (w : World) (g m : Nat) (b : Nat → Nat → Bool) : Prop where
  row : w.rowIs g T m (fun i => .slice (some ⟨g + 1 + i, 0, none⟩) m m)
  el : ∀ i, i < m → w.rowIs (g + 1 + i) E m (fun j => .bool (b i j))
theorem SM.alloc {T E : TypeId} {w : World} {g m : Nat} {b : Nat → Nat → Bool} (h : SM T E w g m b) (o : Obj) : SM T E (w.alloc o) g m b := ⟨h.row.alloc o, fun i hi => (h.el i hi).alloc o⟩
theorem SM.drew {T E : TypeId} {w : World} {g m : Nat} {b : Nat → Nat → Bool} (h : SM T E w g m b) : SM T E w.drew g m b := ⟨h.row.drew, fun i hi => (h.el i hi).drew⟩
theorem SM.step {T E : TypeId} {w w' : World} {g m : Nat} {b : Nat → Nat → Bool} (h : SM T E w g m b) (hb : Below w.heap.size w w') : SM T E w' g m b := ⟨h.row.of_block (hb.block _ h.row.lt), fun i hi => (h.el i hi).of_block (hb.block _ (h.el i hi).lt)⟩
theorem SM.congr {T E : TypeId} {w : World} {g m : Nat} {b b' : Nat → Nat → Bool} (h : SM T E w g m b) (hb : ∀ i j, i < m → j < m → b i j = b' i j) : SM T E w g m b' := ⟨h.row, fun i hi => (h.el i hi).congr fun j hj => by rw [hb i j hi hj]⟩
theorem SM.set {T E : TypeId} {w : World} {g m : Nat} {b : Nat → Nat → Bool} (h : SM T E w g m b) (i j : Nat) (v : Bool) : SM T E (w.setCell ⟨g + 1 + i, j, none⟩ (.bool v)) g m (fun x y => if x = i ∧ y = j then v else b x y) := by
  refine ⟨h.row.setOther (by simp; omega) _, fun x hx => ?_⟩
  by_cases e : x = i
  · subst e
    refine ((h.el x hx).set j (.bool v)).congr fun y hy => ?_
    by_cases e2 : y = j <;> simp [e2]
  · refine ((h.el x hx).setOther (by simp; omega) _).congr fun y hy => ?_
    simp [e]
theorem SM.c1 {T E : TypeId} {w : World} {g m : Nat} {b : Nat → Nat → Bool} (h : SM T E w g m b) {i : Nat} (hi : i < m) : w.cell? ⟨g, i, none⟩ = some (.slice (some ⟨g + 1 + i, 0, none⟩) m m) := h.row.cell hi
theorem SM.c2 {T E : TypeId} {w : World} {g m : Nat} {b : Nat → Nat → Bool} (h : SM T E w g m b) {i j : Nat} (hi : i < m) (hj : j < m) : w.cell? ⟨g + 1 + i, j, none⟩ = some (.bool (b i j)) := (h.el i hi).cell hj
theorem SM.f2 {T E : TypeId} {w : World} {g m : Nat} {b : Nat → Nat → Bool} (h : SM T E w g m b) {i : Nat} (hi : i < m) (j : Nat) : w.frozen? ⟨g + 1 + i, j, none⟩ = false := (h.el i hi).frozen j
theorem SM.lt {T E : TypeId} {w : World} {g m : Nat} {b : Nat → Nat → Bool} (h : SM T E w g m b) {i : Nat} (hi : i < m) : g + 1 + i < w.heap.size := (h.el i hi).lt

/-- the rows made so far -/
structure SM0 (T E : TypeId) (w : World) (g m k : Nat) : Prop where
  row : w.rowIs g T m (fun i => if i < k then .slice (some ⟨g + 1 + i, 0, none⟩) m m else .slice none 0 0)
  el : ∀ i, i < k → w.rowIs (g + 1 + i) E m (fun _ => .bool false)
  size : w.heap.size = g + 1 + k
theorem SM0.step {T E : TypeId} {w : World} {g m k : Nat} (h : SM0 T E w g m k) : SM0 T E ((w.setCell ⟨g, k, none⟩ (.slice (some ⟨w.heap.size, 0, none⟩) m m)).alloc (.cells (madeCells #[.bool false] m) E)) g m (k + 1) := by
  have hs := h.size
  refine ⟨((h.row.set k _).alloc _).congr fun i hi => ?_, fun i hi => ?_, by simp; omega⟩
  · by_cases e : i = k
    · subst e; rw [if_pos rfl, if_pos (by omega), hs]
    · rw [if_neg e]
      by_cases e2 : i < k
      · rw [if_pos e2, if_pos (by omega)]
      · rw [if_neg e2, if_neg (by omega)]
  · by_cases e : i = k
    · subst e
      have := World.rowIs_made (w.setCell ⟨g, i, none⟩ (.slice (some ⟨w.heap.size, 0, none⟩) m m)) (.bool false) m E
      rw [World.size_setCell, hs] at this
      rw [hs]
      exact this
    · exact ((h.el i (by omega)).setOther (by simp; omega) _).alloc _


/-- what lies outside the matrix g, n stays -/
structure FrM (g n : Nat) (w w' : World) : Prop where
  low : Below g w w'
  high : ∀ b, g + n < b → b < w.heap.size → w'.heap[b]? = w.heap[b]?
theorem FrM.refl (g n : Nat) (w : World) : FrM g n w w := ⟨Below.refl _ _, fun _ _ _ => rfl⟩
theorem FrM.trans {g n : Nat} {a b c : World} (h : FrM g n a b) (k : FrM g n b c) : FrM g n a c :=
  ⟨h.low.trans k.low, fun q h1 h2 => (k.high q h1 (Nat.lt_of_lt_of_le h2 h.low.size)).trans (h.high q h1 h2)⟩
theorem FrM.below {g n : Nat} {a b c : World} (h : FrM g n a b) (k : Below b.heap.size b c) (hg : g ≤ b.heap.size) : FrM g n a c :=
  h.trans ⟨k.mono hg, fun q _ h2 => k.block q h2⟩
theorem FrM.set {g n i j : Nat} {a b : World} (h : FrM g n a b) (hi : i < n) (v : Value) : FrM g n a (b.setCell ⟨g + 1 + i, j, none⟩ v) :=
  ⟨h.low.setCell (p := ⟨g + 1 + i, j, none⟩) (by dsimp only; omega) v, fun q h1 h2 => (Below.heap_setCell _ _ _ _ (by dsimp only; omega)).trans (h.high q h1 h2)⟩
theorem FrM.tb {g n B : Nat} {a b : World} {T : TypeId} {h : Hd} (f : FrM g n a b) (t : TB T a B h) (hB : g + n < B) : TB T b B h := (f.high B hB t.lt).trans t
end Go.Proofs.YtafdpimkfkddaaaDoor
