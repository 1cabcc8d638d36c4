/-
  The edges of a term's graph, in order. Plain mathematics; and rows of edges in memory.
  Contract of the reference's DCount.
  A matrix of bools in memory, and what a writer of it lets stand.
  Contract of the reference's dmark: what each term adds to what is within it.
-/
import Derived.Test.YtipihchlhkjdjaaDoorPk24
import Derived.Test.YtipihchlhkjdjaaDoorPk23
import Derived.Deep.OwnRows
import Derived.Deep.CutRange
namespace Go.Proofs.YtipihchlhkjdjaaDoor
open Go.RowKit
set_option maxRecDepth 100000

/-- the edges from leaf i to leaves below j -/
def Tm.edI (T : Tm) (i j : Nat) : List (Int × Int) := ((List.range j).filter fun (k : Nat) => T.bef (i : Int) (k : Int)).map fun (k : Nat) => ((i : Int), (k : Int))
/-- the edges from leaves below i, and those from i to leaves below j -/
def Tm.edK (T : Tm) (i j : Nat) : List (Int × Int) := ((List.range i).flatMap fun i' => T.edI i' T.sz) ++ T.edI i j
/-- all edges -/
def Tm.eds (T : Tm) : List (Int × Int) := T.edK T.sz 0
theorem Tm.edI_succ (T : Tm) (i j : Nat) : T.edI i (j + 1) = T.edI i j ++ (if T.bef (i : Int) (j : Int) then [((i : Int), (j : Int))] else []) := by
  unfold Tm.edI
  rw [List.range_succ, List.filter_append, List.map_append]
  congr 1
  by_cases h : T.bef (i : Int) (j : Int) = true <;> simp [h]
theorem Tm.edK_succ (T : Tm) (i j : Nat) : T.edK i (j + 1) = T.edK i j ++ (if T.bef (i : Int) (j : Int) then [((i : Int), (j : Int))] else []) := by
  unfold Tm.edK
  rw [Tm.edI_succ, List.append_assoc]
theorem Tm.edK_yes (T : Tm) (i j : Nat) (h : T.bef (i : Int) (j : Int) = true) : T.edK i (j + 1) = T.edK i j ++ [((i : Int), (j : Int))] := by rw [Tm.edK_succ, if_pos h]
theorem Tm.edK_no (T : Tm) (i j : Nat) (h : T.bef (i : Int) (j : Int) = false) : T.edK i (j + 1) = T.edK i j := by rw [Tm.edK_succ, if_neg (by rw [h]; decide), List.append_nil]
theorem Tm.edI_low (T : Tm) (i : Nat) : ∀ j, j ≤ i + 1 → T.edI i j = []
  | 0, _ => rfl
  | j + 1, h => by
    rw [Tm.edI_succ, Tm.edI_low T i j (by omega), T.bef_out (i : Int) (j : Int) (by omega)]
    rfl
theorem Tm.edK_low (T : Tm) (i j : Nat) (h : j ≤ i + 1) : T.edK i j = T.edK i 0 := by
  unfold Tm.edK
  rw [Tm.edI_low T i j h, Tm.edI_low T i 0 (by omega)]
theorem Tm.edK_row (T : Tm) (i : Nat) : T.edK (i + 1) 0 = T.edK i T.sz := by
  unfold Tm.edK
  rw [List.range_succ, List.flatMap_append, Tm.edI_low T (i + 1) 0 (by omega), List.append_nil]
  simp
theorem Tm.edK_zero (T : Tm) : T.edK 0 0 = [] := rfl
theorem Tm.edI_len (T : Tm) (i : Nat) : ∀ j, (T.edI i j).length ≤ j
  | 0 => by simp [Tm.edI]
  | j + 1 => by
    rw [Tm.edI_succ, List.length_append]
    have := Tm.edI_len T i j
    split <;> simp <;> omega
theorem Tm.edK_len (T : Tm) (h : T.sz ≤ 200) : ∀ i j, i ≤ 200 → j ≤ 200 → (T.edK i j).length ≤ i * 200 + j := by
  intro i
  induction i with
  | zero =>
    intro j _ hj
    have := Tm.edI_len T 0 j
    unfold Tm.edK
    simp
    omega
  | succ i ih =>
    intro j hi hj
    have h1 := ih T.sz (by omega) h
    have h2 := Tm.edI_len T (i + 1) j
    have h3 : (T.edK (i + 1) j).length = (T.edK (i + 1) 0).length + (T.edI (i + 1) j).length := by
      unfold Tm.edK
      rw [List.length_append, List.length_append, Tm.edI_low T (i + 1) 0 (by omega)]
      simp
    rw [h3, Tm.edK_row]
    omega

theorem own_form2 {w : World} {base size n : Nat} {e : TypeId} {v : Value} {xs : List Value} (h : w.ownsRow base e size v n xs) : ∃ A cap, v = .slice A n cap := by
  rcases h.2 with ⟨rfl, rfl⟩ | ⟨g, cap, cur, hv, _⟩
  · exact ⟨_, _, rfl⟩
  · exact ⟨_, _, hv⟩

/-- the cells of a list of edges -/
def edV (l : List (Int × Int)) : List Value := l.flatMap fun e => [.int .i64 e.1, .int .i64 e.2]
theorem edV_snoc (l : List (Int × Int)) (x y : Int) : edV (l ++ [(x, y)]) = edV l ++ [.int .i64 x, .int .i64 y] := by simp [edV]

theorem Tryd.infoEdP : ∃ i0, Tryd.prog.info? 36 = some i0 ∧ i0.zero = some (.agg #[.int .i64 0, .int .i64 0]) ∧ i0.size = 2 ∧ i0.bytes = 16 := by
  have h : (Tryd.prog.info? 36).map (fun i => (i.zero, i.size, i.bytes)) = some (some (.agg #[.int .i64 0, .int .i64 0]), 2, 16) := by kernel_rfl
  obtain ⟨i0, hi, hii⟩ := Option.map_eq_some_iff.1 h
  simp only [Prod.mk.injEq] at hii
  exact ⟨i0, hi, hii⟩

/-- block B holds a graph: its nodes, its edges -/
def GrB (w : World) (B : Nat) (x : Int) (v : Value) : Prop := w.heap[B]? = some (.cells #[.int .i64 x, v] 24 (0, 0))
section
variable {w w' : World} {B : Nat} {x : Int} {v : Value}
theorem GrB.lt (h : GrB w B x v) : B < w.heap.size := (Array.getElem?_eq_some_iff.1 h).1
theorem GrB.n (h : GrB w B x v) : w.cell? ⟨B, 0, none⟩ = some (.int .i64 x) := by simp [World.cell?, show w.heap[B]? = _ from h]
theorem GrB.e (h : GrB w B x v) : w.cell? ⟨B, 1, none⟩ = some v := by simp [World.cell?, show w.heap[B]? = _ from h]
theorem GrB.frozen (h : GrB w B x v) (o : Nat) : w.frozen? ⟨B, o, none⟩ = false := by simp [World.frozen?, show w.heap[B]? = _ from h]
theorem GrB.kept {row : Option Nat} (h : GrB w B x v) (hg : w.grownBy w' row) (hne : some B ≠ row) : GrB w' B x v := (hg.block B h.lt hne).trans h
theorem GrB.alloc (h : GrB w B x v) (o : Obj) : GrB (w.alloc o) B x v := h.kept (World.grownBy_alloc w o none) (by simp)
theorem GrB.set (v' : Value) (h : GrB w B x v) : GrB (w.setCell ⟨B, 1, none⟩ v') B x v' := heap_set_in h v'
theorem GrB.set0 (x' : Int) (h : GrB w B x v) : GrB (w.setCell ⟨B, 0, none⟩ (.int .i64 x')) B x' v := heap_set_in h _
theorem GrB.ne {B' i : Nat} (h : GrB w B x v) (hne : B ≠ B') (u : Value) : GrB (w.setCell ⟨B', i, none⟩ u) B x v := (Below.heap_setCell _ _ _ _ hne).trans h
theorem GrB.not_row {e : TypeId} {base size k : Nat} {u : Value} {xs : List Value} (h : GrB w B x v) (hte : 24 ≠ e) (hr : w.ownsRow base e size u k xs) : some B ≠ u.ownBlock := by
  rcases hr.2 with ⟨rfl, _⟩ | ⟨g, cap, cur, rfl, _, hgb, _⟩
  · simp [Value.ownBlock]
  · intro e'
    obtain rfl : B = g := by simpa [Value.ownBlock] using e'
    have := (show w.heap[B]? = _ from h).symm.trans hgb
    simp at this
    exact hte this.2
end
end Go.Proofs.YtipihchlhkjdjaaDoor

namespace Go.Proofs.YtipihchlhkjdjaaDoor
open Go.RowKit
set_option maxRecDepth 100000

theorem dc_mul (a b : Nat) : Ending.returned (.int .u64 (IntKind.u64.wrap (((a % 18446744073709551616 : Nat) : Int) * ((b % 18446744073709551616 : Nat) : Int)))) = .returned (.int .u64 ((a * b % 18446744073709551616 : Nat) : Int)) := by
  rw [u64_wrap, hM64, ← Int.natCast_mul, ← Int.natCast_emod, ← Nat.mul_mod]
theorem dc_mul3 (a b c : Nat) : Ending.returned (.int .u64 (IntKind.u64.wrap (IntKind.u64.wrap (((a % 18446744073709551616 : Nat) : Int) * ((b % 18446744073709551616 : Nat) : Int)) * ((c % 18446744073709551616 : Nat) : Int)))) = .returned (.int .u64 ((a * b * c % 18446744073709551616 : Nat) : Int)) := by
  rw [u64_wrap, u64_wrap, hM64, ← Int.natCast_mul, ← Int.natCast_emod, ← Int.natCast_mul, ← Int.natCast_emod, ← Nat.mul_mod, Nat.mul_mod (a % 18446744073709551616 * (b % 18446744073709551616)), ← Nat.mul_mod a b, ← Nat.mul_mod]

end Go.Proofs.YtipihchlhkjdjaaDoor

namespace Go.Proofs.YtipihchlhkjdjaaDoor
open Go.RowKit Go.Deep
set_option maxRecDepth 100000

theorem Tryd.infoRowB : (Tryd.prog.info? 73).map (fun i => (i.zero, i.size, i.bytes)) = some (some (.slice none 0 0), 1, 24) := by kernel_rfl
theorem Tryd.infoBoolB : (Tryd.prog.info? 4).map (fun i => (i.zero, i.size, i.bytes)) = some (some (.bool false), 1, 1) := by kernel_rfl

/-- a matrix of bools: block g holds the rows, row i lies in block g + 1 + i -/
structure SM (T E : TypeId) (w : World) (g m : Nat) (b : Nat → Nat → Bool) : Prop where
  row : w.rowIs g T m (fun i => .slice (some ⟨g + 1 + i, 0, none⟩) m m)
  el : ∀ i, i < m → w.rowIs (g + 1 + i) E m (fun j => .bool (b i j))
theorem SM.alloc {T E : TypeId} {w : World} {g m : Nat} {b : Nat → Nat → Bool} (h : SM T E w g m b) (o : Obj) : SM T E (w.alloc o) g m b := ⟨h.row.alloc o, fun i hi => (h.el i hi).alloc o⟩
theorem SM.drew {T E : TypeId} {w : World} {g m : Nat} {b : Nat → Nat → Bool} (h : SM T E w g m b) : SM T E w.drew g m b := ⟨h.row.drew, fun i hi => (h.el i hi).drew⟩
theorem SM.step {T E : TypeId} {w w' : World} {g m : Nat} {b : Nat → Nat → Bool} (h : SM T E w g m b) (hb : Below w.heap.size w w') : SM T E w' g m b := ⟨h.row.of_block (hb.block _ h.row.lt), fun i hi => (h.el i hi).of_block (hb.block _ (h.el i hi).lt)⟩
theorem SM.congr {T E : TypeId} {w : World} {g m : Nat} {b b' : Nat → Nat → Bool} (h : SM T E w g m b) (hb : ∀ i j, i < m → j < m → b i j = b' i j) : SM T E w g m b' := ⟨h.row, fun i hi => (h.el i hi).congr fun j hj => by rw [hb i j hi hj]⟩
theorem SM.set {T E : TypeId} {w : World} {g m : Nat} {b : Nat → Nat → Bool} (h : SM T E w g m b) (i j : Nat) (v : Bool) : SM T E (w.setCell ⟨g + 1 + i, j, none⟩ (.bool v)) g m (fun x y => if x = i ∧ y = j then v else b x y) := by
  refine ⟨h.row.setOther (by simp; omega) _, fun x hx => ?_⟩
  by_cases e : x = i
  · subst e
    refine ((h.el x hx).set j (.bool v)).congr fun y hy => ?_
    by_cases e2 : y = j <;> simp [e2]
  · refine ((h.el x hx).setOther (by simp; omega) _).congr fun y hy => ?_
    simp [e]
theorem SM.c1 {T E : TypeId} {w : World} {g m : Nat} {b : Nat → Nat → Bool} (h : SM T E w g m b) {i : Nat} (hi : i < m) : w.cell? ⟨g, i, none⟩ = some (.slice (some ⟨g + 1 + i, 0, none⟩) m m) := h.row.cell hi
theorem SM.c2 {T E : TypeId} {w : World} {g m : Nat} {b : Nat → Nat → Bool} (h : SM T E w g m b) {i j : Nat} (hi : i < m) (hj : j < m) : w.cell? ⟨g + 1 + i, j, none⟩ = some (.bool (b i j)) := (h.el i hi).cell hj
theorem SM.f2 {T E : TypeId} {w : World} {g m : Nat} {b : Nat → Nat → Bool} (h : SM T E w g m b) {i : Nat} (hi : i < m) (j : Nat) : w.frozen? ⟨g + 1 + i, j, none⟩ = false := (h.el i hi).frozen j
theorem SM.lt {T E : TypeId} {w : World} {g m : Nat} {b : Nat → Nat → Bool} (h : SM T E w g m b) {i : Nat} (hi : i < m) : g + 1 + i < w.heap.size := (h.el i hi).lt

/-- the rows made so far -/
structure SM0 (T E : TypeId) (w : World) (g m k : Nat) : Prop where
  row : w.rowIs g T m (fun i => if i < k then .slice (some ⟨g + 1 + i, 0, none⟩) m m else .slice none 0 0)
  el : ∀ i, i < k → w.rowIs (g + 1 + i) E m (fun _ => .bool false)
  size : w.heap.size = g + 1 + k
theorem SM0.step {T E : TypeId} {w : World} {g m k : Nat} (h : SM0 T E w g m k) : SM0 T E ((w.setCell ⟨g, k, none⟩ (.slice (some ⟨w.heap.size, 0, none⟩) m m)).alloc (.cells (madeCells #[.bool false] m) E)) g m (k + 1) := by
  have hs := h.size
  refine ⟨((h.row.set k _).alloc _).congr fun i hi => ?_, fun i hi => ?_, by simp; omega⟩
  · by_cases e : i = k
    · subst e; rw [if_pos rfl, if_pos (by omega), hs]
    · rw [if_neg e]
      by_cases e2 : i < k
      · rw [if_pos e2, if_pos (by omega)]
      · rw [if_neg e2, if_neg (by omega)]
  · by_cases e : i = k
    · subst e
      have := World.rowIs_made (w.setCell ⟨g, i, none⟩ (.slice (some ⟨w.heap.size, 0, none⟩) m m)) (.bool false) m E
      rw [World.size_setCell, hs] at this
      rw [hs]
      exact this
    · exact ((h.el i (by omega)).setOther (by simp; omega) _).alloc _


/-- what lies outside the matrix g, n stays -/
structure FrM (g n : Nat) (w w' : World) : Prop where
  low : Below g w w'
  high : ∀ b, g + n < b → b < w.heap.size → w'.heap[b]? = w.heap[b]?
theorem FrM.refl (g n : Nat) (w : World) : FrM g n w w := ⟨Below.refl _ _, fun _ _ _ => rfl⟩
theorem FrM.trans {g n : Nat} {a b c : World} (h : FrM g n a b) (k : FrM g n b c) : FrM g n a c :=
  ⟨h.low.trans k.low, fun q h1 h2 => (k.high q h1 (Nat.lt_of_lt_of_le h2 h.low.size)).trans (h.high q h1 h2)⟩
theorem FrM.below {g n : Nat} {a b c : World} (h : FrM g n a b) (k : Below b.heap.size b c) (hg : g ≤ b.heap.size) : FrM g n a c :=
  h.trans ⟨k.mono hg, fun q _ h2 => k.block q h2⟩
theorem FrM.set {g n i j : Nat} {a b : World} (h : FrM g n a b) (hi : i < n) (v : Value) : FrM g n a (b.setCell ⟨g + 1 + i, j, none⟩ v) :=
  ⟨h.low.setCell (p := ⟨g + 1 + i, j, none⟩) (by dsimp only; omega) v, fun q h1 h2 => (Below.heap_setCell _ _ _ _ (by dsimp only; omega)).trans (h.high q h1 h2)⟩
theorem FrM.tb {g n B : Nat} {a b : World} {T : TypeId} {h : Hd} (f : FrM g n a b) (t : TB T a B h) (hB : g + n < B) : TB T b B h := (f.high B hB t.lt).trans t
end Go.Proofs.YtipihchlhkjdjaaDoor

namespace Go.Proofs.YtipihchlhkjdjaaDoor
open Go.RowKit
set_option maxRecDepth 100000

/-- who is ahead of whom in T, whose leaves are numbered from f -/
def Tm.befF (T : Tm) (f x y : Nat) : Bool := T.bef ((x : Int) - f) ((y : Int) - f)
theorem Tm.befF_seq (L R : Tm) (f x y : Nat) : (Tm.seq L R).befF f x y = (L.befF f x y || R.befF (f + L.sz) x y || (decide (f ≤ x ∧ x < f + L.sz) && decide (f + L.sz ≤ y ∧ y < f + L.sz + R.sz))) := by
  unfold Tm.befF
  simp only [Tm.bef]
  rw [show (x : Int) - ((f + L.sz : Nat) : Int) = (x : Int) - f - L.sz by omega, show (y : Int) - ((f + L.sz : Nat) : Int) = (y : Int) - f - L.sz by omega]
  generalize L.bef ((x : Int) - f) ((y : Int) - f) = p
  generalize R.bef ((x : Int) - f - L.sz) ((y : Int) - f - L.sz) = q
  have e : (decide (0 ≤ (x : Int) - f) && decide ((x : Int) - f < (L.sz : Int)) && decide ((L.sz : Int) ≤ (y : Int) - f) && decide ((y : Int) - f < (L.sz : Int) + R.sz)) = (decide (f ≤ x ∧ x < f + L.sz) && decide (f + L.sz ≤ y ∧ y < f + L.sz + R.sz)) := by
    rw [Bool.eq_iff_iff]
    simp only [Bool.and_eq_true, decide_eq_true_eq]
    omega
  rw [e]
  generalize (decide (f ≤ x ∧ x < f + L.sz) && decide (f + L.sz ≤ y ∧ y < f + L.sz + R.sz)) = z
  cases p <;> cases q <;> cases z <;> rfl
theorem Tm.befF_par (L R : Tm) (f x y : Nat) : (Tm.par L R).befF f x y = (L.befF f x y || R.befF (f + L.sz) x y) := by
  unfold Tm.befF
  simp only [Tm.bef]
  rw [show (x : Int) - ((f + L.sz : Nat) : Int) = (x : Int) - f - L.sz by omega, show (y : Int) - ((f + L.sz : Nat) : Int) = (y : Int) - f - L.sz by omega]

theorem ret_int {a b : Int} (h : a = b) : Ending.returned (.int .i64 a) = .returned (.int .i64 b) := by rw [h]
/-- the walk stands still here -/
def Halted (p : Prop) : Prop := p
theorem Halted.mk {p : Prop} (h : Halted p) : p := h

end Go.Proofs.YtipihchlhkjdjaaDoor
