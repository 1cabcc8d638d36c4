/-
  The edges of a term's graph, in order. Plain mathematics; and rows of edges in memory.
-/
import Derived.Test.YtafdpimkfkddaaaDoorSpMs
namespace Go.Proofs.YtafdpimkfkddaaaDoor
open Go.RowKit
set_option maxRecDepth 100000

/-- the edges from leaf i to leaves below j -/
def Tm.edI (T : Tm) (i j : Nat) : List (Int × Int) := ((List.range j).filter fun (k : Nat) => T.bef (i : Int) (k : Int)).map fun (k : Nat) => ((i : Int), (k : Int))
/-- the edges from leaves below i, and those from i to leaves below j -/
def Tm.edK (T : Tm) (i j : Nat) : List (Int × Int) := ((List.range i).flatMap fun i' => T.edI i' T.sz) ++ T.edI i j
/-- all edges -/
def Tm.eds (T : Tm) : List (Int × Int) := T.edK T.sz 0
theorem Tm.edI_succ (T : Tm) (i j : Nat) : T.edI i (j + 1) = T.edI i j ++ (if T.bef (i : Int) (j : Int) then [((i : Int), (j : Int))] else []) := by
  unfold Tm.edI
  rw [List.range_succ, List.filter_append, List.map_append]
  congr 1
  by_cases h : T.bef (i : Int) (j : Int) = true <;> simp [h]
theorem Tm.edK_succ (T : Tm) (i j : Nat) : T.edK i (j + 1) = T.edK i j ++ (if T.bef (i : Int) (j : Int) then [((i : Int), (j : Int))] else []) := by
  unfold Tm.edK
  rw [Tm.edI_succ, List.append_assoc]
theorem Tm.edK_yes (T : Tm) (i j : Nat) (h : T.bef (i : Int) (j : Int) = true) : T.edK i (j + 1) = T.edK i j ++ [((i : Int), (j : Int))] := by rw [Tm.edK_succ, if_pos h]
theorem Tm.edK_no (T : Tm) (i j : Nat) (h : T.bef (i : Int) (j : Int) = false) : T.edK i (j + 1) = T.edK i j := by rw [Tm.edK_succ, if_neg (by rw [h]; decide), List.append_nil]
theorem Tm.edI_low (T : Tm) (i : Nat) : ∀ j, j ≤ i + 1 → T.edI i j = []
  | 0, _ => rfl
  | j + 1, h => by
    rw [Tm.edI_succ, Tm.edI_low T i j (by omega), T.bef_out (i : Int) (j : Int) (by omega)]
    rfl
theorem Tm.edK_low (T : Tm) (i j : Nat) (h : j ≤ i + 1) : T.edK i j = T.edK i 0 := by
  unfold Tm.edK
  rw [Tm.edI_low T i j h, Tm.edI_low T i 0 (by omega)]
theorem Tm.edK_row (T : Tm) (i : Nat) : T.edK (i + 1) 0 = T.edK i T.sz := by
  unfold Tm.edK
  rw [List.range_succ, List.flatMap_append, Tm.edI_low T (i + 1) 0 (by omega), List.append_nil]
  simp
theorem Tm.edK_zero (T : Tm) : T.edK 0 0 = [] := rfl
theorem Tm.edI_len (T : Tm) (i : Nat) : ∀ j, (T.edI i j).length ≤ j
  | 0 => by simp [Tm.edI]
  | j + 1 => by
    rw [Tm.edI_succ, List.length_append]
    have := Tm.edI_len T i j
    split <;> simp <;> omega
theorem Tm.edK_len (T : Tm) (h : T.sz ≤ 200) : ∀ i j, i ≤ 200 → j ≤ 200 → (T.edK i j).length ≤ i * 200 + j := by
  intro i
  induction i with
  | zero =>
    intro j _ hj
    have := Tm.edI_len T 0 j
    unfold Tm.edK
    simp
    omega
  | succ i ih =>
    intro j hi hj
    have h1 := ih T.sz (by omega) h
    have h2 := Tm.edI_len T (i + 1) j
    have h3 : (T.edK (i + 1) j).length = (T.edK (i + 1) 0).length + (T.edI (i + 1) j).length := by
      unfold Tm.edK
      rw [List.length_append, List.length_append, Tm.edI_low T (i + 1) 0 (by omega)]
      simp
    rw [h3, Tm.edK_row]
    omega

theorem own_form2 {w : World} {base size n : Nat} {e : TypeId} {v : Value} {xs : List Value} (h : w.ownsRow base e size v n xs) : ∃ A cap, v = .slice A n cap := by
  rcases h.2 with ⟨rfl, rfl⟩ | ⟨g, cap, cur, hv, _⟩
  · exact ⟨_, _, rfl⟩
  · exact ⟨_, _, hv⟩

/-- the cells of a list of edges -/
def edV (l : List (Int × Int)) : List Value := l.flatMap fun e => [.int .i64 e.1, .int .i64 e.2]
theorem edV_snoc (l : List (Int × Int)) (x y : Int) : edV (l ++ [(x, y)]) = edV l ++ [.int .i64 x, .int .i64 y] := by simp [edV]

theorem Tryd.infoEdP : ∃ i0, Tryd.prog.info? 56 = some i0 ∧ i0.zero = some (.agg #[.int .i64 0, .int .i64 0]) ∧ i0.size = 2 ∧ i0.bytes = 16 := by
  have h : (Tryd.prog.info? 56).map (fun i => (i.zero, i.size, i.bytes)) = some (some (.agg #[.int .i64 0, .int .i64 0]), 2, 16) := by kernel_rfl
  obtain ⟨i0, hi, hii⟩ := Option.map_eq_some_iff.1 h
  simp only [Prod.mk.injEq] at hii
  exact ⟨i0, hi, hii⟩

/-- block B holds a graph: its nodes, its edges -/
def GrB (w : World) (B : Nat) (x : Int) (v : Value) : Prop := w.heap[B]? = some (.cells #[.int .i64 x, v] 29 (0, 0))
section
variable {w w' : World} {B : Nat} {x : Int} {v : Value}
theorem GrB.lt (h : GrB w B x v) : B < w.heap.size := (Array.getElem?_eq_some_iff.1 h).1
theorem GrB.n (h : GrB w B x v) : w.cell? ⟨B, 0, none⟩ = some (.int .i64 x) := by simp [World.cell?, show w.heap[B]? = _ from h]
theorem GrB.e (h : GrB w B x v) : w.cell? ⟨B, 1, none⟩ = some v := by simp [World.cell?, show w.heap[B]? = _ from h]
theorem GrB.frozen (h : GrB w B x v) (o : Nat) : w.frozen? ⟨B, o, none⟩ = false := by simp [World.frozen?, show w.heap[B]? = _ from h]
theorem GrB.kept {row : Option Nat} (h : GrB w B x v) (hg : w.grownBy w' row) (hne : some B ≠ row) : GrB w' B x v := (hg.block B h.lt hne).trans h
theorem GrB.alloc (h : GrB w B x v) (o : Obj) : GrB (w.alloc o) B x v := h.kept (World.grownBy_alloc w o none) (by simp)
theorem GrB.set (v' : Value) (h : GrB w B x v) : GrB (w.setCell ⟨B, 1, none⟩ v') B x v' := heap_set_in h v'
theorem GrB.set0 (x' : Int) (h : GrB w B x v) : GrB (w.setCell ⟨B, 0, none⟩ (.int .i64 x')) B x' v := heap_set_in h _
theorem GrB.ne {B' i : Nat} (h : GrB w B x v) (hne : B ≠ B') (u : Value) : GrB (w.setCell ⟨B', i, none⟩ u) B x v := (Below.heap_setCell _ _ _ _ hne).trans h
theorem GrB.not_row {e : TypeId} {base size k : Nat} {u : Value} {xs : List Value} (h : GrB w B x v) (hte : 29 ≠ e) (hr : w.ownsRow base e size u k xs) : some B ≠ u.ownBlock := by
  rcases hr.2 with ⟨rfl, _⟩ | ⟨g, cap, cur, rfl, _, hgb, _⟩
  · simp [Value.ownBlock]
  · intro e'
    obtain rfl : B = g := by simpa [Value.ownBlock] using e'
    have := (show w.heap[B]? = _ from h).symm.trans hgb
    simp at this
    exact hte this.2
end
end Go.Proofs.YtafdpimkfkddaaaDoor
