/-
  Rows that may grow, in a row of rows: all of them lie from a block on, the row of rows anywhere.
  A region that draws its order, by what holds behind each of its operations in whatever order they came: one step an operation, not one way an order.
  greedy: the schedule is laid in memory: the first statement (two new rows and the box, in whatever order they are made).
  Contract of greedy.Rounds.
-/
import Derived.Test.YtipihchlhkjdjaaDoorPk12
import Derived.Deep.AppendLies
import Derived.Test.YtipihchlhkjdjaaDoorPk09
import Derived.Deep.RegionHeld3
import Derived.Deep.CutRange
import Derived.Laws.EntriesVeiled
import Derived.Laws.IdiomCopy
import Derived.Maps.AppendAt
namespace Go.Proofs.YtipihchlhkjdjaaDoor
open Go.RowKit
set_option maxRecDepth 100000

def EndsD (T E : TypeId) (w : World) (D ge n : Nat) (f : Nat → List Int) : Prop := ∃ hdr : Nat → Value, w.rowIs ge T n hdr ∧
  (∀ i, i < n → w.ownsRow D E 1 (hdr i) (f i).length (iVals (f i))) ∧ (∀ i j, i < n → j < n → i ≠ j → ∀ b, (hdr i).ownBlock = some b → (hdr j).ownBlock ≠ some b)
theorem EndsD.nil {T : TypeId} (E : TypeId) {w : World} (D : Nat) {ge n : Nat} (h : w.rowIs ge T n (fun _ => .slice none 0 0)) : EndsD T E w D ge n (fun _ => []) :=
  ⟨fun _ => .slice none 0 0, h, fun _ _ => World.ownsRow_nil _ _ _ _, fun _ _ _ _ _ b h => by simp [Value.ownBlock] at h⟩
theorem EndsD.lt {T E : TypeId} {w : World} {D ge n : Nat} {f : Nat → List Int} (h : EndsD T E w D ge n f) : ge < w.heap.size := by obtain ⟨hdr, h1, _⟩ := h; exact h1.lt
theorem EndsD.keep {T E : TypeId} {w w' : World} {D ge n : Nat} {f : Nat → List Int} {p : Nat → Prop} (h : EndsD T E w D ge n f) (hk : Keeps p w w') (hp : p ge) (hq : ∀ b, D ≤ b → p b) : EndsD T E w' D ge n f := by
  obtain ⟨hdr, h1, h2, h3⟩ := h
  exact ⟨hdr, rowIs_keep h1 hk hp, fun i hi => own_keep (h2 i hi) hk fun k e => hq k ((h2 i hi).lt k e).1, h3⟩
theorem EndsD.at_ {T E : TypeId} {w : World} {D ge n : Nat} {f : Nat → List Int} (h : EndsD T E w D ge n f) (hTE : E ≠ T) {x : Nat} (hx : x < n) :
    ∃ v A c, v = .slice A (f x).length c ∧ w.cell? ⟨ge, x, none⟩ = some v ∧ w.frozen? ⟨ge, x, none⟩ = false ∧ w.ownsRow D E 1 v (f x).length (iVals (f x)) ∧ ge < w.heap.size ∧ v.ownBlock ≠ some ge ∧
      ∀ (tmp : Obj) (y : Int) (v' : Value) (w1 : World), w1.ownsRow D E 1 v' ((f x).length + 1) (iVals (f x) ++ [.int .i64 y]) → (w.alloc tmp).drew.grownBy w1 v.ownBlock → (∀ b, v'.ownBlock = some b → v.ownBlock = some b ∨ b = w.heap.size + 1) →
        EndsD T E (w1.setCell ⟨ge, x, none⟩ v') D ge n (fun i => if i = x then f x ++ [y] else f i) := by
  obtain ⟨hdr, h1, h3, h4⟩ := h
  obtain ⟨A, c, hv⟩ := own_any (h3 x hx)
  refine ⟨hdr x, A, c, hv, h1.cell hx, h1.frozen x, h3 x hx, h1.lt, own_ne_row (h3 x hx) h1 hTE, ?_⟩
  intro tmp y v' w1 hown hg hat
  have hgx := own_ne_row (h3 x hx) h1 hTE
  have h1a : (w.alloc tmp).drew.rowIs ge T n hdr := h1.alloc tmp
  have h1w : w1.rowIs ge T n hdr := rowIs_grown h1a hg (fun e => hgx e.symm)
  have hnv : v'.ownBlock ≠ some ge := own_ne_row hown h1w hTE
  have hlt : ∀ i, i < n → ∀ b, (hdr i).ownBlock = some b → b < w.heap.size := fun i hi b hb => ((h3 i hi).lt b hb).2
  refine ⟨fun i => if i = x then v' else hdr i, h1w.set x v', fun i hi => ?_, fun i j hi hj hij b hb => ?_⟩
  · by_cases e : i = x
    · subst e
      dsimp only
      rw [if_pos rfl, if_pos rfl]
      have := hown.kept (grownBy_setCell w1 ⟨ge, i, none⟩ v') (.inr hnv)
      rw [iVals_snoc] at this
      simpa using this
    · dsimp only
      rw [if_neg e, if_neg e]
      have hi1 : (w.alloc tmp).drew.ownsRow D E 1 (hdr i) (f i).length (iVals (f i)) := (h3 i hi).alloc tmp
      have hi2 : w1.ownsRow D E 1 (hdr i) (f i).length (iVals (f i)) := hi1.kept hg (by
        cases h5 : (hdr i).ownBlock with
        | none => exact .inl rfl
        | some g' => exact .inr fun e' => h4 i x hi hx e g' h5 e'.symm)
      exact hi2.kept (grownBy_setCell w1 ⟨ge, x, none⟩ v') (.inr (own_ne_row hi2 h1w hTE))
  · dsimp only at hb ⊢
    by_cases e1 : i = x
    · subst e1
      rw [if_pos rfl] at hb
      rw [if_neg (fun e => hij e.symm)]
      intro hb2
      rcases hat b hb with h | h
      · exact h4 i j hi hj hij b h hb2
      · have := hlt j hj b hb2; omega
    · rw [if_neg e1] at hb
      by_cases e2 : j = x
      · subst e2
        rw [if_pos rfl]
        intro hb2
        rcases hat b hb2 with h | h
        · exact h4 i j hi hj hij b hb h
        · have := hlt i hi b hb; omega
      · rw [if_neg e2]
        exact h4 i j hi hj hij b hb
theorem EndsD.rd {T E : TypeId} {w : World} {D ge n : Nat} {f : Nat → List Int} (h : EndsD T E w D ge n f) (hf : ∀ i, i < n → (f i).length ≤ 1152921504606846976 ∧ ∀ k, -9223372036854775808 ≤ zd (f i) k ∧ zd (f i) k ≤ 9223372036854775807) :
    ∃ (a : Nat → Option Addr) (c : Nat → Nat), w.rowIs ge T n (fun i => .slice (a i) (f i).length (c i)) ∧ ∀ i, i < n → RdJ w (fun b => D ≤ b) (a i) (f i) := by
  obtain ⟨hdr, h1, h3, h4⟩ := h
  have h5 : ∀ i, ∃ Ac : Option Addr × Nat, i < n → hdr i = .slice Ac.1 (f i).length Ac.2 ∧ RdJ w (fun b => D ≤ b) Ac.1 (f i) := fun i => by
    by_cases hi : i < n
    · obtain ⟨A, c, hv⟩ := own_any (h3 i hi)
      refine ⟨(A, c), fun _ => ⟨hv, fun k => ((hf i hi).2 k).1, fun k => ((hf i hi).2 k).2, (hf i hi).1, fun hn => ?_⟩⟩
      obtain ⟨g, cap, hv2, hb, hg⟩ := own_shape (h3 i hi) hn
      have hA : A = some ⟨g, 0, none⟩ := by rw [hv2] at hv; injection hv with hA; exact hA.symm
      refine ⟨g, 0, hA, hb, hg, fun k hk => ?_⟩
      have h6 := h3 i hi
      rw [hv2] at h6
      rw [Nat.zero_add, h6.cellAt k (by omega)]
      exact iVals_at (f i) k hk
    · exact ⟨(none, 0), fun h => absurd h hi⟩
  exact ⟨fun i => (h5 i).choose.1, fun i => (h5 i).choose.2, h1.congr fun i hi => ((h5 i).choose_spec hi).1, fun i hi => ((h5 i).choose_spec hi).2⟩
end Go.Proofs.YtipihchlhkjdjaaDoor

namespace Go.Proofs.YtipihchlhkjdjaaDoor

section
variable {P : Program} {ops : Array Oper} {Q : Exit → Act → World → Prop} {md : Region.Mode} {S : World → Prop}
/-- how many of n have not come up -/
def leftN (n : Nat) (listed : Array Bool) : Nat := ((List.range n).filter fun i => !listed.getD i true).length
theorem leftN_set {n i : Nat} {listed : Array Bool} (h : i < n) (hf : listed.getD i true = false) : leftN n (listed.setIfInBounds i true) < leftN n listed := by
  have hlt : i < listed.size := by
    rcases Nat.lt_or_ge i listed.size with h' | h'
    · exact h'
    · simp [Array.getElem?_eq_none h'] at hf
  have key : ∀ j, (listed.setIfInBounds i true).getD j true = if j = i then true else listed.getD j true := fun j => by
    by_cases e : j = i
    · subst e
      rw [if_pos rfl]
      simp [hlt]
    · rw [if_neg e]
      exact getD_set_ne true (Ne.symm e)
  unfold leftN
  induction n with
  | zero => omega
  | succ n ih =>
    rw [List.range_succ, List.filter_append, List.filter_append, List.length_append, List.length_append]
    by_cases e : i = n
    · subst e
      have h1 : (List.range i).filter (fun j => !(listed.setIfInBounds i true).getD j true) = (List.range i).filter (fun j => !listed.getD j true) :=
        List.filter_congr fun j hj => by rw [key, if_neg (by have := List.mem_range.1 hj; omega)]
      rw [h1]
      simp only [List.filter_cons, List.filter_nil, key, if_true, hf]
      simp
    · have h2 := ih (by omega)
      have h3 : ([n].filter fun j => !(listed.setIfInBounds i true).getD j true) = [n].filter fun j => !listed.getD j true :=
        List.filter_congr fun j hj => by rw [List.mem_singleton.1 hj, key, if_neg (by omega)]
      rw [h3]
      omega
theorem leftN_zero {listed : Array Bool} (h : leftN ops.size listed = 0) : Region.ready md ops listed = [] := by
  rw [List.eq_nil_iff_forall_not_mem]
  intro j hj
  obtain ⟨h1, o, ho, _⟩ := mem_ready.1 hj
  have hlt : j < ops.size := (Array.getElem?_eq_some_iff.1 ho).1
  have : j ∈ (List.range ops.size).filter fun i => !listed.getD i true := List.mem_filter.2 ⟨List.mem_range.2 hlt, by rw [h1]; rfl⟩
  unfold leftN at h
  rw [List.length_eq_zero_iff.1 h] at this
  cases this
/-- ONE STEP AN OPERATION: what holds behind each one holds whatever came between -/
theorem wpAnyH_inv {I : Array Bool → Act → World → Prop}
    (hstep : ∀ listed a w, I listed a w → ∀ i o, ops[i]? = some o → listed.getD i true = false → (∀ e ∈ o.after, Region.binds md e = true → listed.getD e.on false = true) →
      ∀ K' : Act → World → Prop, Shut (∀ a' w', S w' → I (listed.setIfInBounds i true) a' w' → K' a' w') → if Region.wanted o (yielded ops a.tmps) = true then Oper.wp P o a w K' Q else K' (a.put o.dst undef) w)
    (hend : ∀ listed a w, I listed a w → Region.ready md ops listed = [] → Q .normal a w) :
    ∀ (fuel : Nat) (listed : Array Bool) (a : Act) (w : World), leftN ops.size listed ≤ fuel → I listed a w → wpAnyH P md ops Q S fuel listed a w
  | 0, listed, a, w, hl, hI => by
    have hr := leftN_zero (md := md) (ops := ops) (listed := listed) (by omega)
    exact ⟨hr, hend _ _ _ hI hr⟩
  | fuel + 1, listed, a, w, hl, hI => by
    refine ⟨fun hr => hend _ _ _ hI hr, fun i hi => ?_⟩
    obtain ⟨hf, o, ho, ha⟩ := mem_ready.1 hi
    have hlt : i < ops.size := (Array.getElem?_eq_some_iff.1 ho).1
    refine wpOp_step ho fun K' hK => hstep listed a w hI i o ho hf ha K' fun a' w' hS hI' => hK a' w' ⟨hS, ?_⟩
    have := leftN_set hlt hf
    exact wpAnyH_inv hstep hend fuel _ a' w' (by omega) hI'
/-- where none may come up, one that waits for none that is left has come up -/
theorem came_up {listed : Array Bool} {i : Nat} {o : Oper} (hr : Region.ready md ops listed = []) (ho : ops[i]? = some o) (ha : ∀ e ∈ o.after, Region.binds md e = true → listed.getD e.on false = true) : listed.getD i true = true := by
  cases h : listed.getD i true with
  | true => rfl
  | false =>
    have : i ∈ Region.ready md ops listed := mem_ready.2 ⟨h, o, ho, ha⟩
    rw [hr] at this
    cases this
theorem came_up' {listed : Array Bool} {i : Nat} {o : Oper} (hr : Region.ready md ops listed = []) (ho : ops[i]? = some o) (ha : (o.after.toList.all fun e => !Region.binds md e || listed.getD e.on false) = true) : listed.getD i true = true :=
  came_up hr ho fun e he hb => by
    have := List.all_eq_true.1 ha e (by simpa using he)
    rw [hb] at this
    simpa using this
end
end Go.Proofs.YtipihchlhkjdjaaDoor

namespace Go.Proofs.YtipihchlhkjdjaaDoor
open Go.RowKit
set_option maxRecDepth 100000

theorem set_cell_at {w : World} {B : Nat} {cur : Array Value} {t : TypeId} (h : w.heap[B]? = some (.cells cur t (0, 0))) (o : Nat) (v : Value) : (w.setCell ⟨B, o, none⟩ v).heap[B]? = some (.cells (cur.setIfInBounds o v) t (0, 0)) := by
  simp [World.setCell, Array.getElem?_modify, h]
theorem three_put {w : World} {B : Nat} {t : TypeId} {x y z : Value} (h : w.heap[B]? = some (.cells #[x, y, z] t (0, 0))) (a b c : Value) :
    (((w.setCell ⟨B, 0, none⟩ a).setCell ⟨B, 1, none⟩ b).setCell ⟨B, 2, none⟩ c).heap[B]? = some (.cells #[a, b, c] t (0, 0)) := set_cell_at (set_cell_at (set_cell_at h 0 a) 1 b) 2 c
theorem three_cells {W : World} {D : Nat} {x y z : Value} {t : TypeId} (h : W.heap[D]? = some (.cells #[x, y, z] t (0, 0))) : W.cell? ⟨D, 0, none⟩ = some x ∧ W.cell? ⟨D, 1, none⟩ = some y ∧ W.cell? ⟨D, 2, none⟩ = some z := by
  refine ⟨?_, ?_, ?_⟩ <;> (unfold World.cell?; dsimp only; rw [h]; rfl)
abbrev HeldV (w1 : World) (B : Nat) (v : Value) (W : World) : Prop := W.cell? ⟨B, 0, none⟩ = some v ∧ Below w1.heap.size w1 W
theorem HeldV.drew {w1 W : World} {B : Nat} {v : Value} (h : HeldV w1 B v W) : HeldV w1 B v W.drew := ⟨h.1, h.2.drew⟩
theorem HeldV.step {w1 W W2 : World} {B : Nat} {v : Value} (h : HeldV w1 B v W) (hb : Below W.heap.size W W2) : HeldV w1 B v W2 := ⟨(hb.cell (p := ⟨B, 0, none⟩) (World.block_lt_of_cell? _ _ h.1)).trans h.1, h.2.trans (hb.mono h.2.size)⟩
theorem HeldV.alloc {w1 W : World} {B : Nat} {v : Value} (h : HeldV w1 B v W) (o : Obj) : HeldV w1 B v (W.alloc o) := h.step (below_alloc _ _)
theorem HeldV.set3 {w1 W : World} {B D : Nat} {v : Value} (hB : B < w1.heap.size) (hD : w1.heap.size ≤ D) (x y z : Value) (h : HeldV w1 B v W) : HeldV w1 B v (((W.setCell ⟨D, 0, none⟩ x).setCell ⟨D, 1, none⟩ y).setCell ⟨D, 2, none⟩ z) := by
  have hb : Below w1.heap.size W (((W.setCell ⟨D, 0, none⟩ x).setCell ⟨D, 1, none⟩ y).setCell ⟨D, 2, none⟩ z) := (((Below.refl _ W).setCell (p := ⟨D, 0, none⟩) hD x).setCell (p := ⟨D, 1, none⟩) hD y).setCell (p := ⟨D, 2, none⟩) hD z
  exact ⟨(hb.cell (p := ⟨B, 0, none⟩) hB).trans h.1, h.2.trans hb⟩
theorem gb_step {T : TypeId} {W W' : World} {B : Nat} {x : Int} {v : Value} (h : GB T W B x v) (hb : Below W.heap.size W W') : GB T W' B x v := (hb.block B h.lt).trans h
/-- the box of three -/
def N3 (D : Nat) (a b c : Value) (W : World) : Prop := W.heap[D]? = some (.cells #[a, b, c] 58 (0, 0))
theorem N3.lt {D : Nat} {a b c : Value} {W : World} (h : N3 D a b c W) : D < W.heap.size := (Array.getElem?_eq_some_iff.1 h).1
theorem N3.fz {D : Nat} {a b c : Value} {W : World} (h : N3 D a b c W) (o : Nat) : W.frozen? ⟨D, o, none⟩ = false := by unfold N3 at h; unfold World.frozen?; dsimp only; rw [h]; simp
theorem N3.new (W : World) (a b c : Value) : N3 W.heap.size a b c (W.alloc (.cells #[a, b, c] 58)) := World.alloc_heap_new W _
theorem N3.step {D : Nat} {a b c : Value} {W W2 : World} (h : N3 D a b c W) (hb : Below W.heap.size W W2) : N3 D a b c W2 := (hb.block D h.lt).trans h
theorem N3.ne_row {D g t m : Nat} {a b c : Value} {f : Nat → Value} {W : World} (h : N3 D a b c W) (hr : W.rowIs g t m f) (ht : t ≠ 58) : D ≠ g := by
  intro e
  subst e
  obtain ⟨c, hc, _⟩ := hr
  unfold N3 at h
  rw [h] at hc
  injection hc with hc
  injection hc with _ hc
  exact ht hc.symm
theorem row_ne_row {W : World} {g h t t' m : Nat} {f f' : Nat → Value} (h1 : W.rowIs g t m f) (h2 : W.rowIs h t' m f') (ht : t ≠ t') : g ≠ h := by
  intro e
  subst e
  obtain ⟨c, hc, _⟩ := h1
  obtain ⟨c', hc', _⟩ := h2
  rw [hc] at hc'
  injection hc' with hc'
  injection hc' with _ hc'
  exact ht hc'
/-- two new rows, and the box that holds them -/
def Laid (w1 : World) (m : Nat) (t : Value) (wx : World) : Prop := ∃ B ge gw, t = .pointer (some ⟨B, 0, none⟩) ∧ N3 B (.slice none 0 0) (.slice (some ⟨ge, 0, none⟩) m m) (.slice (some ⟨gw, 0, none⟩) m m) wx ∧
    wx.rowIs ge 34 m (fun _ => .slice none 0 0) ∧ wx.rowIs gw 3 m (fun _ => .int .i64 0) ∧ w1.heap.size ≤ B ∧ w1.heap.size ≤ ge ∧ w1.heap.size ≤ gw ∧ Below w1.heap.size w1 wx
theorem laid_put {w1 W : World} {m D ge gw : Nat} {x y z : Value} (hD : N3 D x y z W) (he : W.rowIs ge 34 m (fun _ => .slice none 0 0)) (hw : W.rowIs gw 3 m (fun _ => .int .i64 0)) (hb : Below w1.heap.size w1 W) (lD : w1.heap.size ≤ D) (le : w1.heap.size ≤ ge) (lw : w1.heap.size ≤ gw) :
    Laid w1 m (.pointer (some ⟨D, 0, none⟩)) (((W.setCell ⟨D, 0, none⟩ (.slice none 0 0)).setCell ⟨D, 1, none⟩ (.slice (some ⟨ge, 0, none⟩) m m)).setCell ⟨D, 2, none⟩ (.slice (some ⟨gw, 0, none⟩) m m)) := by
  have n1 := hD.ne_row he (by decide)
  have n2 := hD.ne_row hw (by decide)
  exact ⟨D, ge, gw, rfl, three_put hD _ _ _, ((he.setOther (a := ⟨D, 0, none⟩) (fun e => n1 e.symm) _).setOther (a := ⟨D, 1, none⟩) (fun e => n1 e.symm) _).setOther (a := ⟨D, 2, none⟩) (fun e => n1 e.symm) _,
    ((hw.setOther (a := ⟨D, 0, none⟩) (fun e => n2 e.symm) _).setOther (a := ⟨D, 1, none⟩) (fun e => n2 e.symm) _).setOther (a := ⟨D, 2, none⟩) (fun e => n2 e.symm) _, lD, le, lw,
    ((hb.setCell (p := ⟨D, 0, none⟩) lD _).setCell (p := ⟨D, 1, none⟩) lD _).setCell (p := ⟨D, 2, none⟩) lD _⟩
theorem laid_new {w1 W : World} {m ge gw : Nat} (he : W.rowIs ge 34 m (fun _ => .slice none 0 0)) (hw : W.rowIs gw 3 m (fun _ => .int .i64 0)) (hb : Below w1.heap.size w1 W) (le : w1.heap.size ≤ ge) (lw : w1.heap.size ≤ gw) :
    Laid w1 m (.pointer (some ⟨W.heap.size, 0, none⟩)) (W.alloc (.cells #[.slice none 0 0, .slice (some ⟨ge, 0, none⟩) m m, .slice (some ⟨gw, 0, none⟩) m m] 58)) :=
  ⟨_, ge, gw, rfl, N3.new _ _ _ _, he.alloc _, hw.alloc _, hb.size, le, lw, hb.trans ((below_alloc W _).mono hb.size)⟩

/-- what has come up of the first statement, and what it left -/
structure FA (w1 : World) (m : Nat) (b2 b5 b6 b7 : Bool) (v3 v10 v13 v14 : Value) (W : World) : Prop where
  f2 : b2 = true → ∃ g, v10 = .slice (some ⟨g, 0, none⟩) m m ∧ W.rowIs g 34 m (fun _ => .slice none 0 0) ∧ w1.heap.size ≤ g
  f5 : b5 = true → ∃ g, v13 = .slice (some ⟨g, 0, none⟩) m m ∧ W.rowIs g 3 m (fun _ => .int .i64 0) ∧ w1.heap.size ≤ g
  f6 : b6 = true → b2 = true ∧ b5 = true ∧ v14 = .agg #[.slice none 0 0, v10, v13]
  f7 : b7 = true → ∃ D, v3 = .pointer (some ⟨D, 0, none⟩) ∧ N3 D (.slice none 0 0) (.slice none 0 0) (.slice none 0 0) W ∧ w1.heap.size ≤ D
theorem FA.step {w1 : World} {m : Nat} {b2 b5 b6 b7 : Bool} {v3 v10 v13 v14 : Value} {W W' : World} (h : FA w1 m b2 b5 b6 b7 v3 v10 v13 v14 W) (hb : Below W.heap.size W W') : FA w1 m b2 b5 b6 b7 v3 v10 v13 v14 W' := by
  refine ⟨fun e => ?_, fun e => ?_, h.f6, fun e => ?_⟩
  · obtain ⟨g, h1, h2, h3⟩ := h.f2 e; exact ⟨g, h1, rowIs_step h2 hb, h3⟩
  · obtain ⟨g, h1, h2, h3⟩ := h.f5 e; exact ⟨g, h1, rowIs_step h2 hb, h3⟩
  · obtain ⟨D, h1, h2, h3⟩ := h.f7 e; exact ⟨D, h1, h2.step hb, h3⟩

abbrev HeldE (B BE x y : Nat) (sl : Value) (W : World) : Prop := W.cell? ⟨B, 1, none⟩ = some sl ∧ W.cell? ⟨BE, 0, none⟩ = some (.int .i64 (x : Int)) ∧ W.cell? ⟨BE, 1, none⟩ = some (.int .i64 (y : Int))
theorem HeldE.drew {B BE x y : Nat} {sl : Value} {W : World} (h : HeldE B BE x y sl W) : HeldE B BE x y sl W.drew := h
theorem HeldE.alloc {B BE x y : Nat} {sl : Value} {W : World} (h : HeldE B BE x y sl W) (o : Obj) : HeldE B BE x y sl (W.alloc o) :=
  ⟨(World.cell?_alloc_lt W o ⟨B, 1, none⟩ (World.block_lt_of_cell? _ _ h.1)).trans h.1, (World.cell?_alloc_lt W o ⟨BE, 0, none⟩ (World.block_lt_of_cell? _ _ h.2.1)).trans h.2.1, (World.cell?_alloc_lt W o ⟨BE, 1, none⟩ (World.block_lt_of_cell? _ _ h.2.2)).trans h.2.2⟩
theorem HeldE.set {B BE x y ge : Nat} {sl : Value} {W : World} (h1 : B ≠ ge) (h2 : BE ≠ ge) (h : HeldE B BE x y sl W) (o : Nat) (v : Value) : HeldE B BE x y sl (W.setCell ⟨ge, o, none⟩ v) :=
  ⟨(World.cell?_setCell_far W ⟨ge, o, none⟩ ⟨B, 1, none⟩ v (fun e => h1 e.symm)).trans h.1, (World.cell?_setCell_far W ⟨ge, o, none⟩ ⟨BE, 0, none⟩ v (fun e => h2 e.symm)).trans h.2.1, (World.cell?_setCell_far W ⟨ge, o, none⟩ ⟨BE, 1, none⟩ v (fun e => h2 e.symm)).trans h.2.2⟩
/-- the schedule without its box -/
structure AI (w : World) (base ge gw m : Nat) (v : Value) (wt : Nat → Int) (xs : Nat → List Int) (rs : List Int) : Prop where
  own : w.ownsRow base 3 1 v rs.length (iVals rs)
  rw_ : w.rowIs gw 3 m (fun i => .int .i64 (wt i))
  re : ∃ (a : Nat → Option Addr) (c : Nat → Nat), w.rowIs ge 34 m (fun i => .slice (a i) (xs i).length (c i)) ∧ ∀ i, i < m → RdJ w (fun b => b ≠ gw ∧ v.ownBlock ≠ some b) (a i) (xs i)
  nE : ge ≠ gw ∧ v.ownBlock ≠ some ge
  nV : v.ownBlock ≠ some gw
  bW : base ≤ gw
abbrev AllEnds (w : World) (m : Nat) (es : List (Int × Int)) (e : Ending) (w' : World) : Prop := ∃ ge gw v, e = .returned (.agg #[v, .slice (some ⟨ge, 0, none⟩) m m, .slice (some ⟨gw, 0, none⟩) m m]) ∧
  AI w' w.heap.size ge gw m v (fun j => (cnw es [] j : Int)) (tos es) (toI (rdyL (gR es) m [])) ∧ Below w.heap.size w w'
theorem Tryd.infoNd : (Tryd.prog.info? 58).map (·.size) = some 3 := by kernel_rfl
set_option maxHeartbeats 8000000 in
theorem all_any (A : Option Addr) (c m : Nat) (hm : m ≤ 200) (es : List (Int × Int)) (hin : inR m es = true) (w : World) (hE0 : RdE w w.heap.size A es) :
    Calls Tryd.prog 24 #[.agg #[.int .i64 (m : Int), .slice A es.length c]] w (AllEnds w m es) := by
  have HIN := Lib.hid hin
  clear hin
  have hmk1 := run_make_row' (P := Tryd.prog) 25 34 (.slice none 0 0) 24 Tryd.underlying25 Tryd.infoSI rfl .i64 .i64 m (by omega) (by omega)
  have hmk2 := run_make_row' (P := Tryd.prog) 34 3 (.int .i64 0) 8 Tryd.underlying34 Tryd.infoInt rfl .i64 .i64 m (by omega) (by omega)
  go_enter Tryd.func24, Tryd.ntmps24
  go_upto_region 1 with fail
  have g0 : GB 24 (w.alloc (.cells #[.int .i64 (m : Int), .slice A es.length c] 24)) w.heap.size (m : Int) (.slice A es.length c) := GB.new w 24 (m : Int) (.slice A es.length c)
  have g1 := g0.alloc (.cells #[.slice none 0 0, .slice none 0 0, .slice none 0 0] 58)
  have hb : Below w.heap.size w ((w.alloc (.cells #[.int .i64 (m : Int), .slice A es.length c] 24)).alloc (.cells #[.slice none 0 0, .slice none 0 0, .slice none 0 0] 58)) := ((Below.refl _ _).alloc (Nat.le_refl _) _).alloc (by simp) _
  have hR := N3.new (w.alloc (.cells #[.int .i64 (m : Int), .slice A es.length c] 24)) (.slice none 0 0) (.slice none 0 0) (.slice none 0 0)
  simp only [World.size_alloc] at hR
  obtain ⟨w1, hw1⟩ : ∃ w1, w1 = (w.alloc (.cells #[.int .i64 (m : Int), .slice A es.length c] 24)).alloc (.cells #[.slice none 0 0, .slice none 0 0, .slice none 0 0] 58) := ⟨_, rfl⟩
  have hs1 : w1.heap.size = w.heap.size + 2 := by rw [hw1]; simp
  rw [← hw1] at g1 hb hR ⊢
  have cf := g1.n
  go_cut [3] from 8 to 14 (fun t wx => Laid w1 m t wx)
  case first =>
    have hb0 := Below.refl w1.heap.size w1
    have hB1 : w.heap.size < w1.heap.size := by omega
    clear hR hw1 g1 g0 hb hs1 hE0
    refine wp_region_held_drew (S := HeldV w1 w.heap.size (.int .i64 (m : Int))) (by kernel_rfl) ?_ (fun hHeld => ?_)
    · exact HeldV.drew ⟨cf, hb0⟩
    refine wpAnyH_take (i := 0) (oi := { dst := some 8, op := _, type := _, pos := _, after := _, guard := _ }) (v := ?_) rfl (by kernel_rfl) (by kernel_rfl) (by kernel_rfl) (fun _ _ _ h => h) (Or.inl ⟨by rfl, ?_⟩) (by assumption) ?_
    rotate_left
    · intro w hSw; (try dsimp only at hSw); go_simp; (try with_reducible rfl)
    (try simp only [Act.put, List.setIfInBounds_toArray, List.set_cons_zero, List.set_cons_succ])
    refine wpAnyH_take (i := 1) (oi := { dst := some 9, op := _, type := _, pos := _, after := _, guard := _ }) (v := ?_) rfl (by kernel_rfl) (by kernel_rfl) (by kernel_rfl) (fun _ _ _ h => h) (Or.inl ⟨by rfl, ?_⟩) (by assumption) ?_
    rotate_left
    · intro w hSw; (try dsimp only at hSw); go_simp; (try with_reducible rfl)
    (try simp only [Act.put, List.setIfInBounds_toArray, List.set_cons_zero, List.set_cons_succ])
    refine wpAnyH_take (i := 3) (oi := { dst := some 11, op := _, type := _, pos := _, after := _, guard := _ }) (v := ?_) rfl (by kernel_rfl) (by kernel_rfl) (by kernel_rfl) (fun _ _ _ h => h) (Or.inl ⟨by rfl, ?_⟩) (by assumption) ?_
    rotate_left
    · intro w hSw; (try dsimp only at hSw); go_simp; (try with_reducible rfl)
    (try simp only [Act.put, List.setIfInBounds_toArray, List.set_cons_zero, List.set_cons_succ])
    refine wpAnyH_take (i := 4) (oi := { dst := some 12, op := _, type := _, pos := _, after := _, guard := _ }) (v := ?_) rfl (by kernel_rfl) (by kernel_rfl) (by kernel_rfl) (fun _ _ _ h => h) (Or.inl ⟨by rfl, ?_⟩) (by assumption) ?_
    rotate_left
    · intro w hSw; (try dsimp only at hSw); go_simp; (try with_reducible rfl)
    (try simp only [Act.put, List.setIfInBounds_toArray, List.set_cons_zero, List.set_cons_succ])
    refine wpAnyH_inv (I := fun listed a W => (∃ (b2 b5 b6 b7 : Bool) (v3 v10 v13 v14 : Value), listed = #[true, true, b2, true, true, b5, b6, b7, false] ∧ a = ({ tmps := #[.agg #[.int .i64 (m : Int), .slice A es.length c], .pointer (some ⟨w.heap.size, 0, none⟩), .pointer (some ⟨w.heap.size + 1, 0, none⟩), v3, undef, undef, undef, undef, .pointer (some ⟨w.heap.size, 0, none⟩), .int .i64 (m : Int), v10, .pointer (some ⟨w.heap.size, 0, none⟩), .int .i64 (m : Int), v13, v14, undef, undef, undef, undef, undef, undef, undef, undef, undef, undef, undef, undef, undef, undef, undef, undef, undef, undef, undef, undef, undef, undef, undef, undef, undef, undef, undef, undef, undef, undef, undef, undef, undef, undef, undef, undef, undef, undef, undef, undef, undef, undef, undef, undef, undef, undef], defers := [] } : Act) ∧ FA w1 m b2 b5 b6 b7 v3 v10 v13 v14 W ∧ HeldV w1 w.heap.size (.int .i64 (m : Int)) W) ∨ (∃ (v3 v10 v13 v14 : Value), listed = #[true, true, true, true, true, true, true, true, true] ∧ a = ({ tmps := #[.agg #[.int .i64 (m : Int), .slice A es.length c], .pointer (some ⟨w.heap.size, 0, none⟩), .pointer (some ⟨w.heap.size + 1, 0, none⟩), v3, undef, undef, undef, undef, .pointer (some ⟨w.heap.size, 0, none⟩), .int .i64 (m : Int), v10, .pointer (some ⟨w.heap.size, 0, none⟩), .int .i64 (m : Int), v13, v14, undef, undef, undef, undef, undef, undef, undef, undef, undef, undef, undef, undef, undef, undef, undef, undef, undef, undef, undef, undef, undef, undef, undef, undef, undef, undef, undef, undef, undef, undef, undef, undef, undef, undef, undef, undef, undef, undef, undef, undef, undef, undef, undef, undef, undef, undef], defers := [] } : Act) ∧ Laid w1 m v3 W)) ?_ ?_ _ _ _ _ (by decide +kernel) (.inl ⟨false, false, false, false, undef, undef, undef, undef, rfl, rfl, ⟨fun h => (by cases h), fun h => (by cases h), fun h => (by cases h), fun h => (by cases h)⟩, hHeld⟩)
    · intro listed a W hI i o ho hf ha K hK
      have hi : i = 0 ∨ i = 1 ∨ i = 2 ∨ i = 3 ∨ i = 4 ∨ i = 5 ∨ i = 6 ∨ i = 7 ∨ i = 8 := by
        have h1 := (Array.getElem?_eq_some_iff.1 ho).1
        have h2 : i < 9 := h1
        omega
      rcases hI with ⟨b2, b5, b6, b7, v3, v10, v13, v14, rfl, rfl, hF, hH⟩ | ⟨v3, v10, v13, v14, rfl, rfl, _⟩
      rotate_left
      · rcases hi with rfl | rfl | rfl | rfl | rfl | rfl | rfl | rfl | rfl <;> cases hf
      clear hHeld hb0 cf
      rcases hi with rfl | rfl | rfl | rfl | rfl | rfl | rfl | rfl | rfl
      · cases hf
      · cases hf
      · cases ho
        have n2 : b2 = false := hf
        have HF := Lib.hid hF
        have HHH := Lib.hid hH
        have N2 := Lib.hid n2
        clear hF hH ha hf n2
        go_simp
        (try simp only [Act.put, List.setIfInBounds_toArray, List.set_cons_zero, List.set_cons_succ])
        refine hK.out _ _ (HeldV.alloc HHH.out _) (.inl ⟨true, b5, b6, b7, v3, _, v13, v14, rfl, rfl, ?_, HeldV.alloc HHH.out _⟩)
        have h := HF.out.step (below_alloc W (.cells (madeCells #[.slice none 0 0] m) 34))
        exact ⟨fun _ => ⟨_, rfl, World.rowIs_made W (.slice none 0 0) m 34, HHH.out.2.size⟩, h.f5, fun e => (by have := (h.f6 e).1; rw [N2.out] at this; cases this), h.f7⟩
      · cases hf
      · cases hf
      · cases ho
        have n5 : b5 = false := hf
        have HF := Lib.hid hF
        have HHH := Lib.hid hH
        have N5 := Lib.hid n5
        clear hF hH ha hf n5
        go_simp
        (try simp only [Act.put, List.setIfInBounds_toArray, List.set_cons_zero, List.set_cons_succ])
        refine hK.out _ _ (HeldV.alloc HHH.out _) (.inl ⟨b2, true, b6, b7, v3, v10, _, v14, rfl, rfl, ?_, HeldV.alloc HHH.out _⟩)
        have h := HF.out.step (below_alloc W (.cells (madeCells #[.int .i64 0] m) 3))
        exact ⟨h.f2, fun _ => ⟨_, rfl, World.rowIs_made W (.int .i64 0) m 3, HHH.out.2.size⟩, fun e => (by have := (h.f6 e).2.1; rw [N5.out] at this; cases this), h.f7⟩
      · cases ho
        have d2 : b2 = true := ha { on := 2, ground := .data } (by simp) rfl
        have d5 : b5 = true := ha { on := 5, ground := .data } (by simp) rfl
        have HF := Lib.hid hF
        have HHH := Lib.hid hH
        have DD := Lib.hid (show b2 = true ∧ b5 = true from ⟨d2, d5⟩)
        obtain ⟨g, rfl, _⟩ := hF.f2 d2
        obtain ⟨t, rfl, _⟩ := hF.f5 d5
        clear hF hH ha hf d2 d5
        go_simp
        (try simp only [Act.put, List.setIfInBounds_toArray, List.set_cons_zero, List.set_cons_succ])
        refine hK.out _ _ HHH.out (.inl ⟨b2, b5, true, b7, v3, _, _, _, rfl, rfl, ?_, HHH.out⟩)
        have h := HF.out
        exact ⟨h.f2, h.f5, fun _ => ⟨DD.out.1, DD.out.2, rfl⟩, h.f7⟩
      · cases ho
        have HF := Lib.hid hF
        have HHH := Lib.hid hH
        clear hF hH ha hf
        go_simp
        (try simp only [Act.put, List.setIfInBounds_toArray, List.set_cons_zero, List.set_cons_succ])
        refine hK.out _ _ (HeldV.alloc HHH.out _) (.inl ⟨b2, b5, b6, true, _, v10, v13, v14, rfl, rfl, ?_, HeldV.alloc HHH.out _⟩)
        have h := HF.out.step (below_alloc W (.cells #[.slice none 0 0, .slice none 0 0, .slice none 0 0] 58))
        exact ⟨h.f2, h.f5, h.f6, fun _ => ⟨_, rfl, N3.new W _ _ _, HHH.out.2.size⟩⟩
      · cases ho
        have d6 : b6 = true := ha { on := 6, ground := .data } (by simp) rfl
        have d7 : b7 = true := ha { on := 7, ground := .data } (by simp) rfl
        obtain ⟨d2, d5, rfl⟩ := hF.f6 d6
        obtain ⟨g, rfl, hg, lg⟩ := hF.f2 d2
        obtain ⟨t, rfl, ht, lt⟩ := hF.f5 d5
        obtain ⟨D, rfl, hD, lD⟩ := hF.f7 d7
        subst d2 d5 d6 d7
        obtain ⟨c0, c1, c2⟩ := three_cells hD
        have cz := hD.fz
        have FIN := Lib.hid (laid_put hD hg ht hH.2 lD lg lt)
        have HHH := Lib.hid (HeldV.set3 hB1 lD (.slice none 0 0) (.slice (some ⟨g, 0, none⟩) m m) (.slice (some ⟨t, 0, none⟩) m m) hH)
        clear hF hH ha hf hg ht hD
        go_simp
        (try simp only [Act.put, List.setIfInBounds_toArray, List.set_cons_zero, List.set_cons_succ])
        exact hK.out _ _ HHH.out (.inr ⟨_, _, _, _, rfl, rfl, FIN.out⟩)
    · intro listed a W hI hr
      rcases hI with ⟨b2, b5, b6, b7, v3, v10, v13, v14, rfl, rfl, hF, hH⟩ | ⟨v3, v10, v13, v14, rfl, rfl, hfin⟩
      · exfalso
        obtain rfl : b2 = true := came_up' hr (i := 2) rfl (by rfl)
        obtain rfl : b5 = true := came_up' hr (i := 5) rfl (by rfl)
        obtain rfl : b6 = true := came_up' hr (i := 6) rfl (by rfl)
        obtain rfl : b7 = true := came_up' hr (i := 7) rfl (by rfl)
        have : false = true := came_up' hr (i := 8) rfl (by rfl)
        cases this
      · have FIN := Lib.hid hfin
        clear hfin hr hHeld hb0 cf
        go_wp2_with fail
        go_meet
        case rel => exact FIN.out
  case rest =>
    obtain ⟨B, ge, gw, rfl, hN, he, hw, lB, le, lw, hbx⟩ := hcut
    have g2 : GB 24 wc w.heap.size (m : Int) (.slice A es.length c) := (hbx.block _ (by omega)).trans g1
    have hRc : N3 (w.heap.size + 1) (.slice none 0 0) (.slice none 0 0) (.slice none 0 0) wc := (hbx.block _ (by omega)).trans hR
    have hbw : Below w.heap.size w wc := hb.trans (hbx.mono (by omega))
    have hE := hE0.below hbw
    have e1 := g2.e
    have hBw : B ≠ gw := hN.ne_row hw (by decide)
    have hBe : B ≠ ge := hN.ne_row he (by decide)
    have hew : ge ≠ gw := row_ne_row he hw (by decide)
    obtain ⟨D, hD⟩ : ∃ D, D = wc.heap.size := ⟨_, rfl⟩
    have hBD : B < D := by rw [hD]; exact hN.lt
    have heD : ge < D := by rw [hD]; exact he.lt
    have hwD : gw < D := by rw [hD]; exact hw.lt
    have hRD : w.heap.size + 1 < D := by rw [hD]; exact hRc.lt
    have hE0' : EndsD 34 3 wc D ge m (tos (es.take 0)) := by
      have := EndsD.nil 3 D he
      exact this
    have hw0 : wc.rowIs gw 3 m (fun j => .int .i64 (cnw (es.take 0) [] j : Nat)) := hw.congr fun j _ => by simp [cnw]
    obtain ⟨i0, hi, hz0, hz1, hz2⟩ := info_parts Tryd.infoInt
    have hroom := hE0.room
    have HDD := Lib.hid hD
    have HRC := Lib.hid hRc
    have HNN := Lib.hid hN
    have HBW := Lib.hid hbw
    have HL := Lib.hid (show w1.heap.size ≤ B ∧ w1.heap.size ≤ ge ∧ w1.heap.size ≤ gw ∧ w1.heap.size = w.heap.size + 2 from ⟨lB, le, lw, hs1⟩)
    have HX := Lib.hid hbx
    clear hRc hN hbw hD he hw hb hbx hR hw1 g1 g0 g2 hE0 cf lB le lw hs1
    go_wp2_with fail
    clear e1
    go_loopw [18] (fun i wr => ∃ k : Nat, k ≤ es.length ∧ i = .int .i64 k ∧ wr.rowIs gw 3 m (fun j => .int .i64 (cnw (es.take k) [] j : Nat)) ∧ EndsD 34 3 wr D ge m (tos (es.take k)) ∧ Keeps (fun b => b ≠ ge ∧ b ≠ gw ∧ b < D) wc wr) (fun i _ => es.length - (intOf i).toNat)
    case atStart => exact ⟨0, Nat.zero_le _, rfl, hw0, hE0', Keeps.refl _ _⟩
    case round =>
      obtain ⟨k, hk, rfl, hwr, hEn, hkp⟩ := hrel
      clear hw0 hE0'
      have hDr : D ≤ wr.heap.size := Nat.le_trans (Nat.le_of_eq HDD.out) hkp.size
      have hBr : N3 B (.slice none 0 0) (.slice (some ⟨ge, 0, none⟩) m m) (.slice (some ⟨gw, 0, none⟩) m m) wr := (hkp.block B HNN.out.lt ⟨hBe, hBw, hBD⟩).trans HNN.out
      by_cases hlt : k < es.length
      · have hoke := okE_of HIN.out k hlt
        unfold okE at hoke
        rw [Bool.and_eq_true] at hoke
        obtain ⟨o1, o2⟩ := hoke
        replace o1 := nodeB_true o1
        replace o2 := nodeB_true o2
        obtain ⟨x, hx⟩ : ∃ x : Nat, (ed es k).1 = (x : Int) := ⟨(ed es k).1.toNat, by omega⟩
        obtain ⟨y, hy⟩ : ∃ y : Nat, (ed es k).2 = (y : Int) := ⟨(ed es k).2.toNat, by omega⟩
        have hxn : x < m := by omega
        have hyn : y < m := by omega
        have HT := Lib.hid (tos_take es k x hlt hx)
        have HC := Lib.hid (cnw_nil_take hlt hy)
        obtain ⟨b, off, rfl, hbl, hc⟩ := hE.rd (by omega)
        have hlL := HL.out
        have hkb : wr.heap[b]? = wc.heap[b]? := hkp.block b (by have := HBW.out.size; omega) ⟨by omega, by omega, by omega⟩
        have hc1 := (World.cell?_of_block (a := ⟨b, off + k * 2, none⟩) hkb).trans (hc k hlt).1
        have hc2 := (World.cell?_of_block (a := ⟨b, off + k * 2 + 1, none⟩) hkb).trans (hc k hlt).2
        rw [hx] at hc1
        rw [hy] at hc2
        have HY := Lib.hid hy
        clear hc o1 o2 hx hy hkb hlL
        go_wp2_with fail
        have hX := EBox.new wr x y 36
        have hbk := heap_alloc_new wr (.cells #[.int .i64 (x : Int), .int .i64 (y : Int)] 36)
        have hs3 : (wr.alloc (.cells #[.int .i64 (x : Int), .int .i64 (y : Int)] 36)).heap.size = wr.heap.size + 1 := by simp
        have hk3 : Keeps (fun b => b ≠ ge ∧ b ≠ gw ∧ b < D) wc (wr.alloc (.cells #[.int .i64 (x : Int), .int .i64 (y : Int)] 36)) := hkp.alloc _
        have ka : Keeps (fun b => b < wr.heap.size) wr (wr.alloc (.cells #[.int .i64 (x : Int), .int .i64 (y : Int)] 36)) := (Keeps.refl _ wr).alloc _
        have hEn3 : EndsD 34 3 (wr.alloc (.cells #[.int .i64 (x : Int), .int .i64 (y : Int)] 36)) D ge m (tos (es.take k)) := by
          obtain ⟨hdr, q1, q2, q3⟩ := hEn
          exact ⟨hdr, q1.alloc _, fun i hi => (q2 i hi).alloc _, q3⟩
        have hwr3 := hwr.alloc (.cells #[.int .i64 (x : Int), .int .i64 (y : Int)] 36)
        have hB3 : N3 B (.slice none 0 0) (.slice (some ⟨ge, 0, none⟩) m m) (.slice (some ⟨gw, 0, none⟩) m m) (wr.alloc (.cells #[.int .i64 (x : Int), .int .i64 (y : Int)] 36)) := hBr.step (below_alloc _ _)
        obtain ⟨w3, hw3⟩ : ∃ w3, w3 = wr.alloc (.cells #[.int .i64 (x : Int), .int .i64 (y : Int)] 36) := ⟨_, rfl⟩
        rw [← hw3] at hX hbk hs3 hk3 hEn3 hwr3 hB3 ⊢
        clear hw3 hEn hkp hwr hBr hc1 hc2 ka
        have hl := tos_take_len es k x
        obtain ⟨v, A3, c3, rfl, hcell, hfz, hown, hgl, hng, hnext⟩ := hEn3.at_ (by decide) hxn
        have hx0 : (0 : Int) ≤ (x : Int) := Int.natCast_nonneg _
        have hx1 : (x : Int) < (m : Int) := by omega
        have hy0 : (0 : Int) ≤ (y : Int) := Int.natCast_nonneg _
        have hy1 : (y : Int) < (m : Int) := by omega
        have hex := hX.x
        have hey := hX.y
        obtain ⟨_, k1, k2⟩ := three_cells hB3
        have kcy := hwr3.cell hyn
        obtain ⟨cv, hcv⟩ : ∃ cv, cv = cnw (es.take k) [] y := ⟨_, rfl⟩
        rw [← hcv] at kcy
        have hcvl : cv ≤ 1099511627776 := by rw [hcv]; exact Nat.le_trans (cnw_le _ _ _) (by rw [List.length_take]; omega)
        obtain ⟨BE, hBE⟩ : ∃ BE, BE = wr.heap.size := ⟨_, rfl⟩
        rw [← hBE] at hex hey hs3 hbk hDr ⊢
        have hBE3 : BE < w3.heap.size := by omega
        have hne : BE ≠ ge := by omega
        have hne2 : BE ≠ gw := by omega
        have hBl3 : B < w3.heap.size := hB3.lt
        have hgwl3 : gw < w3.heap.size := hwr3.lt
        have hfr : ∀ b, b < D → (Value.slice A3 (tos (es.take k) x).length c3).ownBlock ≠ some b := fun b hbD e => by have := (hown.lt b e).1; omega
        have hnE : (Value.slice A3 (tos (es.take k) x).length c3).ownBlock ≠ some BE := own_ne_blk hown hbk (by decide)
        have hnB := hfr B hBD
        have hnW := hfr gw hwD
        have HS3 := Lib.hid hs3
        clear hX hBE hs3 hbk
        have hfa : ∀ o, (w3.alloc o).frozen? ⟨ge, x, none⟩ = false := fun o => (World.frozen?_alloc_old w3 o ⟨ge, x, none⟩ (Nat.ne_of_lt hgl)).trans hfz
        have hxa : ∀ o, (w3.alloc o).cell? ⟨BE, 0, none⟩ = some (.int .i64 (x : Int)) := fun o => (World.cell?_alloc_lt w3 o ⟨BE, 0, none⟩ hBE3).trans hex
        have hya : ∀ o, (w3.alloc o).cell? ⟨BE, 1, none⟩ = some (.int .i64 (y : Int)) := fun o => (World.cell?_alloc_lt w3 o ⟨BE, 1, none⟩ hBE3).trans hey
        have hca : ∀ o, (w3.alloc o).cell? ⟨ge, x, none⟩ = some (.slice A3 (tos (es.take k) x).length c3) := fun o => (World.cell?_alloc_lt w3 o ⟨ge, x, none⟩ hgl).trans hcell
        have k1a : ∀ o, (w3.alloc o).cell? ⟨B, 1, none⟩ = some (.slice (some ⟨ge, 0, none⟩) m m) := fun o => (World.cell?_alloc_lt w3 o ⟨B, 1, none⟩ hBl3).trans k1
        have k2a : ∀ o, (w3.alloc o).cell? ⟨B, 2, none⟩ = some (.slice (some ⟨gw, 0, none⟩) m m) := fun o => (World.cell?_alloc_lt w3 o ⟨B, 2, none⟩ hBl3).trans k2
        have kya : ∀ o, (w3.alloc o).cell? ⟨gw, y, none⟩ = some (.int .i64 (cv : Int)) := fun o => (World.cell?_alloc_lt w3 o ⟨gw, y, none⟩ hgwl3).trans kcy
        have kyf : ∀ o, (w3.alloc o).frozen? ⟨gw, y, none⟩ = false := fun o => (World.frozen?_alloc_old w3 o ⟨gw, y, none⟩ (Nat.ne_of_lt hgwl3)).trans (hwr3.frozen y)
        have hin1 : (tos (es.take k) x).length + 1 ≤ maxLen := by unfold maxLen; omega
        have hin2 : ((tos (es.take k) x).length + 1) * 8 ≤ 140737488355328 := by omega
        have hfin : ∀ gg cap w4, w4.ownsRow D 3 1 (.slice (some ⟨gg, 0, none⟩) ((tos (es.take k) x).length + 1) cap) ((tos (es.take k) x).length + 1) (iVals (tos (es.take k) x) ++ [.int .i64 (y : Int)]) →
            (w3.alloc (.cells #[.int .i64 (y : Int)] 3)).drew.grownBy w4 (Value.slice A3 (tos (es.take k) x).length c3).ownBlock → ((Value.slice A3 (tos (es.take k) x).length c3).ownBlock = some gg ∨ gg = w3.heap.size + 1) →
            ∀ w6, w6 = (w4.setCell ⟨ge, x, none⟩ (.slice (some ⟨gg, 0, none⟩) ((tos (es.take k) x).length + 1) cap)).setCell ⟨gw, y, none⟩ (.int .i64 ((cv : Int) + 1)) →
            Hid (w6.rowIs gw 3 m (fun j => .int .i64 (cnw (es.take (k + 1)) [] j : Nat)) ∧ EndsD 34 3 w6 D ge m (tos (es.take (k + 1))) ∧ Keeps (fun b => b ≠ ge ∧ b ≠ gw ∧ b < D) wc w6) := fun gg cap w4 h1 h2 h3 w6 h6 => by
          subst h6
          have hD3 : D ≤ w3.heap.size := by have := HS3.out; omega
          have hk4 : Keeps (fun b => b ≠ ge ∧ b ≠ gw ∧ b < D) wc w4 := ((hk3.alloc _).drew).grown h2 (fun r hr _ hp => by have := hfr r hp.2.2; exact this hr)
          refine Lib.hid ⟨?_, ?_, ?_⟩
          · have q1 : w4.rowIs gw 3 m (fun j => .int .i64 (cnw (es.take k) [] j : Nat)) := rowIs_grown ((hwr3.alloc _).drew) h2 (fun e => hnW e.symm)
            have q2 := (q1.setOther (a := ⟨ge, x, none⟩) (fun e => hew e.symm) (.slice (some ⟨gg, 0, none⟩) ((tos (es.take k) x).length + 1) cap)).set y (.int .i64 ((cv : Int) + 1))
            refine q2.congr fun j _ => ?_
            have q3 : cnw (es.take (k + 1)) [] j = if j = y then cnw (es.take k) [] y + 1 else cnw (es.take k) [] j := congrFun HC.out j
            rw [q3, hcv]
            by_cases e : j = y
            · rw [if_pos e, if_pos e]; rfl
            · rw [if_neg e, if_neg e]
          · have q1 : EndsD 34 3 (w4.setCell ⟨ge, x, none⟩ (.slice (some ⟨gg, 0, none⟩) ((tos (es.take k) x).length + 1) cap)) D ge m (tos (es.take (k + 1))) := by
              rw [HT.out, HY.out]
              exact hnext _ y _ w4 h1 h2 (fun b hb => by
                obtain rfl : gg = b := by simpa [Value.ownBlock] using hb
                exact h3)
            exact q1.keep (p := fun b => b ≠ gw) ((Keeps.refl _ _).setCell (q := ⟨gw, y, none⟩) (fun _ hp => hp rfl) _) hew (fun b hb => by omega)
          · exact (hk4.setCell (q := ⟨ge, x, none⟩) (fun _ hp => hp.1 rfl) _).setCell (q := ⟨gw, y, none⟩) (fun _ hp => hp.2.1 rfl) _
        have HFIN := Lib.hid hfin
        have hewx : ¬ (ge = gw) := hew
        have hBwx : ¬ (ge = B) := fun e => hBe e.symm
        have hwBx : ¬ (gw = B) := fun e => hBw e.symm
        have hewB : B ≠ ge := hBe
        have hewE : BE ≠ ge := hne
        have hgE : ¬ (ge = BE) := fun e => hne e.symm
        have hwE : ¬ (gw = BE) := fun e => hne2 e.symm
        clear hfin hnext hfr hk3 hEn3 hwr3 hB3 k2 kcy hfz hcv
        go_upto_region 5 with fail
        go_cut [] from 22 to 36 (fun wx => ∃ (gg cap : Nat) (w4 : World), wx = w4.setCell ⟨ge, x, none⟩ (.slice (some ⟨gg, 0, none⟩) ((tos (es.take k) x).length + 1) cap) ∧ w4.cell? ⟨B, 2, none⟩ = some (.slice (some ⟨gw, 0, none⟩) m m) ∧ w4.cell? ⟨BE, 1, none⟩ = some (.int .i64 (y : Int)) ∧ w4.cell? ⟨gw, y, none⟩ = some (.int .i64 (cv : Int)) ∧ w4.frozen? ⟨gw, y, none⟩ = false ∧
          Hid (∀ w6, w6 = (w4.setCell ⟨ge, x, none⟩ (.slice (some ⟨gg, 0, none⟩) ((tos (es.take k) x).length + 1) cap)).setCell ⟨gw, y, none⟩ (.int .i64 ((cv : Int) + 1)) →
            Hid (w6.rowIs gw 3 m (fun j => .int .i64 (cnw (es.take (k + 1)) [] j : Nat)) ∧ EndsD 34 3 w6 D ge m (tos (es.take (k + 1))) ∧ Keeps (fun b => b ≠ ge ∧ b ≠ gw ∧ b < D) wc w6)))
        case first =>
          have hS0 : HeldE B BE x y (.slice (some ⟨ge, 0, none⟩) m m) w3 := ⟨k1, hex, hey⟩
          refine wp_region_held_drew (S := HeldE B BE x y (.slice (some ⟨ge, 0, none⟩) m m)) (by kernel_rfl) (HeldE.drew hS0) (fun hHeld => ?_)
          refine wpAnyH_take (i := 0) (oi := { dst := some 22, op := _, type := _, pos := _, after := _, guard := _ }) (v := ?_) rfl (by kernel_rfl) (by kernel_rfl) (by kernel_rfl) (fun _ _ _ h => h) (Or.inl ⟨by rfl, ?_⟩) (by assumption) ?_
          rotate_left
          · intro w hSw; (try dsimp only at hSw); go_simp; (try with_reducible rfl)
          (try simp only [Act.put, List.setIfInBounds_toArray, List.set_cons_zero, List.set_cons_succ])
          refine wpAnyH_take (i := 1) (oi := { dst := some 23, op := _, type := _, pos := _, after := _, guard := _ }) (v := ?_) rfl (by kernel_rfl) (by kernel_rfl) (by kernel_rfl) (fun _ _ _ h => h) (Or.inl ⟨by rfl, ?_⟩) (by assumption) ?_
          rotate_left
          · intro w hSw; (try dsimp only at hSw); go_simp; (try with_reducible rfl)
          (try simp only [Act.put, List.setIfInBounds_toArray, List.set_cons_zero, List.set_cons_succ])
          refine wpAnyH_take (i := 2) (oi := { dst := some 24, op := _, type := _, pos := _, after := _, guard := _ }) (v := ?_) rfl (by kernel_rfl) (by kernel_rfl) (by kernel_rfl) (fun _ _ _ h => h) (Or.inl ⟨by rfl, ?_⟩) (by assumption) ?_
          rotate_left
          · intro w hSw; (try dsimp only at hSw); go_simp; (try with_reducible rfl)
          (try simp only [Act.put, List.setIfInBounds_toArray, List.set_cons_zero, List.set_cons_succ])
          refine wpAnyH_take (i := 3) (oi := { dst := some 25, op := _, type := _, pos := _, after := _, guard := _ }) (v := ?_) rfl (by kernel_rfl) (by kernel_rfl) (by kernel_rfl) (fun _ _ _ h => h) (Or.inl ⟨by rfl, ?_⟩) (by assumption) ?_
          rotate_left
          · intro w hSw; (try dsimp only at hSw); go_simp; (try with_reducible rfl)
          (try simp only [Act.put, List.setIfInBounds_toArray, List.set_cons_zero, List.set_cons_succ])
          refine wpAnyH_take (i := 4) (oi := { dst := some 26, op := _, type := _, pos := _, after := _, guard := _ }) (v := ?_) rfl (by kernel_rfl) (by kernel_rfl) (by kernel_rfl) (fun _ _ _ h => h) (Or.inl ⟨by rfl, ?_⟩) (by assumption) ?_
          rotate_left
          · intro w hSw; (try dsimp only at hSw); go_simp; (try with_reducible rfl)
          (try simp only [Act.put, List.setIfInBounds_toArray, List.set_cons_zero, List.set_cons_succ])
          refine wpAnyH_take (i := 5) (oi := { dst := some 27, op := _, type := _, pos := _, after := _, guard := _ }) (v := ?_) rfl (by kernel_rfl) (by kernel_rfl) (by kernel_rfl) (fun _ _ _ h => h) (Or.inl ⟨by rfl, ?_⟩) (by assumption) ?_
          rotate_left
          · intro w hSw; (try dsimp only at hSw); go_simp; (try with_reducible rfl)
          (try simp only [Act.put, List.setIfInBounds_toArray, List.set_cons_zero, List.set_cons_succ])
          refine wpAnyH_take (i := 6) (oi := { dst := some 28, op := _, type := _, pos := _, after := _, guard := _ }) (v := ?_) rfl (by kernel_rfl) (by kernel_rfl) (by kernel_rfl) (fun _ _ _ h => h) (Or.inl ⟨by rfl, ?_⟩) (by assumption) ?_
          rotate_left
          · intro w hSw; (try dsimp only at hSw); go_simp; (try with_reducible rfl)
          (try simp only [Act.put, List.setIfInBounds_toArray, List.set_cons_zero, List.set_cons_succ])
          refine wpAnyH_take (i := 7) (oi := { dst := some 29, op := _, type := _, pos := _, after := _, guard := _ }) (v := ?_) rfl (by kernel_rfl) (by kernel_rfl) (by kernel_rfl) (fun _ _ _ h => h) (Or.inl ⟨by rfl, ?_⟩) (by assumption) ?_
          rotate_left
          · intro w hSw; (try dsimp only at hSw); go_simp; (try with_reducible rfl)
          (try simp only [Act.put, List.setIfInBounds_toArray, List.set_cons_zero, List.set_cons_succ])
          refine wpAnyH_take (i := 8) (oi := { dst := some 30, op := _, type := _, pos := _, after := _, guard := _ }) (v := ?_) rfl (by kernel_rfl) (by kernel_rfl) (by kernel_rfl) (fun _ _ _ h => h) (Or.inl ⟨by rfl, ?_⟩) (by assumption) ?_
          rotate_left
          · intro w hSw; (try dsimp only at hSw); go_simp; (try with_reducible rfl)
          (try simp only [Act.put, List.setIfInBounds_toArray, List.set_cons_zero, List.set_cons_succ])
          refine wpAnyH_take (i := 10) (oi := { dst := some 32, op := _, type := _, pos := _, after := _, guard := _ }) (v := ?_) rfl (by kernel_rfl) (by kernel_rfl) (by kernel_rfl) (fun _ _ _ h => h) (Or.inl ⟨by rfl, ?_⟩) (by assumption) ?_
          rotate_left
          · intro w hSw; (try dsimp only at hSw); go_simp; (try with_reducible rfl)
          (try simp only [Act.put, List.setIfInBounds_toArray, List.set_cons_zero, List.set_cons_succ])
          refine wpAnyH_take (i := 11) (oi := { dst := some 33, op := _, type := _, pos := _, after := _, guard := _ }) (v := ?_) rfl (by kernel_rfl) (by kernel_rfl) (by kernel_rfl) (fun _ _ _ h => h) (Or.inl ⟨by rfl, ?_⟩) (by assumption) ?_
          rotate_left
          · intro w hSw; (try dsimp only at hSw); go_simp; (try with_reducible rfl)
          (try simp only [Act.put, List.setIfInBounds_toArray, List.set_cons_zero, List.set_cons_succ])
          refine wpAnyH_ready (rs := [9, 12]) (by kernel_rfl) (by simp) ?_
          refine AllReadyH.cons rfl (fun K hK => ?_) (AllReadyH.cons rfl (fun K hK => ?_) AllReadyH.nil)
          · go_simp
            refine hK.out _ _ (HeldE.drew hS0) (fun hHeld => ?_)
            clear hK K
            (try simp only [Act.put, List.setIfInBounds_toArray, List.set_cons_zero, List.set_cons_succ])
            refine wpAnyH_ready (rs := [12]) (by kernel_rfl) (by simp) ?_
            refine AllReadyH.cons rfl (fun K hK => ?_) AllReadyH.nil
            go_simp
            refine hK.out _ _ (HeldE.drew (HeldE.alloc hS0 (.cells #[.int .i64 (y : Int)] 3))) (fun hHeld => ?_)
            clear hK K
            (try simp only [Act.put, List.setIfInBounds_toArray, List.set_cons_zero, List.set_cons_succ])
            refine wpAnyH_ready (rs := [13]) (by kernel_rfl) (by simp) ?_
            refine AllReadyH.cons rfl (fun K hK => ?_) AllReadyH.nil
            refine step_append_lies _ (by rfl) _ _ _ (by rfl) D 3 i0 _ 1 8 Tryd.underlying34 hi hz0 hz1 hz2 rfl (by omega) (.slice A3 (tos (es.take k) x).length c3) (tos (es.take k) x).length (iVals (tos (es.take k) x)) (by rfl) ((hown.alloc _).drew) ⟨w3.heap.size, 0, none⟩ 1 1 [.int .i64 (y : Int)] (by rfl) (by rfl) (World.news_of_block (cs := #[.int .i64 (y : Int)]) (t := 3) (fr := (0, 0)) (heap_alloc_new w3 _)) (by simp [Value.oneCell']) (by omega) hin1 hin2 (by simp; omega) (w3.heap.size + 1) (by simp) ?_
            intro gg cap w4 hown1 hgrow hat hlt'
            have hc4 := (hgrow.cell_far ⟨ge, x, none⟩ (by simp; omega) (Ne.symm hng)).trans (hca _)
            have hf4 := (hgrow.frozen_far ⟨ge, x, none⟩ (by simp; omega) (Ne.symm hng)).trans (hfa _)
            have hx4 := (hgrow.cell_far ⟨BE, 0, none⟩ (by simp; omega) (Ne.symm hnE)).trans (hxa _)
            have hy4 := (hgrow.cell_far ⟨BE, 1, none⟩ (by simp; omega) (Ne.symm hnE)).trans (hya _)
            have hk14 := (hgrow.cell_far ⟨B, 1, none⟩ (by simp; omega) (Ne.symm hnB)).trans (k1a _)
            have hk24 := (hgrow.cell_far ⟨B, 2, none⟩ (by simp; omega) (Ne.symm hnB)).trans (k2a _)
            have hky4 := (hgrow.cell_far ⟨gw, y, none⟩ (by simp; omega) (Ne.symm hnW)).trans (kya _)
            have hkf4 := (hgrow.frozen_far ⟨gw, y, none⟩ (by simp; omega) (Ne.symm hnW)).trans (kyf _)
            have HF := Lib.hid (HFIN.out _ _ _ hown1 hgrow hat)
            (try dsimp only)
            refine hK.out _ _ ⟨hk14, hx4, hy4⟩ (fun hHeld => ?_)
            clear hK K
            (try simp only [Act.put, List.setIfInBounds_toArray])
            refine wpAnyH_take (i := 14) (oi := { dst := some 36, op := _, type := _, pos := _, after := _, guard := _ }) (v := ?_) rfl (by kernel_rfl) (by kernel_rfl) (by kernel_rfl) (fun _ _ _ h => h) (Or.inl ⟨by rfl, ?_⟩) (by assumption) ?_
            rotate_left
            · intro w hSw; (try dsimp only at hSw); go_simp; (try with_reducible rfl)
            (try simp only [Act.put])
            refine wpAnyH_ready (rs := [15]) (by kernel_rfl) (by simp) ?_
            refine AllReadyH.cons rfl (fun K hK => ?_) AllReadyH.nil
            go_simp
            refine hK.out _ _ (HeldE.set hewB hewE ⟨hk14, hx4, hy4⟩ _ _) (fun hHeld => ?_)
            clear hK K
            (try simp only [Act.put])
            refine wpAnyH_done (by kernel_rfl) ?_ _
            go_wp2_with fail
            go_meet
            case rel => exact ⟨_, _, w4, rfl, hk24, hy4, hky4, hkf4, HF⟩
          · go_simp
            refine hK.out _ _ (HeldE.drew (HeldE.alloc hS0 (.cells #[.int .i64 (y : Int)] 3))) (fun hHeld => ?_)
            clear hK K
            (try simp only [Act.put, List.setIfInBounds_toArray, List.set_cons_zero, List.set_cons_succ])
            refine wpAnyH_ready (rs := [9]) (by kernel_rfl) (by simp) ?_
            refine AllReadyH.cons rfl (fun K hK => ?_) AllReadyH.nil
            go_simp
            refine hK.out _ _ (HeldE.drew (HeldE.alloc hS0 (.cells #[.int .i64 (y : Int)] 3))) (fun hHeld => ?_)
            clear hK K
            (try simp only [Act.put, List.setIfInBounds_toArray, List.set_cons_zero, List.set_cons_succ])
            refine wpAnyH_ready (rs := [13]) (by kernel_rfl) (by simp) ?_
            refine AllReadyH.cons rfl (fun K hK => ?_) AllReadyH.nil
            refine step_append_lies _ (by rfl) _ _ _ (by rfl) D 3 i0 _ 1 8 Tryd.underlying34 hi hz0 hz1 hz2 rfl (by omega) (.slice A3 (tos (es.take k) x).length c3) (tos (es.take k) x).length (iVals (tos (es.take k) x)) (by rfl) ((hown.alloc _).drew) ⟨w3.heap.size, 0, none⟩ 1 1 [.int .i64 (y : Int)] (by rfl) (by rfl) (World.news_of_block (cs := #[.int .i64 (y : Int)]) (t := 3) (fr := (0, 0)) (heap_alloc_new w3 _)) (by simp [Value.oneCell']) (by omega) hin1 hin2 (by simp; omega) (w3.heap.size + 1) (by simp) ?_
            intro gg cap w4 hown1 hgrow hat hlt'
            have hc4 := (hgrow.cell_far ⟨ge, x, none⟩ (by simp; omega) (Ne.symm hng)).trans (hca _)
            have hf4 := (hgrow.frozen_far ⟨ge, x, none⟩ (by simp; omega) (Ne.symm hng)).trans (hfa _)
            have hx4 := (hgrow.cell_far ⟨BE, 0, none⟩ (by simp; omega) (Ne.symm hnE)).trans (hxa _)
            have hy4 := (hgrow.cell_far ⟨BE, 1, none⟩ (by simp; omega) (Ne.symm hnE)).trans (hya _)
            have hk14 := (hgrow.cell_far ⟨B, 1, none⟩ (by simp; omega) (Ne.symm hnB)).trans (k1a _)
            have hk24 := (hgrow.cell_far ⟨B, 2, none⟩ (by simp; omega) (Ne.symm hnB)).trans (k2a _)
            have hky4 := (hgrow.cell_far ⟨gw, y, none⟩ (by simp; omega) (Ne.symm hnW)).trans (kya _)
            have hkf4 := (hgrow.frozen_far ⟨gw, y, none⟩ (by simp; omega) (Ne.symm hnW)).trans (kyf _)
            have HF := Lib.hid (HFIN.out _ _ _ hown1 hgrow hat)
            (try dsimp only)
            refine hK.out _ _ ⟨hk14, hx4, hy4⟩ (fun hHeld => ?_)
            clear hK K
            (try simp only [Act.put, List.setIfInBounds_toArray])
            refine wpAnyH_take (i := 14) (oi := { dst := some 36, op := _, type := _, pos := _, after := _, guard := _ }) (v := ?_) rfl (by kernel_rfl) (by kernel_rfl) (by kernel_rfl) (fun _ _ _ h => h) (Or.inl ⟨by rfl, ?_⟩) (by assumption) ?_
            rotate_left
            · intro w hSw; (try dsimp only at hSw); go_simp; (try with_reducible rfl)
            (try simp only [Act.put])
            refine wpAnyH_ready (rs := [15]) (by kernel_rfl) (by simp) ?_
            refine AllReadyH.cons rfl (fun K hK => ?_) AllReadyH.nil
            go_simp
            refine hK.out _ _ (HeldE.set hewB hewE ⟨hk14, hx4, hy4⟩ _ _) (fun hHeld => ?_)
            clear hK K
            (try simp only [Act.put])
            refine wpAnyH_done (by kernel_rfl) ?_ _
            go_wp2_with fail
            go_meet
            case rel => exact ⟨_, _, w4, rfl, hk24, hy4, hky4, hkf4, HF⟩
        case rest =>
          obtain ⟨gg, cap, w4, rfl, hk24, hy4, hky4, hkf4, HF⟩ := hcut
          have q1 := (World.cell?_setCell_far w4 ⟨ge, x, none⟩ ⟨B, 2, none⟩ (.slice (some ⟨gg, 0, none⟩) ((tos (es.take k) x).length + 1) cap) hBwx).trans hk24
          have q2 := (World.cell?_setCell_far w4 ⟨ge, x, none⟩ ⟨BE, 1, none⟩ (.slice (some ⟨gg, 0, none⟩) ((tos (es.take k) x).length + 1) cap) hgE).trans hy4
          have q3 := (World.cell?_setCell_far w4 ⟨ge, x, none⟩ ⟨gw, y, none⟩ (.slice (some ⟨gg, 0, none⟩) ((tos (es.take k) x).length + 1) cap) hewx).trans hky4
          have q4 : (w4.setCell ⟨ge, x, none⟩ (.slice (some ⟨gg, 0, none⟩) ((tos (es.take k) x).length + 1) cap)).frozen? ⟨gw, y, none⟩ = false := by rw [World.frozen?_setCell]; exact hkf4
          obtain ⟨w5, hw5⟩ : ∃ w5, w5 = w4.setCell ⟨ge, x, none⟩ (.slice (some ⟨gg, 0, none⟩) ((tos (es.take k) x).length + 1) cap) := ⟨_, rfl⟩
          rw [← hw5] at q1 q2 q3 q4 HF ⊢
          clear hw5 hk24 hy4 hky4 hkf4 hxa hya hca k1a k2a kya kyf hfa hown hcell hex hey k1
          go_wp2_with fail
          go_roundw
          case rel =>
            have h := (HF.out _ rfl).out
            exact ⟨k + 1, by omega, by go_num, h.1, h.2.1, h.2.2⟩
          case measure => simp [intOf]; omega
      · obtain rfl : k = es.length := by omega
        rw [List.take_length] at hwr hEn
        have hlL := HL.out
        obtain ⟨R, hR⟩ : ∃ R, R = w.heap.size + 1 := ⟨_, rfl⟩
        obtain ⟨a0, c0, hre, hrj⟩ := hEn.rd (fun i _ => ⟨Nat.le_trans (tos_len es i) (by omega), fun j => tos_in es m (okE_of HIN.out) i j hm⟩)
        obtain ⟨b0, b1, b2⟩ := three_cells hBr
        have hNS : NS (fun b => b ≠ R) wr w1.heap.size B gw ge m (.slice none 0 0) (fun j => (cnw es [] j : Int)) (tos es) (rl m fun j => decide (j < 0) && decide ((cnw es [] j : Int) = 0)) :=
          ⟨⟨b0, hBr.fz 0, by rw [rl_none (fun j _ => by simp)]; exact World.ownsRow_nil _ _ _ _, by simp [Value.ownBlock]⟩, b1, b2, hwr,
            ⟨a0, c0, hre, fun i hi => (hrj i hi).imp fun b hb => ⟨fun ho => by
              rcases ho with e | e | e
              · omega
              · omega
              · simp [Value.ownBlock] at e, by omega⟩⟩, hBw, fun ho => by
              rcases ho with e | e | e
              · exact hBe e.symm
              · exact hew e
              · simp [Value.ownBlock] at e, by omega, by simp [Value.ownBlock], hlL.1, hlL.2.2.1⟩
        have hbsr : w1.heap.size ≤ wr.heap.size := Nat.le_trans HX.out.size hkp.size
        have hRr : N3 R (.slice none 0 0) (.slice none 0 0) (.slice none 0 0) wr := by
          rw [hR]
          exact (hkp.block _ HRC.out.lt ⟨by omega, by omega, hRD⟩).trans HRC.out
        have hbwr : Below w.heap.size w wr := HBW.out.trans (hkp.below (by have := HBW.out.size; omega) (fun b hb => ⟨by omega, by omega, by omega⟩))
        have HRR := Lib.hid hR
        have HBR := Lib.hid hbwr
        have HRr := Lib.hid hRr
        clear hwr hEn hre hrj b0 b1 hBr hkp hR hbwr hRr hE hlt
        go_wp2_with fail
        obtain ⟨wo, rfl⟩ : ∃ wo : World, wo = wr := ⟨_, rfl⟩
        go_loopw [49] (fun i W => ∃ (k : Nat) (v : Value), k ≤ m ∧ i = .int .i64 k ∧ NS (fun b => b ≠ R) W w1.heap.size B gw ge m v (fun j => (cnw es [] j : Int)) (tos es) (rl m fun j => decide (j < k) && decide ((cnw es [] j : Int) = 0)) ∧ StepO (OB B gw (.slice none 0 0)) (OB B gw v) wo W) (fun i _ => m - (intOf i).toNat)
        case atStart => exact ⟨0, _, Nat.zero_le _, rfl, hNS, StepO.refl hNS.top⟩
        case round =>
          obtain ⟨k, v, hk, rfl, hN, hSt⟩ := hrel
          clear hNS b2
          by_cases hlt : k < m
          · have hcy := hN.rw_.cell hlt
            obtain ⟨cv, hcv⟩ : ∃ cv, cv = cnw es [] k := ⟨_, rfl⟩
            rw [← hcv] at hcy
            have hz0 : (0 : Int) ≤ (k : Int) := by omega
            have hz1 : (k : Int) < (m : Int) := by omega
            have HN := Lib.hid hN
            have HS := Lib.hid hSt
            have hbs : w1.heap.size ≤ wr.heap.size := Nat.le_trans hbsr hSt.keeps.size
            by_cases hc0 : cv = 0
            · subst hc0
              have HAdd := Lib.hid (add_any B w1.heap.size v _ (k : Int) wr hN.box (rl_sorted _ _) (Nat.le_trans (rl_len _ _) (by omega)) hbs)
              have e1 : insI k (rl m fun j => decide (j < k) && decide ((cnw es [] j : Int) = 0)) = rl m fun j => decide (j < k + 1) && decide ((cnw es [] j : Int) = 0) := by
                rw [insI_rl hlt (by simp)]
                refine rl_congr fun j _ => ?_
                by_cases e : j = k
                · subst e
                  rw [if_pos rfl, ← hcv]
                  simp
                · rw [if_neg e]
                  congr 1
                  rw [Bool.eq_iff_iff, decide_eq_true_eq, decide_eq_true_eq]
                  omega
              have HE1 := Lib.hid e1
              clear hN hSt hcv e1
              go_wp2_with fail
              refine HAdd.out.mono ?_
              rintro e w4 ⟨rfl, v3, hb3, ht3⟩
              obtain ⟨hN4, hSt4⟩ := HN.out.turn hb3 ht3
              rw [HE1.out] at hN4
              have hS9 := HS.out.trans hSt4
              clear hb3 ht3 hSt4
              go_wp2_with fail
              go_roundw
              case rel => exact ⟨k + 1, v3, by omega, by go_num, hN4, hS9⟩
              case measure => simp [intOf]; omega
            · have h3 : ¬ ((cv : Int) = 0) := by omega
              have h4 : (((cv : Int) == 0) : Bool) = false := beq_eq_false_iff_ne.2 h3
              have e1 : (rl m fun j => decide (j < k) && decide ((cnw es [] j : Int) = 0)) = rl m fun j => decide (j < k + 1) && decide ((cnw es [] j : Int) = 0) := by
                refine rl_congr fun j _ => ?_
                by_cases e : j = k
                · subst e
                  rw [← hcv]
                  have : decide ((cv : Int) = 0) = false := decide_eq_false h3
                  rw [this]
                  simp
                · congr 1
                  rw [Bool.eq_iff_iff, decide_eq_true_eq, decide_eq_true_eq]
                  omega
              have HE1 := Lib.hid e1
              clear hN hSt hcv e1
              go_wp2_with fail
              go_roundw
              case rel => exact ⟨k + 1, v, by omega, by go_num, by rw [← HE1.out]; exact HN.out, HS.out⟩
              case measure => simp [intOf]; omega
          · obtain rfl : k = m := by omega
            have e1 : (rl k fun j => decide (j < k) && decide ((cnw es [] j : Int) = 0)) = toI (rdyL (gR es) k []) := by
              rw [← rdp_done HIN.out]
              refine rl_congr fun j hj => ?_
              unfold rdp
              simp [hj]
            rw [e1] at hN
            obtain ⟨A9, c9, rfl⟩ := own_any hN.box.own
            have k0 := hN.box.cell
            have k1 := hN.c1
            have k2 := hN.c2
            have hlL := HL.out
            have hRO : ∀ b, b < w1.heap.size → ¬ OB B gw (.slice none 0 0) b := fun b hb ho => by
              rcases ho with e | e | e
              · omega
              · omega
              · simp [Value.ownBlock] at e
            have hRR2 := HRR.out
            have hRW : N3 R (.slice none 0 0) (.slice none 0 0) (.slice none 0 0) wr := (hSt.keeps.block R HRr.out.lt (hRO R (by omega))).trans HRr.out
            have hbW : Below w.heap.size w wr := HBR.out.trans (hSt.keeps.below HBR.out.size (fun b hb => hRO b (by omega)))
            obtain ⟨r0, r1, r2⟩ := three_cells hRW
            have rz := hRW.fz
            have hfinal : ∀ W9, W9 = ((wr.setCell ⟨R, 0, none⟩ (.slice A9 (toI (rdyL (gR es) k [])).length c9)).setCell ⟨R, 1, none⟩ (.slice (some ⟨ge, 0, none⟩) k k)).setCell ⟨R, 2, none⟩ (.slice (some ⟨gw, 0, none⟩) k k) →
                Hid (N3 R (.slice A9 (toI (rdyL (gR es) k [])).length c9) (.slice (some ⟨ge, 0, none⟩) k k) (.slice (some ⟨gw, 0, none⟩) k k) W9 ∧ AI W9 w.heap.size ge gw k (.slice A9 (toI (rdyL (gR es) k [])).length c9) (fun j => (cnw es [] j : Int)) (tos es) (toI (rdyL (gR es) k [])) ∧ Below w.heap.size w W9) := fun W9 h9 => by
              have hnb : ∀ b, OB B gw (.slice A9 (toI (rdyL (gR es) k [])).length c9) b → w1.heap.size ≤ b := hN.base
              have hk9 : Keeps (fun b => b ≠ R) wr W9 := by
                rw [h9]
                exact (((Keeps.refl _ wr).setCell (q := ⟨R, 0, none⟩) (fun _ hp => hp rfl) _).setCell (q := ⟨R, 1, none⟩) (fun _ hp => hp rfl) _).setCell (q := ⟨R, 2, none⟩) (fun _ hp => hp rfl) _
              have hN9 := hN.keep hk9 (fun b hb => by have := hnb b hb; omega) (fun b hb => hb)
              obtain ⟨a9, cc9, h91, h92⟩ := hN9.re
              refine Lib.hid ⟨by rw [h9]; exact three_put hRW _ _ _, ⟨own_mono hN9.box.own (by omega), hN9.rw_, ⟨a9, cc9, h91, fun i hi => (h92 i hi).imp fun b hb => ⟨fun e => hb.1 (.inr (.inl e)), fun e => hb.1 (.inr (.inr e))⟩⟩, ⟨hew, fun e => hN9.nE (.inr (.inr e))⟩, hN9.nV, by omega⟩, ?_⟩
              exact hbW.trans (hk9.below hbW.size (fun b hb => by omega))
            have HF9 := Lib.hid hfinal
            have hRB : ¬ (R = B) := by omega
            clear hfinal hN hSt hbW e1 hRW hRO
            subst hRR2
            go_wp2_with fail
            obtain ⟨q1, q2, q3⟩ := (HF9.out _ rfl).out
            refine bodyPost_ret (results_cell_row rfl _ _ (w.heap.size + 1) 58 _ (0, 0) _ rfl q1 rfl rfl Tryd.infoNd) rfl ?_
            exact ⟨ge, gw, _, rfl, q2, q3⟩
end Go.Proofs.YtipihchlhkjdjaaDoor

namespace Go.Proofs.YtipihchlhkjdjaaDoor
open Go.RowKit
set_option maxRecDepth 100000

/-- a list of lists that the call owns: its row may grow; the blocks of O are others -/
def LX (w : World) (v : Value) (ls : List (List Int)) (O : Nat → Prop) (hd : List Value) : Prop := ∀ k, k < ls.length → ∃ A c, hd[k]? = some (.slice A (ls.getD k []).length c) ∧ RdJ w (fun b => v.ownBlock ≠ some b ∧ ¬ O b) A (ls.getD k [])
def OwnX (w : World) (base : Nat) (v : Value) (ls : List (List Int)) (O : Nat → Prop) : Prop := ∃ hd : List Value, w.ownsRow base 34 1 v ls.length hd ∧ hd.length = ls.length ∧ LX w v ls O hd ∧ ∀ b, v.ownBlock = some b → ¬ O b
theorem OwnX.nil (w : World) (base : Nat) (O : Nat → Prop) : OwnX w base (.slice none 0 0) [] O := ⟨[], World.ownsRow_nil _ _ _ _, rfl, fun k hk => by simp at hk, fun b hb => by simp [Value.ownBlock] at hb⟩
theorem OwnX.stepO {w w' : World} {base : Nat} {v : Value} {ls : List (List Int)} {O O' : Nat → Prop} (h : OwnX w base v ls O) (hs : StepO O O' w w') : OwnX w' base v ls O' := by
  obtain ⟨hd, h1, h2, h3, h4⟩ := h
  refine ⟨hd, own_keep h1 hs.keeps h4, h2, fun k hk => ?_, fun b hb => hs.not (h1.lt b hb).2 (h4 b hb)⟩
  obtain ⟨A, c, h5, h6⟩ := h3 k hk
  exact ⟨A, c, h5, h6.keep hs.keeps fun b hb hp => ⟨hp.2, hp.1, hs.not hb hp.2⟩⟩
theorem getD_first {α : Type} (l r : List α) {k : Nat} (h : k < l.length) {d : α} : (l ++ r).getD k d = l.getD k d := by
  unfold List.getD; rw [List.getElem?_append_left h]
theorem OwnX.app {w w1 : World} {base c : Nat} {v v' : Value} {ls : List (List Int)} {hd : List Value} {O : Nat → Prop} {A : Option Addr} {zs : List Int} (hl : hd.length = ls.length) (h : LX w v ls O hd) (hv : ∀ b, v.ownBlock = some b → ¬ O b) (hO : ∀ b, O b → b < w.heap.size) (hz : RdJ w (fun b => v.ownBlock ≠ some b ∧ ¬ O b) A zs) (o : Obj)
    (hown : w1.ownsRow base 34 1 v' (ls.length + 1) (hd ++ [.slice A zs.length c])) (hg : (w.alloc o).grownBy w1 v.ownBlock) (hat : v'.ownBlock = v.ownBlock ∨ v'.ownBlock = some (w.alloc o).heap.size) : OwnX w1 base v' (ls ++ [zs]) O := by
  have hk1 : Keeps (fun b => v.ownBlock ≠ some b) w w1 := Keeps.grown ((Keeps.refl _ w).alloc o) hg (fun r hr _ hp => hp hr)
  have hat2 : ∀ b, b < w.heap.size → v.ownBlock ≠ some b → v'.ownBlock ≠ some b := fun b hb hn e => by
    rcases hat with h1 | h1
    · exact hn (h1.symm.trans e)
    · rw [h1] at e; injection e with e; simp at e; omega
  have key : ∀ {A : Option Addr} {zs : List Int}, RdJ w (fun b => v.ownBlock ≠ some b ∧ ¬ O b) A zs → RdJ w1 (fun b => v'.ownBlock ≠ some b ∧ ¬ O b) A zs := fun hr => hr.keep hk1 fun b hb hp => ⟨hp.1, hat2 b hb hp.1, hp.2⟩
  refine ⟨hd ++ [.slice A zs.length c], by simpa using hown, by simp [hl], fun k hk => ?_, fun b hb ho => ?_⟩
  · rw [List.length_append, List.length_singleton] at hk
    by_cases e : k < ls.length
    · obtain ⟨A', c', h4, h5⟩ := h k e
      refine ⟨A', c', ?_, ?_⟩
      · rw [List.getElem?_append_left (by omega), getD_first _ _ e]; exact h4
      · rw [getD_first _ _ e]; exact key h5
    · obtain rfl : k = ls.length := by omega
      have e1 : (ls ++ [zs]).getD ls.length [] = zs := by simp [List.getD]
      refine ⟨A, c, ?_, ?_⟩
      · rw [e1, ← hl]; simp
      · rw [e1]; exact key hz
  · rcases hat with h1 | h1
    · exact hv b (h1 ▸ hb) ho
    · rw [h1] at hb
      injection hb with hb
      have := hO b ho
      simp at hb
      omega
theorem OwnX.rd {w : World} {base : Nat} {v : Value} {ls : List (List Int)} {O : Nat → Prop} (h : OwnX w base v ls O) (hl : ls.length ≤ 1048576) : ∃ A c, v = .slice A ls.length c ∧ RdII w w.heap.size A ls ∧ ls.length ≤ c := by
  obtain ⟨hd, h1, h2, h3, _⟩ := h
  obtain ⟨A, c, hv⟩ := own_any h1
  have h5 : ∀ i, ∃ Ac : Option Addr × Nat, i < ls.length → hd[i]? = some (.slice Ac.1 (ls.getD i []).length Ac.2) ∧ RdI w w.heap.size Ac.1 (ls.getD i []) := fun i => by
    by_cases hi : i < ls.length
    · obtain ⟨A, c, q1, q2⟩ := h3 i hi
      exact ⟨(A, c), fun _ => ⟨q1, q2.toI⟩⟩
    · exact ⟨(none, 0), fun h => absurd h hi⟩
  refine ⟨A, c, hv, ⟨hl, fun i => (h5 i).choose.1, fun i => (h5 i).choose.2, fun hn => ?_, fun k hk => ((h5 k).choose_spec hk).2⟩, own_cap_le (hv ▸ h1)⟩
  obtain ⟨g, cap, hv2, _, hg⟩ := own_shape h1 hn
  rw [hv2] at hv h1
  injection hv with hA
  refine ⟨g, 0, hA.symm, hg, fun k hk => ?_⟩
  rw [Nat.zero_add, h1.cellAt k (by omega)]
  exact ((h5 k).choose_spec hk).1
def lnX : Value → Nat
  | .slice _ n _ => n
  | _ => 0
theorem OwnX.len {w : World} {base : Nat} {v : Value} {ls : List (List Int)} {O : Nat → Prop} (h : OwnX w base v ls O) : lnX v = ls.length := by
  obtain ⟨hd, h1, _⟩ := h
  obtain ⟨A, c, rfl⟩ := own_any h1
  rfl
/-- the schedule in its box -/
theorem AI.box {w : World} {base ge gw m : Nat} {A : Option Addr} {c : Nat} {wt : Nat → Int} {xs : Nat → List Int} {rs : List Int} (h : AI w base ge gw m (.slice A rs.length c) wt xs rs) (hb : base ≤ w.heap.size) :
    NS (fun b => b < w.heap.size + 1) (w.alloc (.cells #[.slice A rs.length c, .slice (some ⟨ge, 0, none⟩) m m, .slice (some ⟨gw, 0, none⟩) m m] 58)) base w.heap.size gw ge m (.slice A rs.length c) wt xs rs := by
  have hN := N3.new w (.slice A rs.length c) (.slice (some ⟨ge, 0, none⟩) m m) (.slice (some ⟨gw, 0, none⟩) m m)
  obtain ⟨a, cc, h1, h2⟩ := h.re
  obtain ⟨k0, k1, k2⟩ := three_cells hN
  have hka : Keeps (fun b => b < w.heap.size) w (w.alloc (.cells #[.slice A rs.length c, .slice (some ⟨ge, 0, none⟩) m m, .slice (some ⟨gw, 0, none⟩) m m] 58)) := (Keeps.refl _ w).alloc _
  have l1 := h1.lt
  have l2 := h.rw_.lt
  have hvn : ∀ b, w.heap.size ≤ b → (Value.slice A rs.length c).ownBlock ≠ some b := fun b hb e => by have := (h.own.lt b e).2; omega
  exact ⟨⟨k0, hN.fz 0, h.own.alloc _, hvn _ (Nat.le_refl _)⟩, k1, k2, h.rw_.alloc _, ⟨a, cc, h1.alloc _, fun i hi => (h2 i hi).keep hka fun b hb hp => ⟨hb, fun ho => by
    rcases ho with e | e | e
    · omega
    · exact hp.1 e
    · exact hp.2 e, by omega⟩⟩, by omega, fun ho => by
    rcases ho with e | e | e
    · omega
    · exact h.nE.1 e
    · exact h.nE.2 e, by omega, h.nV, hb, h.bW⟩

set_option maxHeartbeats 8000000 in
theorem rounds_cap (A : Option Addr) (c : Nat) (N : Int) (es : List (Int × Int)) (wk : Int) (w : World) (he : RdE w w.heap.size A es) (hT : Tab w) :
    Calls Tryd.prog 9 #[.agg #[.int .i64 N, .slice A es.length c], .int .i64 wk] w fun e w' => ∃ A1 c1, e = .returned (.tuple #[.slice A1 (rndL N es wk).length c1, .int .i64 (rndE N es wk)]) ∧ RdII w' w'.heap.size A1 (rndL N es wk) ∧ Below w.heap.size w w' ∧ (rndL N es wk).length ≤ c1 := by
  have hroom := he.room
  obtain ⟨i0, hi, hz0, hz1, hz2⟩ := info_parts Tryd.infoSI
  go_enter Tryd.func9, Tryd.ntmps9
  go_wp2_with fail
  have g1 := GB.new w 24 N (.slice A es.length c)
  have hB := below_alloc w (.cells #[.int .i64 N, .slice A es.length c] 24)
  obtain ⟨w1, hw1⟩ : ∃ w1, w1 = w.alloc (.cells #[.int .i64 N, .slice A es.length c] 24) := ⟨_, rfl⟩
  rw [← hw1] at g1 hB ⊢
  have hs := hB.size
  replace he := he.step hB
  replace hT := hT.step hB
  clear hw1
  refine (wrong_any A c N es _ he hT).mono ?_
  rintro e w2 ⟨rfl, hb⟩
  replace g1 := gb_step g1 hb
  replace he := he.step hb
  replace hB := below_step hB hs hb
  replace hs := hB.size
  clear hb hT
  have gl := g1.e
  have gn := g1.n
  by_cases hE : errn N es = 0
  · by_cases hW : 1 ≤ wk ∧ wk ≤ 16
    · obtain ⟨m, rfl, hin, hfull⟩ := errn_split hE
      obtain ⟨wn, rfl⟩ : ∃ wn : Nat, wk = (wn : Int) := ⟨wk.toNat, by omega⟩
      have hm : m ≤ 200 := by have := okN_of hin; omega
      have hw2 : 1 ≤ wn := by omega
      have hw3 : wn ≤ 16 := by omega
      have hR0 : rndE m es wn = 0 := by unfold rndE; rw [if_neg (by omega), if_pos hW]
      have hRL : rndL m es wn = rds (gR es) m wn (grn (gR es) m wn) := by unfold rndL; rw [if_pos hR0, Int.toNat_natCast, Int.toNat_natCast]
      rw [hE]
      have HR0 := Lib.hid hR0
      have HRL := Lib.hid hRL
      have HAll := Lib.hid (all_any A c m hm es hin w2 he)
      have hcyc : ∀ x, ¬ Path (gR es) x x := fun x hp => by
        have hgd := good_topoN (gR es) m m
        have hx : x < m := by
          obtain ⟨b, hb, _⟩ := hp.last
          exact (gR_lt hin _ _ hb).2
        exact hgd.acyclic (gR_lt hin) (hgd.all (Nat.le_of_eq hfull.symm) hx) hp
      have HIN := Lib.hid hin
      have HCY := Lib.hid hcyc
      have t1 : ((wn : Int) < 1) = False := by simp; omega
      have t2 : (16 < (wn : Int)) = False := by simp; omega
      clear hin hfull hcyc hE hR0 hRL hW
      go_wp2_with fail
      refine HAll.out.mono ?_
      rintro e w3 ⟨ge, gw, v, rfl, hA, hb3⟩
      obtain ⟨A3, c3, rfl⟩ := own_any hA.own
      have hNS := hA.box hb3.size
      have hb4 : Below w2.heap.size w2 (w3.alloc (.cells #[.slice A3 (toI (rdyL (gR es) m [])).length c3, .slice (some ⟨ge, 0, none⟩) m m, .slice (some ⟨gw, 0, none⟩) m m] 58)) := hb3.trans ((below_alloc w3 _).mono hb3.size)
      have hs4 : (w3.alloc (.cells #[.slice A3 (toI (rdyL (gR es) m [])).length c3, .slice (some ⟨ge, 0, none⟩) m m, .slice (some ⟨gw, 0, none⟩) m m] 58)).heap.size = w3.heap.size + 1 := by simp
      obtain ⟨B, hBB⟩ : ∃ B, B = w3.heap.size := ⟨_, rfl⟩
      rw [← hBB] at hNS hs4
      have HBB := Lib.hid hBB
      have HHB := Lib.hid hB
      have hs3 := hb3.size
      clear hA hb3 hB HAll hBB
      go_wp2_with fail
      rw [← HBB.out]
      obtain ⟨w4, hw4⟩ : ∃ w4, w4 = w3.alloc (.cells #[.slice A3 (toI (rdyL (gR es) m [])).length c3, .slice (some ⟨ge, 0, none⟩) m m, .slice (some ⟨gw, 0, none⟩) m m] 58) := ⟨_, rfl⟩
      rw [← hw4] at hNS hb4 hs4 ⊢
      clear hw4
      have hB4 : w2.heap.size ≤ B := by have := HBB.out; omega
      clear gl gn g1
      go_loopw [8] (fun rv wr => ∃ (k : Nat) (v : Value), k ≤ grn (gR es) m wn ∧ NS (fun b => b < B + 1) wr w2.heap.size B gw ge m v (fun j => (cnw es (gdn (gR es) m wn k) j : Int)) (tos es) (toI (rdyL (gR es) m (gdn (gR es) m wn k))) ∧ OwnX wr (B + 1) rv (rds (gR es) m wn k) (OB B gw v) ∧ Below w2.heap.size w2 wr ∧ B + 1 ≤ wr.heap.size) (fun rv _ => grn (gR es) m wn - lnX rv)
      case atStart => exact ⟨0, _, Nat.zero_le _, hNS, OwnX.nil _ _ _, hb4, by omega⟩
      case round =>
        obtain ⟨k, v, hk, hN, hO, hbr, hBs⟩ := hrel
        clear hNS hb4
        have hcell := hN.box.cell
        obtain ⟨A5, c5, rfl⟩ := own_any hN.box.own
        have hgr := grn_spec hw2 HCY.out (R := gR es) (N := m)
        have hnil := rdyL_nil hw2 HCY.out (R := gR es) (N := m) (k := k) (fun j hj => hgr.2.1 j (by omega))
        obtain ⟨zs, hzs⟩ : ∃ zs, zs = toI (rdyL (gR es) m (gdn (gR es) m wn k)) := ⟨_, rfl⟩
        obtain ⟨l, hl⟩ : ∃ l, l = zs.length := ⟨_, rfl⟩
        have hzl : zs.length = (rdyL (gR es) m (gdn (gR es) m wn k)).length := by rw [hzs, toI_len]
        rw [← hzs] at hN hcell hO
        rw [← hl] at hcell hO
        by_cases hkr : k < grn (gR es) m wn
        · have hlp : 0 < zs.length := by
            rw [hzl]
            refine List.length_pos_iff.2 fun e => ?_
            have := hnil.1 e
            omega
          have hlp2 : ((0 : Int) < (l : Int)) := by omega
          have hll : zs.length ≤ 200 := by
            have := rl_len m (ready (gR es) m (gdn (gR es) m wn k))
            have e : rl m (ready (gR es) m (gdn (gR es) m wn k)) = zs := by rw [hzs]; rfl
            rw [e] at this
            omega
          have HTk := Lib.hid (take_any B w2.heap.size (.slice A5 zs.length c5) zs wn wr (by rw [← hl]; rw [← hl] at hN; exact hN.box) hlp hw2 (by omega) (by omega))
          rw [← hl] at hN
          have HN := Lib.hid hN
          have HO := Lib.hid hO
          have HBR := Lib.hid hbr
          have HL := Lib.hid hl
          have HZ := Lib.hid hzs
          rw [show zs.length = l from hl.symm] at HTk
          have hgr3 := Lib.hid hgr.2.2
          clear hN hO hbr hl hzs hzl hnil hgr hlp hll
          go_wp2_with fail
          refine HTk.out.mono ?_
          rintro e w5 ⟨v2, rfl, h2, v', hbx, ht, hve⟩
          obtain ⟨A6, c6, rfl⟩ := own_any h2
          obtain ⟨hN5, hS5⟩ := HN.out.turn hbx ht
          have hrdm : zs.take wn = toI (rnow (gR es) m wn (gdn (gR es) m wn k)) := by rw [HZ.out]; unfold toI rnow; rw [List.map_take]
          have hdrp : zs.drop wn = rl m (rdp (gdn (gR es) m wn k ++ rnow (gR es) m wn (gdn (gR es) m wn k)) fun j => (cnw es (gdn (gR es) m wn k) j : Int)) := by rw [HZ.out]; exact rdy_drop HIN.out _ _
          rw [hdrp] at hN5
          rw [hrdm] at h2 ⊢
          obtain ⟨r, hr⟩ : ∃ r, r = rnow (gR es) m wn (gdn (gR es) m wn k) := ⟨_, rfl⟩
          rw [← hr] at hN5 h2 ⊢
          have hrl : (toI r).length = r.length := toI_len r
          have hO5 := HO.out.stepO hS5
          have hsz5 : wr.heap.size ≤ w5.heap.size := ht.keep.size
          have hvb := HN.out.box.vlt
          have hgwl := HN.out.rw_.lt
          have hBl := HN.out.box.blt
          have hnw : ∀ b, wr.heap.size ≤ b → ¬ OB B gw v' b := fun b hb ho => by
            rcases ho with e | e | e
            · omega
            · omega
            · rw [hve] at e
              have := hvb b e
              omega
          have hrvl : ∀ rv : Value, OwnX wr (B + 1) rv (rds (gR es) m wn k) (OB B gw (.slice A5 l c5)) → ∀ b, rv.ownBlock = some b → b < wr.heap.size := fun rv ⟨_, q1, _⟩ b hb => (q1.lt b hb).2
          have hrvl2 := hrvl u8 HO.out
          have hJ5 : RdJ w5 (fun b => u8.ownBlock ≠ some b ∧ ¬ OB B gw v' b) A6 (toI r) := by
            have hbd : ∀ k, 0 ≤ zd (toI r) k ∧ zd (toI r) k ≤ 200 := zd_bnd (fun z hz => by
              unfold toI at hz
              obtain ⟨j, hj, rfl⟩ := List.mem_map.1 hz
              have := (rnow_sub (by rw [← hr]; exact hj)).1
              omega) (by omega) (by omega)
            refine ⟨fun k => by have := hbd k; omega, fun k => by have := hbd k; omega, by rw [hrl]; have := rnow_len (gR es) m wn (gdn (gR es) m wn k); rw [← hr] at this; omega, fun hn => ?_⟩
            obtain ⟨g, cap, hv2, hgb, hg⟩ := own_shape h2 hn
            rw [hv2] at h2
            injection hv2 with hA6
            refine ⟨g, 0, hA6, ⟨fun e => by have := hrvl2 g e; omega, hnw g hgb⟩, hg, fun j hj => ?_⟩
            rw [Nat.zero_add, h2.cellAt j (by omega)]
            exact iVals_at _ j hj
          have HEx := Lib.hid (execute_any es m hm HIN.out hroom (gdn (gR es) m wn k) r (gdn_good _ _ _ _) (fun x hx => rnow_sub (by rw [← hr]; exact hx)) (by rw [hr]; exact rnow_nodup _ _ _ _) w2.heap.size B gw ge v' A6 c6 w5 (fun b => b < B + 1) hN5 (hJ5.imp fun b hb => hb.2) (by have := HBR.out.size; omega))
          have HJ5 := Lib.hid hJ5
          have HO5 := Lib.hid hO5
          have HS5 := Lib.hid hS5
          have HRR := Lib.hid hr
          have HRV := Lib.hid hrvl2
          rw [hrl]
          clear hN5 h2 hbx ht hve hrdm hdrp hr hO5 hS5 hvb hgwl hBl hnw hrvl hrvl2 hJ5 hcell
          go_wp2_with fail
          refine HEx.out.mono ?_
          rintro e w6 ⟨rfl, v6, hN6, hS6⟩
          have hO6 := HO5.out.stepO hS6
          have hJ6 : RdJ w6 (fun b => u8.ownBlock ≠ some b ∧ ¬ OB B gw v6 b) A6 (toI r) := HJ5.out.keep hS6.keeps fun b hb hp => ⟨hp.2, hp.1, hS6.not hb hp.2⟩
          rw [rdp_done HIN.out] at hN6
          have eg : gdn (gR es) m wn k ++ r = gdn (gR es) m wn (k + 1) := by rw [HRR.out]; rfl
          rw [eg] at hN6
          have hb6 : Below w2.heap.size w2 w6 := by
            have q1 : StepO (OB B gw (.slice A5 l c5)) (OB B gw v6) wr w6 := HS5.out.trans hS6
            exact HBR.out.trans (q1.keeps.below HBR.out.size fun b hb ho => by have := HN.out.base b ho; omega)
          have hs6 : B + 1 ≤ w6.heap.size := Nat.le_trans hBs (HS5.out.trans hS6).keeps.size
          obtain ⟨hd, ho6, hdl, hll, hov⟩ := hO6
          have hlen : (rds (gR es) m wn k).length = k := rds_len _ _ _ _
          have hg3 := hgr3.out
          have h3 : (rds (gR es) m wn k).length + 1 ≤ maxLen := by rw [hlen]; unfold maxLen; omega
          have h4 : ((rds (gR es) m wn k).length + 1) * 24 ≤ 140737488355328 := by rw [hlen]; omega
          have h5 : B + 1 ≤ (w6.alloc (.cells #[.slice A6 r.length c6] 34)).heap.size := by simp; omega
          have hOt : ∀ b, OB B gw v6 b → b < w6.heap.size := hN6.top
          have HN6 := Lib.hid hN6
          have HJ6 := Lib.hid hJ6
          have HB6 := Lib.hid hb6
          clear hN6 hJ6 hb6 eg hS6 hlen
          go_wp2_with (at_builtin; go_loud (refine wpList_append_own_at _ rfl _ _ 25 rfl (B + 1) 34 i0 (.slice none 0 0) 1 24 Tryd.underlying25 hi hz0 hz1 hz2 rfl (by decide) _ _ _ rfl (ho6.alloc _) ⟨w6.heap.size, 0, none⟩ 1 1 [.slice A6 r.length c6] rfl rfl (cell_one_new _ _ _) (by simp [Value.oneCell']) h3 h4 h5 ?_; intro v8 w7 hown' hgrow _ hat))
          have hO7 := OwnX.app hdl hll hov hOt HJ6.out (.cells #[.slice A6 r.length c6] 34) (c := c6) (by rw [hrl]; exact hown') hgrow hat
          have hk7 : Keeps (fun b => u8.ownBlock ≠ some b) w6 w7 := Keeps.grown ((Keeps.refl _ w6).alloc _) hgrow (fun q hq _ hp => hp hq)
          have hrvb : ∀ b, u8.ownBlock = some b → B + 1 ≤ b := fun b hb => (ho6.lt b hb).1
          have hN7 := HN6.out.keep hk7 (fun b hb e => hov b e hb) (fun b hb e => by have := hrvb b e; omega)
          have hb7 : Below w2.heap.size w2 w7 := HB6.out.trans (hk7.below HB6.out.size fun b hb e => by have := hrvb b e; omega)
          have hs7 : B + 1 ≤ w7.heap.size := Nat.le_trans hs6 hk7.size
          have er : rds (gR es) m wn k ++ [toI r] = rds (gR es) m wn (k + 1) := by rw [rds_snoc, HRR.out]
          rw [er] at hO7
          have hl8 := hO7.len
          have hl6 := HO.out.len
          rw [rds_len] at hl8 hl6
          clear hown' hgrow hat ho6 hll hk7
          go_roundw
          case rel => exact ⟨k + 1, v6, by omega, hN7, hO7, hb7, hs7⟩
          case measure => simp [hl8, hl6]; omega
        · obtain rfl : k = grn (gR es) m wn := by omega
          have hl0 : l = 0 := by rw [hl, hzl, hnil.2 rfl]; rfl
          subst hl0
          obtain ⟨A9, c9, rfl, hr9, hc9⟩ := hO.rd (by rw [rds_len]; omega)
          have HC9 := Lib.hid hc9
          have HR9 := Lib.hid hr9
          have HBR := Lib.hid hbr
          clear hN hO hr9 hc9 hbr hzs hzl hnil hgr hl
          go_wp2_with fail
          go_ret2
          rw [HR0.out, HRL.out]
          exact ⟨A9, c9, rfl, HR9.out, HHB.out.trans (HBR.out.mono HHB.out.size), HC9.out⟩
    · have hR0 : rndE N es wk = 2 := by unfold rndE; rw [if_neg (by omega), if_neg hW]
      have hRL : rndL N es wk = [] := by unfold rndL; rw [if_neg (by rw [hR0]; decide)]
      have HR0 := Lib.hid hR0
      have HRL := Lib.hid hRL
      rw [hE]
      clear hR0 hRL hE
      by_cases h1 : wk < 1
      · go_wp2_with fail
        go_ret2
        rw [HR0.out, HRL.out]
        exact ⟨none, 0, rfl, ⟨by simp, fun _ => none, fun _ => 0, fun h => by simp at h, fun k hk => by simp at hk⟩, hB, Nat.le_refl _⟩
      · have h2 : 16 < wk := by omega
        go_wp2_with fail
        go_ret2
        rw [HR0.out, HRL.out]
        exact ⟨none, 0, rfl, ⟨by simp, fun _ => none, fun _ => 0, fun h => by simp at h, fun k hk => by simp at hk⟩, hB, Nat.le_refl _⟩
  · have hR0 : rndE N es wk = errn N es := by unfold rndE; rw [if_pos hE]
    have hRL : rndL N es wk = [] := by unfold rndL; rw [if_neg (by rw [hR0]; exact hE)]
    obtain ⟨E, hEE⟩ : ∃ E, E = errn N es := ⟨_, rfl⟩
    have ne1 : (E != 0) = true := by rw [hEE]; simpa using hE
    have HR0 := Lib.hid hR0
    have HRL := Lib.hid hRL
    have HEE := Lib.hid hEE
    rw [← hEE]
    clear hR0 hRL hE hEE
    go_wp2_with fail
    go_ret2
    rw [HR0.out, HRL.out, ← HEE.out]
    exact ⟨none, 0, rfl, ⟨by simp, fun _ => none, fun _ => 0, fun h => by simp at h, fun k hk => by simp at hk⟩, hB, Nat.le_refl _⟩
theorem rounds_any (A : Option Addr) (c : Nat) (N : Int) (es : List (Int × Int)) (wk : Int) (w : World) (he : RdE w w.heap.size A es) (hT : Tab w) :
    Calls Tryd.prog 9 #[.agg #[.int .i64 N, .slice A es.length c], .int .i64 wk] w fun e w' => ∃ A1 c1, e = .returned (.tuple #[.slice A1 (rndL N es wk).length c1, .int .i64 (rndE N es wk)]) ∧ RdII w' w'.heap.size A1 (rndL N es wk) ∧ Below w.heap.size w w' :=
  (rounds_cap A c N es wk w he hT).mono fun _ _ ⟨A1, c1, h1, h2, h3, _⟩ => ⟨A1, c1, h1, h2, h3⟩
end Go.Proofs.YtipihchlhkjdjaaDoor
