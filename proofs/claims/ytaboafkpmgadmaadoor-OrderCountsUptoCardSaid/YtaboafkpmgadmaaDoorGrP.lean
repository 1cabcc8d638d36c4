/-
  Contract of graph.predecessors: from how many nodes an edge leads to each node.
-/
import Derived.Test.YtaboafkpmgadmaaDoorGrIt
import Derived.RangeFuncNested
namespace Go.Proofs.YtaboafkpmgadmaaDoor
open Go.RowKit Go.Shelf
set_option maxRecDepth 100000

attribute [local go_sem] Oper.semAt_some

/-- how many of the edges lead to j -/
def cntTo (l : List (Nat × Nat)) (j : Nat) : Nat := l.countP fun e => decide (e.2 = j)
theorem cntTo_snoc (l : List (Nat × Nat)) (i x : Nat) : cntTo (l ++ [(i, x)]) = fun j => if j = x then cntTo l x + 1 else cntTo l j := by
  funext j
  unfold cntTo
  rw [List.countP_append]
  by_cases e : j = x
  · subst e; simp
  · have : ¬ x = j := fun h => e h.symm
    simp [e, this]
theorem cntTo_le (l : List (Nat × Nat)) (j : Nat) : cntTo l j ≤ l.length := List.countP_le_length

theorem rowIs_keeps {p : Nat → Prop} {w w' : World} {g t m : Nat} {f : Nat → Value} (h : w.rowIs g t m f) (hk : Keeps p w w') (hg : p g) : w'.rowIs g t m f := h.of_block (hk.block g h.lt hg)
theorem boxed_keeps {p : Nat → Prop} {w w' : World} {B t : Nat} {v : Value} (h : Boxed w B t v) (hk : Keeps p w w') (hg : p B) : Boxed w' B t v := (hk.block B h.lt hg).trans h
theorem below_keeps {p : Nat → Prop} {w0 w w' : World} {n : Nat} (h : Below n w0 w) (hk : Keeps p w w') (hn : n ≤ w.heap.size) (hp : ∀ k, k < n → p k) : Below n w0 w' := h.trans (hk.below hn hp)

theorem EBox.keeps {p : Nat → Prop} {w w' : World} {q : Nat} {x y : Int} (h : EBox w q x y) (hk : Keeps p w w') (hp : p q) : EBox w' q x y := by
  have hlt := World.block_lt_of_cell? w _ h.x
  exact ⟨(World.cell?_of_block (hk.block q hlt hp)).trans h.x, (World.cell?_of_block (hk.block q hlt hp)).trans h.y⟩

theorem boxed_set {W : World} {B t : Nat} {v : Value} (h : Boxed W B t v) {p : Addr} (hne : B ≠ p.block) (u : Value) : Boxed (W.setCell p u) B t v := (Below.heap_setCell W p u B hne).trans h
theorem rowIs_putObj {W : World} {g t m D : Nat} {f : Nat → Value} (h : W.rowIs g t m f) (hne : g ≠ D) (o : Obj) : (W.putObj D o).rowIs g t m f := h.of_block (World.putObj_heap_other hne)

/-- what holds between two rounds of predecessors' loop -/
structure PreI (T E : TypeId) (w0 : World) (Bc gc m : Nat) (l : List (Nat × Nat)) (O : Nat → Prop) (W : World) : Prop where
  own : O gc
  row : W.rowIs gc E m (fun j => .int .i64 (cntTo l j : Int))
  box : Boxed W Bc T (.slice (some ⟨gc, 0, none⟩) m m)
  below : Below w0.heap.size w0 W

theorem PreI.keeps {T E : TypeId} {w0 : World} {Bc gc m B : Nat} {l : List (Nat × Nat)} {O : Nat → Prop} {W W' : World} (h : PreI T E w0 Bc gc m l O W) (hk : Keeps (fun k => k < B ∨ O k) W W') (h1 : w0.heap.size ≤ B) (h2 : Bc < B) : PreI T E w0 Bc gc m l O W' :=
  ⟨h.own, rowIs_keeps h.row hk (.inr h.own), boxed_keeps h.box hk (.inl h2), below_keeps h.below hk h.below.size (fun _ hk => .inl (Nat.lt_of_lt_of_le hk h1))⟩

set_option maxHeartbeats 2000000 in
theorem predecessors_in (n : Nat) (hn : 6 ≤ n) (m : Nat) (hm : m ≤ 200) (A : Option Addr) (c : Nat) (xss : List (List Nat)) (hl : xss.length = m) (w : World) (hx : RdUU w w.heap.size A xss)
    (hbits : ∀ k, k < m → ∀ j, bitB (st xss k) j = true → j < m) (hroom : ∀ k, k < m → (st xss k).length ≤ 1024) (hT : Tab w) :
    CallsIn Fence.wide n Tryd.prog 82 #[.slice A m c] w fun e w' => ∃ g, e = .returned (.slice (some ⟨g, 0, none⟩) m m) ∧ w.heap.size ≤ g ∧ w'.rowIs g 3 m (fun j => .int .i64 (cntTo (elist xss m) j : Int)) ∧ Below w.heap.size w w' := by
  have h1 : 1 ≤ n := by omega
  have hmk := run_make_row' (P := Tryd.prog) 25 3 (.int .i64 0) 8 Tryd.underlying25 Tryd.infoInt rfl .i64 .i64 m (by omega) (by omega)
  refine callsIn_of_wp_marks Tryd.func82 rfl trivial ?_ rfl
  simp only [Tryd.ntmps82, List.size_toArray, List.length_cons, List.length_nil, Nat.reduceAdd, Nat.reduceSub, Array.replicate_succ, Array.replicate_zero, List.push_toArray, List.append_toArray, List.nil_append, List.cons_append]
  gi_wp2_with (refine ⟨trivial, ?_⟩; refine (edges_in (n - 1) _ _ _ _).mono ?_; rintro e w' ⟨rfl, rfl⟩)
  have hr0 := ((World.rowIs_made w (.int .i64 0) m 3).alloc (.cells #[.slice (some ⟨w.heap.size, 0, none⟩) m m] 25)).alloc (.cells #[.slice A m c] 29)
  have hb0 := (Boxed.new (w.alloc (.cells (madeCells #[.int .i64 0] m) 3)) 25 (.slice (some ⟨w.heap.size, 0, none⟩) m m)).alloc (.cells #[.slice A m c] 29)
  have hh0 := Boxed.new ((w.alloc (.cells (madeCells #[.int .i64 0] m) 3)).alloc (.cells #[.slice (some ⟨w.heap.size, 0, none⟩) m m] 25)) 29 (.slice A m c)
  obtain ⟨w3, hw3⟩ : ∃ w3, w3 = ((w.alloc (.cells (madeCells #[.int .i64 0] m) 3)).alloc (.cells #[.slice (some ⟨w.heap.size, 0, none⟩) m m] 25)).alloc (.cells #[.slice A m c] 29) := ⟨_, rfl⟩
  have hs3 : w3.heap.size = w.heap.size + 3 := by rw [hw3]; simp
  have hb3 : Below w.heap.size w w3 := by rw [hw3]; exact (((Below.refl _ _).alloc (Nat.le_refl _) _).alloc (by simp) _).alloc (by simp; omega) _
  rw [World.size_alloc] at hb0
  rw [World.size_alloc, World.size_alloc] at hh0
  rw [← hw3] at hr0 hb0 hh0 ⊢
  have hx3 := hx.below hb3
  have hT3 := hT.step hb3
  have hTn := hT.pos
  obtain ⟨gc, hgc⟩ : ∃ gc, gc = w.heap.size := ⟨_, rfl⟩
  rw [← hgc] at hr0 hb0 hh0 hs3 hx3 hTn ⊢
  have HGC := Lib.hid hgc
  have HS3 := Lib.hid hs3
  have hs3' : gc + 2 < w3.heap.size := by omega
  have hx0 := hx
  clear hw3 hx hT hmk hgc hs3
  have hI0 : PreI 25 3 w (gc + 1) gc m [] (fun k => k = gc) w3 := ⟨rfl, hr0.congr fun i hi => by simp [cntTo], hb0, hb3⟩
  refine wpIn_rangeFunc_O rfl h1 (gf := 116) (lb := #[.pointer (some ⟨gc + 1 + 1, 0, none⟩)]) rfl trivial (enters_of Tryd.func116 (by kernel_rfl) rfl)
    (edges1_in (n - 1) (by omega) m hm (gc + 1 + 1) c (fun b => b < gc) A xss hl w3 hx3.toP (fun b hb => by omega) hh0.cell (by omega) hbits hroom hT3) (Keeps.refl _ _) (fun _ => rfl)
    (fun ys O W => PreI 25 3 w (gc + 1) gc m (edVals ys) O W) (fun _ _ _ _ => False)
    ?stab (fun _ _ _ _ _ h _ => h.elim) (fun k => k = gc) (fun k hk => by subst hk; exact ⟨by omega, fun h => by rcases h with h | h | h <;> omega⟩) (fun k hk => by rcases hk with h | h | h <;> omega) hI0
    (fun pre x a' O W => PreI 25 3 w (gc + 1) gc m (edVals pre) O W ∧ ∃ q, O q ∧ q ≠ gc ∧ EBox W q x.1.1 x.1.2 ∧ a' = { tmps := #[.slice A m c, undef, .slice none 0 0, .pointer (some ⟨gc + 1, 0, none⟩), .pointer (some ⟨q, 0, none⟩), .slice A m c, .int .i64 (m : Int), .slice (some ⟨gc, 0, none⟩) m m, .slice A m c, .func (.func 116) #[] #[.pointer (some ⟨gc + 1 + 1, 0, none⟩)], .agg #[.int .i64 (x.1.1 : Int), .int .i64 (x.1.2 : Int)], undef, undef, undef, undef, undef, undef, undef, undef], defers := [] })
    ?stabx ?assign ?body ?done ?stop
  case stab =>
    intro s O W W' h hk
    exact h.keeps hk hb3.size (by omega)
  case stabx =>
    rintro pre x a' s O W W' ⟨h, q, hq, hne, hE, ha⟩ hk
    exact ⟨h.keeps hk hb3.size (by omega), q, hq, hne, hE.keeps hk (.inr hq), ha⟩
  case assign =>
    intro l pre x O W K hI hlen hsz htop hK
    have hE := EBox.new W x.1.1 x.1.2 38
    have hgl := hI.row.lt
    clear hI0 hr0 hb0 hh0
    gi_wp2
    refine hK _ (fun k => k = gc ∨ k = W.heap.size) _ ⟨(Keeps.refl _ W).alloc _, fun k hk => ?_, fun k hk => by simp; omega⟩ ⟨⟨.inl rfl, hI.row.alloc _, hI.box.alloc _, hI.below.alloc hI.below.size _⟩, W.heap.size, .inr rfl, by omega, hE, rfl⟩
    rcases hk with rfl | rfl
    · exact .inl hI.own
    · exact .inr (Nat.le_refl _)
  case body =>
    rintro l pre x a' O W ⟨hI, q, hq, hne, hE, rfl⟩ hlen hsz htop
    replace hlen : pre.length < m * 65536 := hlen
    have hcB := hI.box.cell
    have hcx := hE.x
    have hcy := hE.y
    have hrx := hI.row.cell x.2.2
    have hfx := hI.row.frozen x.1.2
    have hle := cntTo_le (edVals pre) x.1.2
    rw [edVals_len] at hle
    have hm2 : m * 65536 ≤ 13107200 := by omega
    have hx2 := x.2.2
    have hql := World.block_lt_of_cell? W _ hcx
    clear hI0 hr0 hb0 hh0
    gi_wp2
    refine ⟨fun k => k = gc, ⟨(Keeps.refl _ W).setCell (q := ⟨gc, x.1.2, none⟩) (fun _ h => h hI.own) _, fun k hk => .inl (by rw [hk]; exact hI.own), fun k hk => by rw [hk]; simpa using htop gc hI.own⟩, rfl, ?_, boxed_set hI.box (by simp) _, hI.below.setCell (p := ⟨gc, x.1.2, none⟩) (Nat.le_of_eq HGC.out.symm) _⟩
    refine (hI.row.set x.1.2 _).congr fun j hj => ?_
    rw [edVals_snoc, show x.1 = (x.1.1, x.1.2) from rfl, cntTo_snoc]
    by_cases e : j = x.1.2
    · simp [e]
    · simp [e]
  case done =>
    rintro D O xs W hD hOD hxs hI hK
    have hc := hI.box.cell
    clear hI0 hr0 hb0 hh0
    have HXS := Lib.hid hxs
    clear hxs
    gi_wp2
    refine ⟨by simp, .inl ⟨_, _, rfl, run_takeDeferred hK, ?_⟩⟩
    refine ⟨_, results_tmp rfl _ _ _, gc, rfl, Nat.le_of_eq HGC.out.symm, ?_, hI.below.trans (belowK_b (w := w) (Nat.le_refl _) W D _ _ (by have := HGC.out; omega) hK rfl rfl)⟩
    have hr := hI.row
    rw [HXS.out] at hr
    exact rowIs_putObj hr (by omega) _
  case stop =>
    rintro D c' O pre W _ _ _ h _
    exact h.elim
end Go.Proofs.YtaboafkpmgadmaaDoor
