/-
  Contract of the reference's Both: the two of a term.
-/
import Derived.Test.YtidgibkiacbgfaaSpMem
import Derived.Test.YtidgibkiacbgfaaChecked
import Derived.Outline
namespace Go.Proofs.Ytidgibkiacbgfaa
open Go.RowKit
set_option maxRecDepth 100000

/-- the answer of Both -/
def Tm.two (w : World) (m : Nat) (T : Tm) (v : Value) : Prop :=
  match T with
  | .nil => v = .tuple #[.agg Hd.zero.cells, .agg Hd.zero.cells, .bool false]
  | .one _ => v = .tuple #[.agg Hd.zero.cells, .agg Hd.zero.cells, .bool false]
  | .seq l r => ∃ hl hr, v = .tuple #[.agg hl.cells, .agg hr.cells, .bool true] ∧ TIn w m l hl ∧ TIn w m r hr
  | .par l r => ∃ hl hr, v = .tuple #[.agg hl.cells, .agg hr.cells, .bool true] ∧ TIn w m l hl ∧ TIn w m r hr

/-- two results in cells, one in a slot -/
theorem results_row2_tmp {P : Program} {fn : Func} {p q u : Tmp} {ty : TypeId} (h : fn.results = #[.cell p ty, .cell q ty, .tmp u]) (tmps : Array Value) (w : World) (g g' : Nat) (t t' : TypeId) (cs cs' : Array Value) (fr fr' : Nat × Nat) (d : TypeDesc)
    (hp : tmps.getD p undef = .pointer (some ⟨g, 0, none⟩)) (hg : w.heap[g]? = some (.cells cs t fr))
    (hq : tmps.getD q undef = .pointer (some ⟨g', 0, none⟩)) (hg' : w.heap[g']? = some (.cells cs' t' fr'))
    (hu : P.underlying ty = some d) (hd : (match d with | .struct _ | .array _ _ => true | _ => false) = true) (hi : (P.info? ty).map (·.size) = some cs.size) (hi' : (P.info? ty).map (·.size) = some cs'.size) :
    (results fn tmps).run P w = .ok (.tuple #[.agg cs, .agg cs', tmps.getD u undef]) w := by
  have hp' : tmps[p]?.getD undef = .pointer (some ⟨g, 0, none⟩) := by simpa using hp
  have hq' : tmps[q]?.getD undef = .pointer (some ⟨g', 0, none⟩) := by simpa using hq
  simp [results, h, hp', hq', asAddr, run_loadVar_row w g t ty cs fr d hg hu hd hi, run_loadVar_row w g' t' ty cs' fr' d hg' hu hd hi']

theorem Try.infoTm : (Try.prog.info? 26).map (·.size) = some 5 := by kernel_rfl

/-- block B holds a term's header -/
def TB (T : TypeId) (w : World) (B : Nat) (h : Hd) : Prop := w.heap[B]? = some (.cells h.cells T (0, 0))
section
variable {T : TypeId} {w w' : World} {B : Nat} {h : Hd}
theorem TB.new (w : World) (T : TypeId) (h : Hd) : TB T (w.alloc (.cells h.cells T)) w.heap.size h := World.alloc_heap_new w _
theorem TB.alloc (hb : TB T w B h) (o : Obj) : TB T (w.alloc o) B h := by
  have hlt : B < w.heap.size := (Array.getElem?_eq_some_iff.1 hb).1
  exact ((World.grownBy_alloc w o none).block B hlt (by simp)).trans hb
theorem TB.at (hb : TB T w B h) : HdAt w B 0 h := by
  constructor <;> simp only [World.cell?, show w.heap[B]? = _ from hb] <;> rfl
theorem TB.c0 (hb : TB T w B h) : w.cell? ⟨B, 0, none⟩ = some (.int .i64 h.k) := hb.at.h0
theorem TB.c1 (hb : TB T w B h) : w.cell? ⟨B, 1, none⟩ = some (.int .i64 h.c) := hb.at.h1
theorem TB.c2 (hb : TB T w B h) : w.cell? ⟨B, 2, none⟩ = some (.bool h.x) := hb.at.h2
theorem TB.c3 (hb : TB T w B h) : w.cell? ⟨B, 3, none⟩ = some (.int .i64 h.l) := hb.at.h3
theorem TB.c4 (hb : TB T w B h) : w.cell? ⟨B, 4, none⟩ = some (.slice h.A h.n h.cap) := hb.at.h4
theorem TB.frozen (hb : TB T w B h) (o : Nat) : w.frozen? ⟨B, o, none⟩ = false := by simp [World.frozen?, show w.heap[B]? = _ from hb]
theorem TB.lt (hb : TB T w B h) : B < w.heap.size := (Array.getElem?_eq_some_iff.1 hb).1
/-- a header is stored, cell by cell -/
def putHd (w : World) (B : Nat) (h : Hd) : World :=
  ((((w.setCell ⟨B, 0, none⟩ (.int .i64 h.k)).setCell ⟨B, 1, none⟩ (.int .i64 h.c)).setCell ⟨B, 2, none⟩ (.bool h.x)).setCell ⟨B, 3, none⟩ (.int .i64 h.l)).setCell ⟨B, 4, none⟩ (.slice h.A h.n h.cap)
theorem heap_set_in {w : World} {B i : Nat} {cs : Array Value} {fr : Nat × Nat} (hb : w.heap[B]? = some (.cells cs T fr)) (v : Value) : (w.setCell ⟨B, i, none⟩ v).heap[B]? = some (.cells (cs.set! i v) T fr) := by
  obtain ⟨hlt, hk⟩ := Array.getElem?_eq_some_iff.1 hb
  show (w.heap.modify B _)[B]? = _
  rw [Array.getElem?_eq_getElem (by rw [Array.size_modify]; exact hlt), Array.getElem_modify_self, hk]
  rfl
theorem TB.put {h' : Hd} (hb : TB T w B h) : TB T (putHd w B h') B h' :=
  heap_set_in (heap_set_in (heap_set_in (heap_set_in (heap_set_in hb _) _) _) _) _
theorem TB.put_ne {B' : Nat} {h' : Hd} (hb : TB T w B h) (hne : B ≠ B') : TB T (putHd w B' h') B h := by
  unfold TB putHd
  rw [Below.heap_setCell _ _ _ _ hne, Below.heap_setCell _ _ _ _ hne, Below.heap_setCell _ _ _ _ hne, Below.heap_setCell _ _ _ _ hne, Below.heap_setCell _ _ _ _ hne]
  exact hb
theorem below_put {m : Nat} {a : World} (hb : Below m a w) (hm : m ≤ B) (h' : Hd) : Below m a (putHd w B h') :=
  ((((hb.setCell (p := ⟨B, 0, none⟩) hm _).setCell (p := ⟨B, 1, none⟩) hm _).setCell (p := ⟨B, 2, none⟩) hm _).setCell (p := ⟨B, 3, none⟩) hm _).setCell (p := ⟨B, 4, none⟩) hm _
theorem TB.drew (hb : TB T w B h) : TB T w.drew B h := hb
end

theorem both_no (k c l : Int) (x : Bool) (A : Option Addr) (n cap : Nat) (w : World) (h : (k ≠ 2 ∧ k ≠ 3) ∨ n < 2) :
    Calls Try.prog 15 #[.agg #[.int .i64 k, .int .i64 c, .bool x, .int .i64 l, .slice A n cap]] w
      fun e w' => e = .returned (.tuple #[.agg Hd.zero.cells, .agg Hd.zero.cells, .bool false]) ∧ Below w.heap.size w w' := by
  have fin : ∀ (k : Int), Below w.heap.size w (((w.alloc (.cells #[.int .i64 k, .int .i64 c, .bool x, .int .i64 l, .slice A n cap] 26)).alloc (.cells Hd.zero.cells 26)).alloc (.cells Hd.zero.cells 26)) := fun k =>
    (((Below.refl _ _).alloc (Nat.le_refl _) _).alloc (by simp) _).alloc (by simp; omega) _
  have r1 : ∀ k : Int, TB 26 (((w.alloc (.cells #[.int .i64 k, .int .i64 c, .bool x, .int .i64 l, .slice A n cap] 26)).alloc (.cells Hd.zero.cells 26)).alloc (.cells Hd.zero.cells 26)) (w.heap.size + 1) Hd.zero := fun k => by
    have := (TB.new (w.alloc (.cells #[.int .i64 k, .int .i64 c, .bool x, .int .i64 l, .slice A n cap] 26)) 26 Hd.zero).alloc (.cells Hd.zero.cells 26)
    simpa using this
  have r2 : ∀ k : Int, TB 26 (((w.alloc (.cells #[.int .i64 k, .int .i64 c, .bool x, .int .i64 l, .slice A n cap] 26)).alloc (.cells Hd.zero.cells 26)).alloc (.cells Hd.zero.cells 26)) (w.heap.size + 1 + 1) Hd.zero := fun k => by
    have := TB.new ((w.alloc (.cells #[.int .i64 k, .int .i64 c, .bool x, .int .i64 l, .slice A n cap] 26)).alloc (.cells Hd.zero.cells 26)) 26 Hd.zero
    simpa using this
  go_enter Try.func15, Try.ntmps15
  rcases h with ⟨h2, h3⟩ | hn
  · go_wp2_with fail
    exact bodyPost_ret (results_row2_tmp rfl _ _ _ _ _ _ _ _ _ _ _ rfl (r1 _) rfl (r2 _) rfl rfl Try.infoTm Try.infoTm) rfl ⟨rfl, fin _⟩
  · by_cases h2 : k = 2
    · go_wp2_with fail
      exact bodyPost_ret (results_row2_tmp rfl _ _ _ _ _ _ _ _ _ _ _ rfl (r1 _) rfl (r2 _) rfl rfl Try.infoTm Try.infoTm) rfl ⟨rfl, fin _⟩
    · by_cases h3 : k = 3
      · go_wp2_with fail
        exact bodyPost_ret (results_row2_tmp rfl _ _ _ _ _ _ _ _ _ _ _ rfl (r1 _) rfl (r2 _) rfl rfl Try.infoTm Try.infoTm) rfl ⟨rfl, fin _⟩
      · go_wp2_with fail
        exact bodyPost_ret (results_row2_tmp rfl _ _ _ _ _ _ _ _ _ _ _ rfl (r1 _) rfl (r2 _) rfl rfl Try.infoTm Try.infoTm) rfl ⟨rfl, fin _⟩

theorem both_yes (k c l : Int) (x : Bool) (b o n cap : Nat) (hl hr : Hd) (w : World) (h : k = 2 ∨ k = 3) (hn : 2 ≤ n) (hb : b < w.heap.size) (hL : HdAt w b o hl) (hR : HdAt w b (o + 5) hr) :
    Calls Try.prog 15 #[.agg #[.int .i64 k, .int .i64 c, .bool x, .int .i64 l, .slice (some ⟨b, o, none⟩) n cap]] w
      fun e w' => e = .returned (.tuple #[.agg hl.cells, .agg hr.cells, .bool true]) ∧ Below w.heap.size w w' := by
  obtain ⟨B, hBe⟩ : ∃ B, B = w.heap.size := ⟨_, rfl⟩
  obtain ⟨q, hq⟩ : ∃ q, o + 5 = q := ⟨_, rfl⟩
  rw [hq] at hR
  have key : ∀ k, ∃ w1, w1 = (((w.alloc (.cells #[.int .i64 k, .int .i64 c, .bool x, .int .i64 l, .slice (some ⟨b, o, none⟩) n cap] 26)).alloc (.cells Hd.zero.cells 26)).alloc (.cells Hd.zero.cells 26)) ∧
      Below B w w1 ∧ TB 26 w1 B ⟨k, c, x, l, some ⟨b, o, none⟩, n, cap⟩ ∧ TB 26 w1 (B + 1) Hd.zero ∧ TB 26 w1 (B + 1 + 1) Hd.zero := fun k => by
    subst hBe
    refine ⟨_, rfl, (((Below.refl _ _).alloc (Nat.le_refl _) _).alloc (by simp) _).alloc (by simp; omega) _, ?_, ?_, ?_⟩
    · exact ((TB.new w 26 ⟨k, c, x, l, some ⟨b, o, none⟩, n, cap⟩).alloc _).alloc _
    · have := (TB.new (w.alloc (.cells #[.int .i64 k, .int .i64 c, .bool x, .int .i64 l, .slice (some ⟨b, o, none⟩) n cap] 26)) 26 Hd.zero).alloc (.cells Hd.zero.cells 26)
      simpa using this
    · have := TB.new ((w.alloc (.cells #[.int .i64 k, .int .i64 c, .bool x, .int .i64 l, .slice (some ⟨b, o, none⟩) n cap] 26)).alloc (.cells Hd.zero.cells 26)) 26 Hd.zero
      simpa using this
  rw [← hBe] at hb
  have d1 : b ≠ B := by omega
  have d2 : b ≠ B + 1 := by omega
  have d3 : b ≠ B + 1 + 1 := by omega
  go_enter Try.func15, Try.ntmps15
  rcases h with h | h
  · subst h
    go_wp2_with fail
    rw [← hBe]
    obtain ⟨w1, hw1, hbl, t0, t1, t2⟩ := key 2
    rw [show (#[.int .i64 0, .int .i64 0, .bool false, .int .i64 0, .slice none 0 0] : Array Value) = Hd.zero.cells from rfl, ← hw1]
    obtain ⟨l0, l1, l2, l3, l4⟩ := hL.below hbl hb
    obtain ⟨r0, r1, r2, r3, r4⟩ := hR.below hbl hb
    have a4 := t0.c4
    have u0 := t1.c0
    have u1 := t1.c1
    have u2 := t1.c2
    have u3 := t1.c3
    have u4 := t1.c4
    have v0 := t2.c0
    have v1 := t2.c1
    have v2 := t2.c2
    have v3 := t2.c3
    have v4 := t2.c4
    have f1 := t1.frozen
    have f2 := t2.frozen
    dsimp only [Hd.zero] at a4 u0 u1 u2 u3 u4 v0 v1 v2 v3 v4
    have hbl2 : Below w.heap.size w w1 := by rw [← hBe]; exact hbl
    have hB1 : w.heap.size ≤ B := by omega
    clear hw1 key hBe hbl
    go_region
    go_wp2_with fail
    exact bodyPost_ret (results_row2_tmp rfl _ _ _ _ _ _ _ _ _ _ _ rfl ((t1.put (h' := hl)).put_ne (h' := hr) (by omega)).drew rfl ((t2.put_ne (h' := hl) (by omega)).put (h' := hr)).drew rfl rfl Try.infoTm Try.infoTm) rfl
      ⟨rfl, (below_put (below_put hbl2 (by omega) hl) (by omega) hr).drew⟩
  · subst h
    go_wp2_with fail
    rw [← hBe]
    obtain ⟨w1, hw1, hbl, t0, t1, t2⟩ := key 3
    rw [show (#[.int .i64 0, .int .i64 0, .bool false, .int .i64 0, .slice none 0 0] : Array Value) = Hd.zero.cells from rfl, ← hw1]
    obtain ⟨l0, l1, l2, l3, l4⟩ := hL.below hbl hb
    obtain ⟨r0, r1, r2, r3, r4⟩ := hR.below hbl hb
    have a4 := t0.c4
    have u0 := t1.c0
    have u1 := t1.c1
    have u2 := t1.c2
    have u3 := t1.c3
    have u4 := t1.c4
    have v0 := t2.c0
    have v1 := t2.c1
    have v2 := t2.c2
    have v3 := t2.c3
    have v4 := t2.c4
    have f1 := t1.frozen
    have f2 := t2.frozen
    dsimp only [Hd.zero] at a4 u0 u1 u2 u3 u4 v0 v1 v2 v3 v4
    have hbl2 : Below w.heap.size w w1 := by rw [← hBe]; exact hbl
    have hB1 : w.heap.size ≤ B := by omega
    clear hw1 key hBe hbl
    go_region
    go_wp2_with fail
    exact bodyPost_ret (results_row2_tmp rfl _ _ _ _ _ _ _ _ _ _ _ rfl ((t1.put (h' := hl)).put_ne (h' := hr) (by omega)).drew rfl ((t2.put_ne (h' := hl) (by omega)).put (h' := hr)).drew rfl rfl Try.infoTm Try.infoTm) rfl
      ⟨rfl, (below_put (below_put hbl2 (by omega) hl) (by omega) hr).drew⟩

/-- the answer of Both -/
theorem both_any (T : Tm) (h : Hd) (w : World) (hT : TIn w w.heap.size T h) :
    Calls Try.prog 15 #[.agg h.cells] w fun e w' => ∃ v, e = .returned v ∧ T.two w w.heap.size v ∧ Below w.heap.size w w' := by
  obtain ⟨k, c, x, l, A, n, cap⟩ := h
  cases T with
  | nil => exact (both_no k c l x A n cap w hT.2).mono fun e w' ⟨h1, h2⟩ => ⟨_, h1, rfl, h2⟩
  | one a =>
    have h1 : k = 1 := hT.1
    exact (both_no k c l x A n cap w (.inl ⟨by omega, by omega⟩)).mono fun e w' ⟨h1, h2⟩ => ⟨_, h1, rfl, h2⟩
  | seq l' r' =>
    obtain ⟨h1, h2, b, o, hl, hr, h3, h4, h5, h6, h7, h8⟩ := hT
    dsimp only at h1 h2 h3
    subst h3
    exact (both_yes k c l x b o n cap hl hr w (.inl h1) h2 h4 h5 h6).mono fun e w' ⟨g1, g2⟩ => ⟨_, g1, ⟨hl, hr, rfl, h7, h8⟩, g2⟩
  | par l' r' =>
    obtain ⟨h1, h2, b, o, hl, hr, h3, h4, h5, h6, h7, h8⟩ := hT
    dsimp only at h1 h2 h3
    subst h3
    exact (both_yes k c l x b o n cap hl hr w (.inr h1) h2 h4 h5 h6).mono fun e w' ⟨g1, g2⟩ => ⟨_, g1, ⟨hl, hr, rfl, h7, h8⟩, g2⟩
end Go.Proofs.Ytidgibkiacbgfaa
