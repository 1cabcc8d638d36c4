/-
  Terms in memory: a header of five cells, its kids behind it.
  Contract of the reference's Both: the two of a term.
  Contract of sp.read for any reader: what a reader is told of a term.
  Methods of readers that lie in the embedded sp.patient: how the interface finds them.
-/
import Derived.Test.YtipihchlhkjdjaaDoorPk20
import Derived.WalkKit
import Derived.Deep.QuietTactic
import Derived.RangeFuncRecord
import Derived.Test.YtipihchlhkjdjaaDoorChecked
import Derived.Outline
import Derived.Deep.RegionHeld3
import Derived.Lib.Hide
import Derived.RangeFuncBox
namespace Go.Proofs.YtipihchlhkjdjaaDoor
open Go.RowKit
set_option maxRecDepth 100000

/-- what a term's five cells hold -/
structure Hd where
  k : Int
  c : Int
  x : Bool
  l : Int
  A : Option Addr
  n : Nat
  cap : Nat
def Hd.zero : Hd := ⟨0, 0, false, 0, none, 0, 0⟩
def Hd.cells (h : Hd) : Array Value := #[.int .i64 h.k, .int .i64 h.c, .bool h.x, .int .i64 h.l, .slice h.A h.n h.cap]

structure HdAt (w : World) (b o : Nat) (h : Hd) : Prop where
  h0 : w.cell? ⟨b, o, none⟩ = some (.int .i64 h.k)
  h1 : w.cell? ⟨b, o + 1, none⟩ = some (.int .i64 h.c)
  h2 : w.cell? ⟨b, o + 2, none⟩ = some (.bool h.x)
  h3 : w.cell? ⟨b, o + 3, none⟩ = some (.int .i64 h.l)
  h4 : w.cell? ⟨b, o + 4, none⟩ = some (.slice h.A h.n h.cap)

theorem HdAt.below {w w' : World} {b o m : Nat} {h : Hd} (hh : HdAt w b o h) (hb : Below m w w') (hm : b < m) : HdAt w' b o h :=
  ⟨(hb.cell (p := ⟨b, o, none⟩) hm).trans hh.h0, (hb.cell (p := ⟨b, o + 1, none⟩) hm).trans hh.h1, (hb.cell (p := ⟨b, o + 2, none⟩) hm).trans hh.h2,
    (hb.cell (p := ⟨b, o + 3, none⟩) hm).trans hh.h3, (hb.cell (p := ⟨b, o + 4, none⟩) hm).trans hh.h4⟩
theorem HdAt.new (w : World) (h : Hd) (t : TypeId) : HdAt (w.alloc (.cells h.cells t)) w.heap.size 0 h := by
  have e := World.alloc_heap_new w (.cells h.cells t)
  constructor <;> simp only [World.cell?, e] <;> rfl

/-- the term T lies below block m; h is its header -/
def TIn (w : World) (m : Nat) : Tm → Hd → Prop
  | .nil, h => h.k ≠ 1 ∧ ((h.k ≠ 2 ∧ h.k ≠ 3) ∨ h.n < 2)
  | .one a, h => h.k = 1 ∧ a = (h.c, h.x, h.l)
  | .seq l r, h => h.k = 2 ∧ 2 ≤ h.n ∧ ∃ b o hl hr, h.A = some ⟨b, o, none⟩ ∧ b < m ∧ HdAt w b o hl ∧ HdAt w b (o + 5) hr ∧ TIn w m l hl ∧ TIn w m r hr
  | .par l r, h => h.k = 3 ∧ 2 ≤ h.n ∧ ∃ b o hl hr, h.A = some ⟨b, o, none⟩ ∧ b < m ∧ HdAt w b o hl ∧ HdAt w b (o + 5) hr ∧ TIn w m l hl ∧ TIn w m r hr

theorem TIn.below {w w' : World} {m m' : Nat} (hb : Below m' w w') (hm : m ≤ m') : ∀ {T : Tm} {h : Hd}, TIn w m T h → TIn w' m T h
  | .nil, _, h => h
  | .one _, _, h => h
  | .seq _ _, _, ⟨h1, h2, b, o, hl, hr, h3, h4, h5, h6, h7, h8⟩ => ⟨h1, h2, b, o, hl, hr, h3, h4, h5.below hb (by omega), h6.below hb (by omega), h7.below hb hm, h8.below hb hm⟩
  | .par _ _, _, ⟨h1, h2, b, o, hl, hr, h3, h4, h5, h6, h7, h8⟩ => ⟨h1, h2, b, o, hl, hr, h3, h4, h5.below hb (by omega), h6.below hb (by omega), h7.below hb hm, h8.below hb hm⟩
theorem TIn.more {w : World} {m m' : Nat} (hm : m ≤ m') : ∀ {T : Tm} {h : Hd}, TIn w m T h → TIn w m' T h
  | .nil, _, h => h
  | .one _, _, h => h
  | .seq _ _, _, ⟨h1, h2, b, o, hl, hr, h3, h4, h5, h6, h7, h8⟩ => ⟨h1, h2, b, o, hl, hr, h3, by omega, h5, h6, h7.more hm, h8.more hm⟩
  | .par _ _, _, ⟨h1, h2, b, o, hl, hr, h3, h4, h5, h6, h7, h8⟩ => ⟨h1, h2, b, o, hl, hr, h3, by omega, h5, h6, h7.more hm, h8.more hm⟩
theorem TIn.drewN {w : World} {m n : Nat} : ∀ {T : Tm} {h : Hd}, TIn w m T h → TIn (w.drewN n) m T h
  | .nil, _, h => h
  | .one _, _, h => h
  | .seq _ _, _, ⟨h1, h2, b, o, hl, hr, h3, h4, h5, h6, h7, h8⟩ => ⟨h1, h2, b, o, hl, hr, h3, h4, ⟨h5.h0, h5.h1, h5.h2, h5.h3, h5.h4⟩, ⟨h6.h0, h6.h1, h6.h2, h6.h3, h6.h4⟩, h7.drewN, h8.drewN⟩
  | .par _ _, _, ⟨h1, h2, b, o, hl, hr, h3, h4, h5, h6, h7, h8⟩ => ⟨h1, h2, b, o, hl, hr, h3, h4, ⟨h5.h0, h5.h1, h5.h2, h5.h3, h5.h4⟩, ⟨h6.h0, h6.h1, h6.h2, h6.h3, h6.h4⟩, h7.drewN, h8.drewN⟩
end Go.Proofs.YtipihchlhkjdjaaDoor

namespace Go.Proofs.YtipihchlhkjdjaaDoor
open Go.RowKit
set_option maxRecDepth 100000

/-- the answer of Both -/
def Tm.two (w : World) (m : Nat) (T : Tm) (v : Value) : Prop :=
  match T with
  | .nil => v = .tuple #[.agg Hd.zero.cells, .agg Hd.zero.cells, .bool false]
  | .one _ => v = .tuple #[.agg Hd.zero.cells, .agg Hd.zero.cells, .bool false]
  | .seq l r => ∃ hl hr, v = .tuple #[.agg hl.cells, .agg hr.cells, .bool true] ∧ TIn w m l hl ∧ TIn w m r hr
  | .par l r => ∃ hl hr, v = .tuple #[.agg hl.cells, .agg hr.cells, .bool true] ∧ TIn w m l hl ∧ TIn w m r hr

/-- two results in cells, one in a slot -/
theorem results_row2_tmp {P : Program} {fn : Func} {p q u : Tmp} {ty : TypeId} (h : fn.results = #[.cell p ty, .cell q ty, .tmp u]) (tmps : Array Value) (w : World) (g g' : Nat) (t t' : TypeId) (cs cs' : Array Value) (fr fr' : Nat × Nat) (d : TypeDesc)
    (hp : tmps.getD p undef = .pointer (some ⟨g, 0, none⟩)) (hg : w.heap[g]? = some (.cells cs t fr))
    (hq : tmps.getD q undef = .pointer (some ⟨g', 0, none⟩)) (hg' : w.heap[g']? = some (.cells cs' t' fr'))
    (hu : P.underlying ty = some d) (hd : (match d with | .struct _ | .array _ _ => true | _ => false) = true) (hi : (P.info? ty).map (·.size) = some cs.size) (hi' : (P.info? ty).map (·.size) = some cs'.size) :
    (results fn tmps).run P w = .ok (.tuple #[.agg cs, .agg cs', tmps.getD u undef]) w := by
  have hp' : tmps[p]?.getD undef = .pointer (some ⟨g, 0, none⟩) := by simpa using hp
  have hq' : tmps[q]?.getD undef = .pointer (some ⟨g', 0, none⟩) := by simpa using hq
  simp [results, h, hp', hq', asAddr, run_loadVar_row w g t ty cs fr d hg hu hd hi, run_loadVar_row w g' t' ty cs' fr' d hg' hu hd hi']

theorem Tryd.infoTm : (Tryd.prog.info? 51).map (·.size) = some 5 := by kernel_rfl

/-- block B holds a term's header -/
def TB (T : TypeId) (w : World) (B : Nat) (h : Hd) : Prop := w.heap[B]? = some (.cells h.cells T (0, 0))
section
variable {T : TypeId} {w w' : World} {B : Nat} {h : Hd}
theorem TB.new (w : World) (T : TypeId) (h : Hd) : TB T (w.alloc (.cells h.cells T)) w.heap.size h := World.alloc_heap_new w _
theorem TB.alloc (hb : TB T w B h) (o : Obj) : TB T (w.alloc o) B h := by
  have hlt : B < w.heap.size := (Array.getElem?_eq_some_iff.1 hb).1
  exact ((World.grownBy_alloc w o none).block B hlt (by simp)).trans hb
theorem TB.at (hb : TB T w B h) : HdAt w B 0 h := by
  constructor <;> simp only [World.cell?, show w.heap[B]? = _ from hb] <;> rfl
theorem TB.c0 (hb : TB T w B h) : w.cell? ⟨B, 0, none⟩ = some (.int .i64 h.k) := hb.at.h0
theorem TB.c1 (hb : TB T w B h) : w.cell? ⟨B, 1, none⟩ = some (.int .i64 h.c) := hb.at.h1
theorem TB.c2 (hb : TB T w B h) : w.cell? ⟨B, 2, none⟩ = some (.bool h.x) := hb.at.h2
theorem TB.c3 (hb : TB T w B h) : w.cell? ⟨B, 3, none⟩ = some (.int .i64 h.l) := hb.at.h3
theorem TB.c4 (hb : TB T w B h) : w.cell? ⟨B, 4, none⟩ = some (.slice h.A h.n h.cap) := hb.at.h4
theorem TB.frozen (hb : TB T w B h) (o : Nat) : w.frozen? ⟨B, o, none⟩ = false := by simp [World.frozen?, show w.heap[B]? = _ from hb]
theorem TB.lt (hb : TB T w B h) : B < w.heap.size := (Array.getElem?_eq_some_iff.1 hb).1
/-- a header is stored, cell by cell -/
def putHd (w : World) (B : Nat) (h : Hd) : World :=
  ((((w.setCell ⟨B, 0, none⟩ (.int .i64 h.k)).setCell ⟨B, 1, none⟩ (.int .i64 h.c)).setCell ⟨B, 2, none⟩ (.bool h.x)).setCell ⟨B, 3, none⟩ (.int .i64 h.l)).setCell ⟨B, 4, none⟩ (.slice h.A h.n h.cap)
theorem heap_set_in {w : World} {B i : Nat} {cs : Array Value} {fr : Nat × Nat} (hb : w.heap[B]? = some (.cells cs T fr)) (v : Value) : (w.setCell ⟨B, i, none⟩ v).heap[B]? = some (.cells (cs.set! i v) T fr) := by
  obtain ⟨hlt, hk⟩ := Array.getElem?_eq_some_iff.1 hb
  show (w.heap.modify B _)[B]? = _
  rw [Array.getElem?_eq_getElem (by rw [Array.size_modify]; exact hlt), Array.getElem_modify_self, hk]
  rfl
theorem TB.put {h' : Hd} (hb : TB T w B h) : TB T (putHd w B h') B h' :=
  heap_set_in (heap_set_in (heap_set_in (heap_set_in (heap_set_in hb _) _) _) _) _
theorem TB.put_ne {B' : Nat} {h' : Hd} (hb : TB T w B h) (hne : B ≠ B') : TB T (putHd w B' h') B h := by
  unfold TB putHd
  rw [Below.heap_setCell _ _ _ _ hne, Below.heap_setCell _ _ _ _ hne, Below.heap_setCell _ _ _ _ hne, Below.heap_setCell _ _ _ _ hne, Below.heap_setCell _ _ _ _ hne]
  exact hb
theorem below_put {m : Nat} {a : World} (hb : Below m a w) (hm : m ≤ B) (h' : Hd) : Below m a (putHd w B h') :=
  ((((hb.setCell (p := ⟨B, 0, none⟩) hm _).setCell (p := ⟨B, 1, none⟩) hm _).setCell (p := ⟨B, 2, none⟩) hm _).setCell (p := ⟨B, 3, none⟩) hm _).setCell (p := ⟨B, 4, none⟩) hm _
theorem TB.drew (hb : TB T w B h) : TB T w.drew B h := hb
end

end Go.Proofs.YtipihchlhkjdjaaDoor

namespace Go.Proofs.YtipihchlhkjdjaaDoor
open Go.RowKit
set_option maxRecDepth 100000

def accV (a : Acc) : Value := .agg #[.int .i64 a.1, .bool a.2.1, .int .i64 a.2.2]

/-- the method 'name' of the value behind the interface is the function f, with the receiver r -/
structure Meth (P : Program) (J : World → Prop) (td : TypeId) (dv : Value) (name : String) (f : FuncId) (r : Value) : Prop where
  na : ∀ k w, (nilAhead (k + 8) td dv name).run P w = .ok (some false) w
  me : ∀ k w, J w → (method (k + 8) td dv name).run P w = .ok (f, r) w
  en : ∀ args w, (callFunc f args).run P w = .ok (.enter f args) w

section
variable {σ : Type}

/-- a reader: its state lies in w as I says; memory below block C stays -/
structure Rdr (J : World → Prop) (I : World → σ → Nat → Prop) (C : Nat) (td : TypeId) (dv : Value) (lf : σ → Nat → Acc → σ × Bool) (sf pf : σ → Nat → Nat → Nat → σ) : Prop where
  drew : ∀ w s n, I w s n → I w.drew s n
  there : ∀ w s n, I w s n → J w
  leaf : ∃ f r, Meth Tryd.prog J td dv "forkwright/sp.leaf" f r ∧ ∀ w s n a, I w s n → n < 1048576 →
    Calls Tryd.prog f #[r, .int .i64 (n : Nat), accV a] w fun e w' => e = .returned (.bool (lf s n a).2) ∧ I w' (lf s n a).1 (n + 1) ∧ Below C w w'
  ser : ∃ f r, Meth Tryd.prog J td dv "forkwright/sp.series" f r ∧ ∀ w s x m t, I w s t → x ≤ m → m ≤ t → t ≤ 1048576 →
    Calls Tryd.prog f #[r, .int .i64 (x : Nat), .int .i64 (m : Nat), .int .i64 (t : Nat)] w fun e w' => e = .returned (.tuple #[]) ∧ I w' (sf s x m t) t ∧ Below C w w'
  par : ∃ f r, Meth Tryd.prog J td dv "forkwright/sp.parallel" f r ∧ ∀ w s x m t, I w s t → x ≤ m → m ≤ t → t ≤ 1048576 →
    Calls Tryd.prog f #[r, .int .i64 (x : Nat), .int .i64 (m : Nat), .int .i64 (t : Nat)] w fun e w' => e = .returned (.tuple #[]) ∧ I w' (pf s x m t) t ∧ Below C w w'

/-- two kids, one told behind the other -/
def both2 (x : σ × Nat × Bool) (g : σ → Nat → σ × Nat × Bool) (c : σ → Nat → Nat → σ) : σ × Nat × Bool :=
  match x with
  | (s1, m, false) => (s1, m, false)
  | (s1, m, true) => match g s1 m with
    | (s2, t, true) => (c s2 m t, t, true)
    | (s2, t, false) => (s2, t, false)

/-- what a reader is told: its state, how many leaves, does it want more -/
def Tm.told (lf : σ → Nat → Acc → σ × Bool) (sf pf : σ → Nat → Nat → Nat → σ) : Tm → σ → Nat → σ × Nat × Bool
  | .nil, s, n => (s, n, true)
  | .one a, s, n => ((lf s n a).1, n + 1, (lf s n a).2)
  | .seq l r, s, n => both2 (l.told lf sf pf s n) (r.told lf sf pf) (fun s m t => sf s n m t)
  | .par l r, s, n => both2 (l.told lf sf pf s n) (r.told lf sf pf) (fun s m t => pf s n m t)

theorem both2_cases {x : σ × Nat × Bool} {g : σ → Nat → σ × Nat × Bool} {c : σ → Nat → Nat → σ} {Q : σ × Nat × Bool → Prop}
    (h1 : ∀ s m, x = (s, m, false) → Q (s, m, false)) (h2 : ∀ s m s2 t, x = (s, m, true) → g s m = (s2, t, true) → Q (c s2 m t, t, true)) (h3 : ∀ s m s2 t, x = (s, m, true) → g s m = (s2, t, false) → Q (s2, t, false)) : Q (both2 x g c) := by
  obtain ⟨s, m, b⟩ := x
  cases b with
  | false => exact h1 s m rfl
  | true =>
    rcases hg : g s m with ⟨s2, t, b2⟩
    cases b2 with
    | false => simp only [both2, hg]; exact h3 s m s2 t rfl hg
    | true => simp only [both2, hg]; exact h2 s m s2 t rfl hg

theorem Tm.told_le (lf : σ → Nat → Acc → σ × Bool) (sf pf : σ → Nat → Nat → Nat → σ) (T : Tm) : ∀ s n, n ≤ (T.told lf sf pf s n).2.1 ∧ (T.told lf sf pf s n).2.1 ≤ n + T.sz := by
  induction T with
  | nil => intro s n; exact ⟨Nat.le_refl _, Nat.le_refl _⟩
  | one a => intro s n; simp [Tm.told, Tm.sz]
  | seq l r il ir =>
    intro s n
    simp only [Tm.told, Tm.sz]
    refine both2_cases (Q := fun y => n ≤ y.2.1 ∧ y.2.1 ≤ n + (l.sz + r.sz)) (fun s1 m hx => ?_) (fun s1 m s2 t hx hg => ?_) (fun s1 m s2 t hx hg => ?_)
    · have := il s n; rw [hx] at this; dsimp only at this ⊢; omega
    · have h1 := il s n; have h2 := ir s1 m; rw [hx] at h1; rw [hg] at h2; dsimp only at h1 h2 ⊢; omega
    · have h1 := il s n; have h2 := ir s1 m; rw [hx] at h1; rw [hg] at h2; dsimp only at h1 h2 ⊢; omega
  | par l r il ir =>
    intro s n
    simp only [Tm.told, Tm.sz]
    refine both2_cases (Q := fun y => n ≤ y.2.1 ∧ y.2.1 ≤ n + (l.sz + r.sz)) (fun s1 m hx => ?_) (fun s1 m s2 t hx hg => ?_) (fun s1 m s2 t hx hg => ?_)
    · have := il s n; rw [hx] at this; dsimp only at this ⊢; omega
    · have h1 := il s n; have h2 := ir s1 m; rw [hx] at h1; rw [hg] at h2; dsimp only at h1 h2 ⊢; omega
    · have h1 := il s n; have h2 := ir s1 m; rw [hx] at h1; rw [hg] at h2; dsimp only at h1 h2 ⊢; omega

variable {J : World → Prop} {I : World → σ → Nat → Prop} {C : Nat} {td : TypeId} {dv : Value} {lf : σ → Nat → Acc → σ × Bool} {sf pf : σ → Nat → Nat → Nat → σ}

/-- what sp.read answers -/
def ReadS (I : World → σ → Nat → Prop) (C : Nat) (td : TypeId) (dv : Value) (lf : σ → Nat → Acc → σ × Bool) (sf pf : σ → Nat → Nat → Nat → σ) (T : Tm) : Prop :=
  ∀ (w : World) (b o : Nat) (h : Hd) (s : σ) (n : Nat), HdAt w b o h → b < C → TIn w C T h → I w s n → n + T.sz ≤ 1048576 →
    Calls Tryd.prog 39 #[.pointer (some ⟨b, o, none⟩), .int .i64 n, .iface td dv] w fun e w' =>
      e = .returned (.tuple #[.int .i64 ((T.told lf sf pf s n).2.1 : Nat), .bool (T.told lf sf pf s n).2.2]) ∧ I w' (T.told lf sf pf s n).1 (T.told lf sf pf s n).2.1 ∧ Below C w w'

theorem read_one (hR : Rdr J I C td dv lf sf pf) (a : Acc) : ReadS I C td dv lf sf pf (.one a) := by
  intro w b o h s n hh hb hT hI hn
  obtain ⟨k, c, x, l, A, m, cap⟩ := h
  obtain ⟨h1, rfl⟩ := hT
  dsimp only at h1
  subst h1
  obtain ⟨l0, l1, l2, l3, l4⟩ := hh
  dsimp only at l0 l1 l2 l3 l4
  simp only [Tm.sz] at hn
  obtain ⟨fl, ra, ⟨hna, hme0, hen⟩, hleaf⟩ := hR.leaf
  have hId := hR.drew w s n hI
  have hme := fun k => hme0 k w.drew (hR.there _ _ _ hId)
  clear hme0
  have e1 : IntKind.i64.wrap ((n : Int) + 1) = ((n + 1 : Nat) : Int) := by rw [IntKind.wrap_i64]; omega
  simp only [Tm.told]
  obtain ⟨y, hy⟩ : ∃ y, y = lf s n (c, x, l) := ⟨_, rfl⟩
  have hc := hleaf w.drew s n (c, x, l) hId (by omega)
  rw [← hy] at hc ⊢
  obtain ⟨s', bb⟩ := y
  dsimp only [accV] at hc ⊢
  have HY := Lib.hid hy
  clear hy hR hleaf hI hId
  obtain ⟨N, hN⟩ : ∃ N, N = n + 1 := ⟨_, rfl⟩
  rw [← hN] at e1 hc ⊢
  have HN := Lib.hid hN
  have HC := Lib.hid hc
  have HB := Below.refl C w
  clear hN hc hn
  go_enter Tryd.func39, Tryd.ntmps39
  go_wp2_with fail
  go_region_held3 (fun w' => w'.cell? ⟨b, o + 1, none⟩ = some (.int .i64 c) ∧ w'.cell? ⟨b, o + 1 + 1, none⟩ = some (.bool x) ∧ w'.cell? ⟨b, o + 1 + 2, none⟩ = some (.int .i64 l))
    (first | (go_split_ands; exact ⟨‹_›, ‹_›, ‹_›⟩))
    (first
      | (refine HC.out.mono ?_; rintro e w5 ⟨rfl, hP5, hB5⟩; have q1 := (hB5.cell (p := ⟨b, o + 1, none⟩) hb).trans l1; have q2 := (hB5.cell (p := ⟨b, o + 1 + 1, none⟩) hb).trans l2; have q3 := (hB5.cell (p := ⟨b, o + 1 + 2, none⟩) hb).trans l3))
  all_goals
    go_wp2_with fail
    go_ret2
    exact ⟨rfl, ‹_›, HB.drew.trans ‹_›⟩

theorem read_nil : ReadS I C td dv lf sf pf .nil := by
  intro w b o h s n hh hb hT hI hn
  obtain ⟨k, c, x, l, A, m, cap⟩ := h
  obtain ⟨h1, h2⟩ := hT
  dsimp only at h1 h2
  obtain ⟨l0, l1, l2, l3, l4⟩ := hh
  dsimp only at l0 l1 l2 l3 l4
  simp only [Tm.told]
  have HB := Below.refl C w
  go_enter Tryd.func39, Tryd.ntmps39
  rcases h2 with ⟨h2, h3⟩ | h2
  · go_wp2_with fail
    go_ret2
    exact ⟨rfl, hI, HB⟩
  · by_cases k2 : k = 2
    · go_wp2_with fail
      go_ret2
      exact ⟨rfl, hI, HB⟩
    · by_cases k3 : k = 3
      · go_wp2_with fail
        go_ret2
        exact ⟨rfl, hI, HB⟩
      · go_wp2_with fail
        go_ret2
        exact ⟨rfl, hI, HB⟩

theorem kids_any {nm : String} {F : FuncId} {rr : Value} {cf : σ → Nat → Nat → Nat → σ} (hIJ : ∀ w s n, I w s n → J w) (hM : Meth Tryd.prog J td dv nm F rr)
    (hcf : ∀ w s x m t, I w s t → x ≤ m → m ≤ t → t ≤ 1048576 →
      Calls Tryd.prog F #[rr, .int .i64 (x : Nat), .int .i64 (m : Nat), .int .i64 (t : Nat)] w fun e w' => e = .returned (.tuple #[]) ∧ I w' (cf s x m t) t ∧ Below C w w')
    {L R : Tm} (hl : ReadS I C td dv lf sf pf L) (hr : ReadS I C td dv lf sf pf R) (w : World) (b o k cap : Nat) (hL hD : Hd) (s : σ) (n : Nat)
    (hhl : HdAt w b o hL) (hhr : HdAt w b (o + 5) hD) (hb : b < C) (hTl : TIn w C L hL) (hTr : TIn w C R hD) (hI : I w s n) (hn : n + (L.sz + R.sz) ≤ 1048576) (hk : 2 ≤ k) :
    Calls Tryd.prog 59 #[.slice (some ⟨b, o, none⟩) k cap, .int .i64 n, .iface td dv, .func (Fn.method nm) #[.iface td dv] #[]] w fun e w' =>
      ∃ y, y = both2 (L.told lf sf pf s n) (R.told lf sf pf) (fun s m t => cf s n m t) ∧ e = .returned (.tuple #[.int .i64 (y.2.1 : Nat), .bool y.2.2]) ∧ I w' y.1 y.2.1 ∧ Below C w w' := by
  have hm1 := L.told_le lf sf pf s n
  have c1 := hl w b o hL s n hhl hb hTl hI (by omega)
  rcases hx : L.told lf sf pf s n with ⟨s1, m, b1⟩
  rw [hx] at hm1 c1
  dsimp only at hm1 c1
  obtain ⟨hna, hme0, hen⟩ := hM
  have HME := Lib.hid hme0
  clear hme0
  have k0 : (0 : Int) < (k : Int) := by omega
  have k1 : (1 : Int) < (k : Int) := by omega
  cases b1 with
  | false =>
    have HC := Lib.hid c1
    clear c1 hl hr hcf hhl hhr hTl hTr
    go_enter Tryd.func59, Tryd.ntmps59
    go_wp2_with (first
      | (go_at_call 39; refine HC.out.mono ?_; rintro e w1 ⟨rfl, hI1, hB1⟩)
      | fail)
    go_ret2
    exact ⟨_, rfl, rfl, hI1, hB1⟩
  | true =>
    rcases hg : R.told lf sf pf s1 m with ⟨s2, t, b2⟩
    have hm2 := R.told_le lf sf pf s1 m
    rw [hg] at hm2
    dsimp only at hm2
    have c2 : ∀ w1, I w1 s1 m → Below C w w1 → _ := fun w1 hI1 hB1 => hr w1 b (o + 5) hD s1 m (hhr.below hB1 hb) hb (hTr.below hB1 (Nat.le_refl _)) hI1 (by omega)
    rw [hg] at c2
    dsimp only at c2
    have HC := Lib.hid c1
    have HC2 := Lib.hid c2
    have hc3 := fun w2 (h2 : I w2 s2 t) => hcf w2 s2 n m t h2 (by omega) (by omega) (by omega)
    have HC3 := Lib.hid hc3
    clear c1 c2 hl hr hcf hhl hhr hTl hTr hc3
    cases b2 with
    | false =>
      go_enter Tryd.func59, Tryd.ntmps59
      go_wp2_with (first
        | (go_at_call_of 39 (Value.pointer (some ⟨b, o, none⟩)); refine HC.out.mono ?_; rintro e w1 ⟨rfl, hI1, hB1⟩)
        | (go_at_call 39; refine (HC2.out _ hI1 hB1).mono ?_; rintro e w2 ⟨rfl, hI2, hB2⟩)
        | fail)
      go_ret2
      simp only [both2, hg]
      exact ⟨_, rfl, rfl, hI2, hB1.trans hB2⟩
    | true =>
      go_enter Tryd.func59, Tryd.ntmps59
      go_wp2_with (first
        | (go_at_call_of 39 (Value.pointer (some ⟨b, o, none⟩)); refine HC.out.mono ?_; rintro e w1 ⟨rfl, hI1, hB1⟩)
        | (go_at_call 39; refine (HC2.out _ hI1 hB1).mono ?_; rintro e w2 ⟨rfl, hI2, hB2⟩; have hme2 := fun k => HME.out k w2 (hIJ _ _ _ hI2))
        | (refine (HC3.out _ hI2).mono ?_; rintro e w3 ⟨rfl, hI3, hB3⟩)
        | fail)
      go_ret2
      simp only [both2, hg]
      exact ⟨_, rfl, rfl, hI3, (hB1.trans hB2).trans hB3⟩

theorem read_seq (hR : Rdr J I C td dv lf sf pf) {L R : Tm} (hl : ReadS I C td dv lf sf pf L) (hr : ReadS I C td dv lf sf pf R) : ReadS I C td dv lf sf pf (.seq L R) := by
  intro w b o h s n hh hb hT hI hn
  obtain ⟨k, c, x, l, A, m, cap⟩ := h
  obtain ⟨h1, h2, kb, ko, hL, hD, h3, h4, h5, h6, h7, h8⟩ := hT
  dsimp only at h1 h2 h3
  subst h1
  subst h3
  obtain ⟨l0, _, _, _, l4⟩ := hh
  dsimp only at l0 l4
  simp only [Tm.sz] at hn
  obtain ⟨F, rr, hM, hcf⟩ := hR.ser
  have hId := hR.drew w s n hI
  have hD0 := (Below.refl C w).drew
  have hc := kids_any hR.there hM hcf hl hr w.drew kb ko m cap hL hD s n (h5.below hD0 h4) (h6.below hD0 h4) h4 (h7.below hD0 (Nat.le_refl _)) (h8.below hD0 (Nat.le_refl _)) hId hn h2
  simp only [Tm.told]
  obtain ⟨y, hy⟩ : ∃ y, y = both2 (L.told lf sf pf s n) (R.told lf sf pf) (fun s m t => sf s n m t) := ⟨_, rfl⟩
  rw [← hy] at hc ⊢
  obtain ⟨hna, _, hen⟩ := hM
  have HC := Lib.hid hc
  clear hy hc hR hl hr hcf hn hI hId h5 h6 h7 h8
  go_enter Tryd.func39, Tryd.ntmps39
  go_wp2_with fail
  go_region_held3 (fun w' => w'.cell? ⟨b, o + 4, none⟩ = some (.slice (some ⟨kb, ko, none⟩) m cap))
    (first | assumption)
    (first
      | (go_at_call 59; refine HC.out.mono ?_; rintro e w5 ⟨_, rfl, rfl, hP5, hB5⟩; have q1 := (hB5.cell (p := ⟨b, o + 4, none⟩) hb).trans l4))
  all_goals
    go_wp2_with fail
    go_ret2
    exact ⟨rfl, hP5, hD0.trans hB5⟩

theorem read_par (hR : Rdr J I C td dv lf sf pf) {L R : Tm} (hl : ReadS I C td dv lf sf pf L) (hr : ReadS I C td dv lf sf pf R) : ReadS I C td dv lf sf pf (.par L R) := by
  intro w b o h s n hh hb hT hI hn
  obtain ⟨k, c, x, l, A, m, cap⟩ := h
  obtain ⟨h1, h2, kb, ko, hL, hD, h3, h4, h5, h6, h7, h8⟩ := hT
  dsimp only at h1 h2 h3
  subst h1
  subst h3
  obtain ⟨l0, _, _, _, l4⟩ := hh
  dsimp only at l0 l4
  simp only [Tm.sz] at hn
  obtain ⟨F, rr, hM, hcf⟩ := hR.par
  have hId := hR.drew w s n hI
  have hD0 := (Below.refl C w).drew
  have hc := kids_any hR.there hM hcf hl hr w.drew kb ko m cap hL hD s n (h5.below hD0 h4) (h6.below hD0 h4) h4 (h7.below hD0 (Nat.le_refl _)) (h8.below hD0 (Nat.le_refl _)) hId hn h2
  simp only [Tm.told]
  obtain ⟨y, hy⟩ : ∃ y, y = both2 (L.told lf sf pf s n) (R.told lf sf pf) (fun s m t => pf s n m t) := ⟨_, rfl⟩
  rw [← hy] at hc ⊢
  obtain ⟨hna, _, hen⟩ := hM
  have HC := Lib.hid hc
  clear hy hc hR hl hr hcf hn hI hId h5 h6 h7 h8
  go_enter Tryd.func39, Tryd.ntmps39
  go_wp2_with fail
  go_region_held3 (fun w' => w'.cell? ⟨b, o + 4, none⟩ = some (.slice (some ⟨kb, ko, none⟩) m cap))
    (first | assumption)
    (first
      | (go_at_call 59; refine HC.out.mono ?_; rintro e w5 ⟨_, rfl, rfl, hP5, hB5⟩; have q1 := (hB5.cell (p := ⟨b, o + 4, none⟩) hb).trans l4))
  all_goals
    go_wp2_with fail
    go_ret2
    exact ⟨rfl, hP5, hD0.trans hB5⟩

/-- sp.read, for any reader and any term -/
theorem read_any (hR : Rdr J I C td dv lf sf pf) (T : Tm) : ReadS I C td dv lf sf pf T := by
  induction T with
  | nil => exact read_nil
  | one a => exact read_one hR a
  | seq l r il ir => exact read_seq hR il ir
  | par l r il ir => exact read_par hR il ir

end
end Go.Proofs.YtipihchlhkjdjaaDoor

namespace Go.Proofs.YtipihchlhkjdjaaDoor
open Go.RowKit
set_option maxRecDepth 100000

theorem byteOf0 {C : Nat} {w : World} {T : TypeId} {cs : Array Value} {fr : Nat × Nat} (h : w.heap[C]? = some (.cells cs T fr)) (hc : Tryd.prog.cellsOf T ≠ 0) (hb : byteOfCell Tryd.prog Tryd.prog.depth T 0 = some 0) :
    (byteOf ⟨C, 0, none⟩).run Tryd.prog w = .ok 0 w := by
  have hs : w.shape? C = some (T, cs.size) := by simp [World.shape?, h]
  simp [byteOf, go_sem, hs, hc, hb, noView, viewAt]

theorem isAgg_patient (w : World) : (isAgg 82).run Tryd.prog w = .ok true w := by rfl
theorem sizeOf_patient (w : World) : (Go.sizeOf 82).run Tryd.prog w = .ok 0 w := by rfl
theorem under_patient (w : World) : (underlying 82).run Tryd.prog w = .ok (.struct #[]) w := by rfl

theorem meth_emb {C : Nat} {w : World} {T tp : TypeId} {F : FuncId} {nm : String} {sg : TypeId} {cs : Array Value} {fr : Nat × Nat} {fs : Array Field} {f : Field} (h : w.heap[C]? = some (.cells cs T fr)) (hc : Tryd.prog.cellsOf T ≠ 0)
    (hb : byteOfCell Tryd.prog Tryd.prog.depth T 0 = some 0)
    (hi : (Tryd.prog.info? tp).map (fun i => i.methods.find? (fun x => x.name == nm)) = some (some ⟨nm, sg, #[⟨T, 0, true⟩], some (F, false)⟩))
    (hu : Tryd.prog.underlying T = some (.struct fs)) (hf : fs[0]? = some f) (h1 : f.type = 82) (h2 : f.offset = 0) (h3 : f.byteOffset = 0) (k : Nat) :
    (method (k + 8) tp (.pointer (some ⟨C, 0, none⟩)) nm).run Tryd.prog w = .ok (F, .agg #[]) w := by
  obtain ⟨i, hi1, hi2⟩ := Option.map_eq_some_iff.1 hi
  have hb0 := byteOf0 h hc hb
  unfold method
  simp [typeInfo, go_sem, hi1, hi2, follow, fieldPlace, Place.get, asAddr, partAt, hb0, receiverAt, run_underlying hu, hf, h1, h2, h3, loadCellsFrom]
end Go.Proofs.YtipihchlhkjdjaaDoor
