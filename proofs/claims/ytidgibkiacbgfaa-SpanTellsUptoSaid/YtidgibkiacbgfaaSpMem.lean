/-
  Terms in memory: a header of five cells, its kids behind it.
-/
import Derived.Test.YtidgibkiacbgfaaSpT
import Derived.WalkKit
import Derived.Deep.QuietTactic
import Derived.RangeFuncRecord
namespace Go.Proofs.Ytidgibkiacbgfaa
open Go.RowKit
set_option maxRecDepth 100000

/-- what a term's five cells hold -/
structure Hd where
  k : Int
  c : Int
  x : Bool
  l : Int
  A : Option Addr
  n : Nat
  cap : Nat
def Hd.zero : Hd := ⟨0, 0, false, 0, none, 0, 0⟩
def Hd.cells (h : Hd) : Array Value := #[.int .i64 h.k, .int .i64 h.c, .bool h.x, .int .i64 h.l, .slice h.A h.n h.cap]

structure HdAt (w : World) (b o : Nat) (h : Hd) : Prop where
  h0 : w.cell? ⟨b, o, none⟩ = some (.int .i64 h.k)
  h1 : w.cell? ⟨b, o + 1, none⟩ = some (.int .i64 h.c)
  h2 : w.cell? ⟨b, o + 2, none⟩ = some (.bool h.x)
  h3 : w.cell? ⟨b, o + 3, none⟩ = some (.int .i64 h.l)
  h4 : w.cell? ⟨b, o + 4, none⟩ = some (.slice h.A h.n h.cap)

theorem HdAt.below {w w' : World} {b o m : Nat} {h : Hd} (hh : HdAt w b o h) (hb : Below m w w') (hm : b < m) : HdAt w' b o h :=
  ⟨(hb.cell (p := ⟨b, o, none⟩) hm).trans hh.h0, (hb.cell (p := ⟨b, o + 1, none⟩) hm).trans hh.h1, (hb.cell (p := ⟨b, o + 2, none⟩) hm).trans hh.h2,
    (hb.cell (p := ⟨b, o + 3, none⟩) hm).trans hh.h3, (hb.cell (p := ⟨b, o + 4, none⟩) hm).trans hh.h4⟩
theorem HdAt.new (w : World) (h : Hd) (t : TypeId) : HdAt (w.alloc (.cells h.cells t)) w.heap.size 0 h := by
  have e := World.alloc_heap_new w (.cells h.cells t)
  constructor <;> simp only [World.cell?, e] <;> rfl

/-- the term T lies below block m; h is its header -/
def TIn (w : World) (m : Nat) : Tm → Hd → Prop
  | .nil, h => h.k ≠ 1 ∧ ((h.k ≠ 2 ∧ h.k ≠ 3) ∨ h.n < 2)
  | .one a, h => h.k = 1 ∧ a = (h.c, h.x, h.l)
  | .seq l r, h => h.k = 2 ∧ 2 ≤ h.n ∧ ∃ b o hl hr, h.A = some ⟨b, o, none⟩ ∧ b < m ∧ HdAt w b o hl ∧ HdAt w b (o + 5) hr ∧ TIn w m l hl ∧ TIn w m r hr
  | .par l r, h => h.k = 3 ∧ 2 ≤ h.n ∧ ∃ b o hl hr, h.A = some ⟨b, o, none⟩ ∧ b < m ∧ HdAt w b o hl ∧ HdAt w b (o + 5) hr ∧ TIn w m l hl ∧ TIn w m r hr

theorem TIn.below {w w' : World} {m m' : Nat} (hb : Below m' w w') (hm : m ≤ m') : ∀ {T : Tm} {h : Hd}, TIn w m T h → TIn w' m T h
  | .nil, _, h => h
  | .one _, _, h => h
  | .seq _ _, _, ⟨h1, h2, b, o, hl, hr, h3, h4, h5, h6, h7, h8⟩ => ⟨h1, h2, b, o, hl, hr, h3, h4, h5.below hb (by omega), h6.below hb (by omega), h7.below hb hm, h8.below hb hm⟩
  | .par _ _, _, ⟨h1, h2, b, o, hl, hr, h3, h4, h5, h6, h7, h8⟩ => ⟨h1, h2, b, o, hl, hr, h3, h4, h5.below hb (by omega), h6.below hb (by omega), h7.below hb hm, h8.below hb hm⟩
theorem TIn.more {w : World} {m m' : Nat} (hm : m ≤ m') : ∀ {T : Tm} {h : Hd}, TIn w m T h → TIn w m' T h
  | .nil, _, h => h
  | .one _, _, h => h
  | .seq _ _, _, ⟨h1, h2, b, o, hl, hr, h3, h4, h5, h6, h7, h8⟩ => ⟨h1, h2, b, o, hl, hr, h3, by omega, h5, h6, h7.more hm, h8.more hm⟩
  | .par _ _, _, ⟨h1, h2, b, o, hl, hr, h3, h4, h5, h6, h7, h8⟩ => ⟨h1, h2, b, o, hl, hr, h3, by omega, h5, h6, h7.more hm, h8.more hm⟩
theorem TIn.drewN {w : World} {m n : Nat} : ∀ {T : Tm} {h : Hd}, TIn w m T h → TIn (w.drewN n) m T h
  | .nil, _, h => h
  | .one _, _, h => h
  | .seq _ _, _, ⟨h1, h2, b, o, hl, hr, h3, h4, h5, h6, h7, h8⟩ => ⟨h1, h2, b, o, hl, hr, h3, h4, ⟨h5.h0, h5.h1, h5.h2, h5.h3, h5.h4⟩, ⟨h6.h0, h6.h1, h6.h2, h6.h3, h6.h4⟩, h7.drewN, h8.drewN⟩
  | .par _ _, _, ⟨h1, h2, b, o, hl, hr, h3, h4, h5, h6, h7, h8⟩ => ⟨h1, h2, b, o, hl, hr, h3, h4, ⟨h5.h0, h5.h1, h5.h2, h5.h3, h5.h4⟩, ⟨h6.h0, h6.h1, h6.h2, h6.h3, h6.h4⟩, h7.drewN, h8.drewN⟩
end Go.Proofs.Ytidgibkiacbgfaa
