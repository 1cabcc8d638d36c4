/-
  Expressions in memory: a header of four cells, its two behind it; what names are bound to; lists of names.
-/
import Derived.Test.YtinbcdadffljhaaExM
import Derived.Test.YtinbcdadffljhaaBsOps
import Derived.WalkKit
import Derived.Deep.QuietTactic
import Derived.RangeFuncRecord
namespace Go.Proofs.Ytinbcdadffljhaa
open Go.RowKit
set_option maxRecDepth 100000

theorem str_inj {a b : ByteArray} (h : a.toList = b.toList) : a = b := by
  rw [ByteArray.toList_eq, ByteArray.toList_eq] at h
  exact ByteArray.ext (Array.toList_inj.1 h)
theorem str_yes (a : ByteArray) : (a.toList == a.toList) = true := by simp
theorem str_no {a b : ByteArray} (h : a ≠ b) : (a.toList == b.toList) = false := by
  rw [beq_eq_false_iff_ne]
  exact fun e => h (str_inj e)
/-- what an expression's four cells hold -/
structure Eh where
  k : Int
  n : Int
  s : ByteArray
  A : Option Addr
  m : Nat
  cap : Nat
def Eh.zero : Eh := ⟨0, 0, ByteArray.empty, none, 0, 0⟩
def Eh.cells (h : Eh) : Array Value := #[.int .i64 h.k, .int .i64 h.n, .string h.s, .slice h.A h.m h.cap]
structure EhAt (w : World) (b o : Nat) (h : Eh) : Prop where
  h0 : w.cell? ⟨b, o, none⟩ = some (.int .i64 h.k)
  h1 : w.cell? ⟨b, o + 1, none⟩ = some (.int .i64 h.n)
  h2 : w.cell? ⟨b, o + 2, none⟩ = some (.string h.s)
  h3 : w.cell? ⟨b, o + 3, none⟩ = some (.slice h.A h.m h.cap)
theorem EhAt.below {w w' : World} {b o m : Nat} {h : Eh} (hh : EhAt w b o h) (hb : Below m w w') (hm : b < m) : EhAt w' b o h :=
  ⟨(hb.cell (p := ⟨b, o, none⟩) hm).trans hh.h0, (hb.cell (p := ⟨b, o + 1, none⟩) hm).trans hh.h1, (hb.cell (p := ⟨b, o + 2, none⟩) hm).trans hh.h2, (hb.cell (p := ⟨b, o + 3, none⟩) hm).trans hh.h3⟩
theorem EhAt.new (w : World) (h : Eh) (t : TypeId) : EhAt (w.alloc (.cells h.cells t)) w.heap.size 0 h := by
  have e := World.alloc_heap_new w (.cells h.cells t)
  constructor <;> simp only [World.cell?, e] <;> rfl
/-- is it an operation on two? -/
def Eh.two (h : Eh) : Bool := decide (3 ≤ h.k) && decide (h.k ≤ 9) && decide (2 ≤ h.m)
/-- the expression T lies below block B; h is its header -/
def EIn (w : World) (B : Nat) : Xp → Eh → Prop
  | .num n, h => h.k = 1 ∧ h.n = n ∧ inI n
  | .nam s, h => h.k = 2 ∧ h.s = s ∧ s.size ≤ maxLen
  | .op k l r, h => h.k = k ∧ 3 ≤ k ∧ k ≤ 9 ∧ 2 ≤ h.m ∧ ∃ b o hl hr, h.A = some ⟨b, o, none⟩ ∧ b < B ∧ EhAt w b o hl ∧ EhAt w b (o + 4) hr ∧ EIn w B l hl ∧ EIn w B r hr
  | .nul, h => h.k ≠ 1 ∧ h.k ≠ 2 ∧ h.two = false
theorem EIn.below {w w' : World} {m m' : Nat} (hb : Below m' w w') (hm : m ≤ m') : ∀ {T : Xp} {h : Eh}, EIn w m T h → EIn w' m T h
  | .num _, _, h => h
  | .nam _, _, h => h
  | .op _ _ _, _, ⟨h1, h2, h3, h4, b, o, hl, hr, h5, h6, h7, h8, h9, h10⟩ => ⟨h1, h2, h3, h4, b, o, hl, hr, h5, h6, h7.below hb (by omega), h8.below hb (by omega), h9.below hb hm, h10.below hb hm⟩
  | .nul, _, h => h
theorem EIn.more {w : World} {m m' : Nat} (hm : m ≤ m') : ∀ {T : Xp} {h : Eh}, EIn w m T h → EIn w m' T h
  | .num _, _, h => h
  | .nam _, _, h => h
  | .op _ _ _, _, ⟨h1, h2, h3, h4, b, o, hl, hr, h5, h6, h7, h8, h9, h10⟩ => ⟨h1, h2, h3, h4, b, o, hl, hr, h5, by omega, h7, h8, h9.more hm, h10.more hm⟩
  | .nul, _, h => h
theorem EIn.step {w w' : World} {T : Xp} {h : Eh} (hT : EIn w w.heap.size T h) (hb : Below w.heap.size w w') : EIn w' w'.heap.size T h := (hT.below hb (Nat.le_refl _)).more hb.size
theorem EIn.two {w : World} {B : Nat} : ∀ {T : Xp} {h : Eh}, EIn w B T h → h.two = (match T with | .op _ _ _ => true | _ => false)
  | .num _, h, hT => by unfold Eh.two; rw [hT.1]; rfl
  | .nam _, h, hT => by unfold Eh.two; rw [hT.1]; rfl
  | .op k _ _, h, hT => by
    obtain ⟨h1, h2, h3, h4, _⟩ := hT
    unfold Eh.two
    rw [h1]
    simp [h2, h3, h4]
  | .nul, _, hT => hT.2.2
theorem EIn.fit {w : World} {B : Nat} : ∀ {T : Xp} {h : Eh}, EIn w B T h → T.fit
  | .num _, _, hT => hT.2.2
  | .nam _, _, _ => trivial
  | .op _ _ _, _, hT => by
    obtain ⟨_, _, _, _, b, o, hl, hr, _, _, _, _, h9, h10⟩ := hT
    exact ⟨h9.fit, h10.fit⟩
  | .nul, _, _ => trivial

/-- block B holds an expression's header -/
def EB (T : TypeId) (w : World) (B : Nat) (h : Eh) : Prop := w.heap[B]? = some (.cells h.cells T (0, 0))
section
variable {T : TypeId} {w w' : World} {B : Nat} {h : Eh}
theorem EB.new (w : World) (T : TypeId) (h : Eh) : EB T (w.alloc (.cells h.cells T)) w.heap.size h := World.alloc_heap_new w _
theorem EB.alloc (hb : EB T w B h) (o : Obj) : EB T (w.alloc o) B h := by
  have hlt : B < w.heap.size := (Array.getElem?_eq_some_iff.1 hb).1
  exact ((World.grownBy_alloc w o none).block B hlt (by simp)).trans hb
theorem EB.at (hb : EB T w B h) : EhAt w B 0 h := by
  constructor <;> simp only [World.cell?, show w.heap[B]? = _ from hb] <;> rfl
theorem EB.c0 (hb : EB T w B h) : w.cell? ⟨B, 0, none⟩ = some (.int .i64 h.k) := hb.at.h0
theorem EB.c1 (hb : EB T w B h) : w.cell? ⟨B, 1, none⟩ = some (.int .i64 h.n) := hb.at.h1
theorem EB.c2 (hb : EB T w B h) : w.cell? ⟨B, 2, none⟩ = some (.string h.s) := hb.at.h2
theorem EB.c3 (hb : EB T w B h) : w.cell? ⟨B, 3, none⟩ = some (.slice h.A h.m h.cap) := hb.at.h3
theorem EB.frozen (hb : EB T w B h) (o : Nat) : w.frozen? ⟨B, o, none⟩ = false := by simp [World.frozen?, show w.heap[B]? = _ from hb]
theorem EB.lt (hb : EB T w B h) : B < w.heap.size := (Array.getElem?_eq_some_iff.1 hb).1
theorem EB.below (hb : EB T w B h) {m : Nat} (hw : Below m w w') (hm : B < m) : EB T w' B h := (hw.block B hm).trans hb
theorem EB.step (hb : EB T w B h) (hw : Below w.heap.size w w') : EB T w' B h := hb.below hw hb.lt
theorem EB.drew (hb : EB T w B h) : EB T w.drew B h := hb
end

/-- a binding; the empty name and 0 beyond the list -/
def bd (env : List (ByteArray × Int)) (k : Nat) : ByteArray × Int := env.getD k (ByteArray.empty, 0)
/-- a slice of bindings -/
structure RdB (w : World) (B : Nat) (A : Option Addr) (env : List (ByteArray × Int)) : Prop where
  int : ∀ b, b ∈ env → inI b.2
  room : env.length ≤ 1099511627776
  rd : 0 < env.length → ∃ b off, A = some ⟨b, off, none⟩ ∧ b < B ∧ ∀ k, k < env.length → w.cell? ⟨b, off + k * 2, none⟩ = some (.string (bd env k).1) ∧ w.cell? ⟨b, off + k * 2 + 1, none⟩ = some (.int .i64 (bd env k).2)
  str : ∀ b, b ∈ env → b.1.size ≤ maxLen
theorem RdB.below {w w' : World} {B : Nat} {A : Option Addr} {env : List (ByteArray × Int)} (h : RdB w B A env) (hb : Below B w w') : RdB w' B A env :=
  ⟨h.int, h.room, fun hn => by
    obtain ⟨b, off, hA, hbl, hc⟩ := h.rd hn
    exact ⟨b, off, hA, hbl, fun k hk => ⟨(hb.cell (p := ⟨b, off + k * 2, none⟩) hbl).trans (hc k hk).1, (hb.cell (p := ⟨b, off + k * 2 + 1, none⟩) hbl).trans (hc k hk).2⟩⟩, h.str⟩
theorem RdB.more {w : World} {B B' : Nat} {A : Option Addr} {env : List (ByteArray × Int)} (h : RdB w B A env) (hB : B ≤ B') : RdB w B' A env :=
  ⟨h.int, h.room, fun hn => by
    obtain ⟨b, off, hA, hbl, hc⟩ := h.rd hn
    exact ⟨b, off, hA, by omega, hc⟩, h.str⟩
theorem RdB.step {w w' : World} {A : Option Addr} {env : List (ByteArray × Int)} (h : RdB w w.heap.size A env) (hb : Below w.heap.size w w') : RdB w' w'.heap.size A env := (h.below hb).more hb.size
theorem RdB.nil (w : World) : RdB w w.heap.size none [] := ⟨fun b h => by simp at h, by simp, fun h => absurd h (by simp), fun b h => by simp at h⟩

/-- name k of a list, the empty one beyond it -/
def sd (l : List ByteArray) (k : Nat) : ByteArray := l.getD k ByteArray.empty
/-- a slice of names -/
structure RdN (w : World) (B : Nat) (A : Option Addr) (l : List ByteArray) : Prop where
  room : l.length ≤ 1099511627776
  rd : Rd w B A l.length (fun k => .string (sd l k))
theorem RdN.below {w w' : World} {B : Nat} {A : Option Addr} {l : List ByteArray} (h : RdN w B A l) (hb : Below B w w') : RdN w' B A l := ⟨h.room, h.rd.below hb⟩
theorem RdN.more {w : World} {B B' : Nat} {A : Option Addr} {l : List ByteArray} (h : RdN w B A l) (hB : B ≤ B') : RdN w B' A l := ⟨h.room, h.rd.more hB⟩
theorem RdN.step {w w' : World} {A : Option Addr} {l : List ByteArray} (h : RdN w w.heap.size A l) (hb : Below w.heap.size w w') : RdN w' w'.heap.size A l := (h.below hb).more hb.size
/-- names as values -/
def nVals (l : List ByteArray) : List Value := l.map fun s => Value.string s
theorem nVals_len (l : List ByteArray) : (nVals l).length = l.length := by simp [nVals]
theorem nVals_at (l : List ByteArray) (k : Nat) (h : k < l.length) : (nVals l)[k]? = some (.string (sd l k)) := by unfold nVals sd; simp [h, List.getD]
theorem nVals_snoc (l : List ByteArray) (s : ByteArray) : nVals l ++ [.string s] = nVals (l ++ [s]) := by simp [nVals]
theorem own_rdN {w : World} {base : Nat} {e : TypeId} {v : Value} {l : List ByteArray} (h : w.ownsRow base e 1 v l.length (nVals l)) (hroom : l.length ≤ 1099511627776) : ∃ A c, v = .slice A l.length c ∧ RdN w w.heap.size A l := by
  obtain ⟨A, c, rfl⟩ := own_any h
  exact ⟨A, c, rfl, hroom, own_rd h fun k hk => nVals_at l k hk⟩
end Go.Proofs.Ytinbcdadffljhaa
