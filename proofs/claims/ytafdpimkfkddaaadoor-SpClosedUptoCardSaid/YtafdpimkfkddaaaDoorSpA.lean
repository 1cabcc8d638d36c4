/-
  Contract of sp.Before: is leaf i ahead of leaf j?
-/
import Derived.Test.YtafdpimkfkddaaaDoorSpL
namespace Go.Proofs.YtafdpimkfkddaaaDoor
open Go.RowKit
set_option maxRecDepth 100000

theorem patient_leaf (n : Int) (a : Acc) (w : World) :
    Calls Tryd.prog 74 #[.agg #[], .int .i64 n, accV a] w fun e w' => e = .returned (.bool true) ∧ w' = (w.alloc (.cells #[] 48)).alloc (.cells #[.int .i64 a.1, .bool a.2.1, .int .i64 a.2.2] 23) := by
  obtain ⟨c, x, l⟩ := a
  dsimp only [accV]
  go_enter Tryd.func74, Tryd.ntmps74
  go_wp2_with fail
  go_ret
  exact ⟨rfl, rfl⟩

/-- the asker's box -/
def AskB (C : Nat) (i j : Int) (w : World) (p : Bool) : Prop := w.heap[C]? = some (.cells #[.int .i64 i, .int .i64 j, .bool p] 91 (0, 0))
theorem AskB.lt {C : Nat} {i j : Int} {w : World} {p : Bool} (h : AskB C i j w p) : C < w.heap.size := (Array.getElem?_eq_some_iff.1 h).1
theorem AskB.alloc {C : Nat} {i j : Int} {w : World} {p : Bool} (h : AskB C i j w p) (o : Obj) : AskB C i j (w.alloc o) p :=
  ((World.grownBy_alloc w o none).block C h.lt (by simp)).trans h
theorem AskB.c0 {C : Nat} {i j : Int} {w : World} {p : Bool} (h : AskB C i j w p) : w.cell? ⟨C, 0, none⟩ = some (.int .i64 i) := by simp [World.cell?, show w.heap[C]? = _ from h]
theorem AskB.c1 {C : Nat} {i j : Int} {w : World} {p : Bool} (h : AskB C i j w p) : w.cell? ⟨C, 1, none⟩ = some (.int .i64 j) := by simp [World.cell?, show w.heap[C]? = _ from h]
theorem AskB.c2 {C : Nat} {i j : Int} {w : World} {p : Bool} (h : AskB C i j w p) : w.cell? ⟨C, 2, none⟩ = some (.bool p) := by simp [World.cell?, show w.heap[C]? = _ from h]
theorem AskB.frozen {C : Nat} {i j : Int} {w : World} {p : Bool} (h : AskB C i j w p) (o : Nat) : w.frozen? ⟨C, o, none⟩ = false := by simp [World.frozen?, show w.heap[C]? = _ from h]
theorem AskB.set {C : Nat} {i j : Int} {w : World} {p : Bool} (h : AskB C i j w p) (q : Bool) : AskB C i j (w.setCell ⟨C, 2, none⟩ (.bool q)) q :=
  heap_set_in h _

/-- what a series tells the asker -/
def askS (i j : Int) (p : Bool) (x m t : Nat) : Bool := p || (decide ((x : Int) ≤ i) && decide (i < (m : Int)) && decide ((m : Int) ≤ j) && decide (j < (t : Int)))

theorem ask_series (C x m t : Nat) (i j : Int) (p : Bool) (w : World) (h : AskB C i j w p) :
    Calls Tryd.prog 81 #[.pointer (some ⟨C, 0, none⟩), .int .i64 x, .int .i64 m, .int .i64 t] w fun e w' => e = .returned (.tuple #[]) ∧ AskB C i j w' (askS i j p x m t) ∧ Below C w w' := by
  have c0 := h.c0
  have c1 := h.c1
  have c2 := h.c2
  have hf := h.frozen
  have hB := Below.refl C w
  by_cases h1 : (x : Int) ≤ i
  · by_cases h2 : i < (m : Int)
    · by_cases h3 : (m : Int) ≤ j
      · by_cases h4 : j < (t : Int)
        · have e : askS i j p x m t = true := by simp [askS, h1, h2, h3, h4]
          rw [e]
          go_enter Tryd.func81, Tryd.ntmps81
          go_wp2_with fail
          go_end0
          exact ⟨rfl, h.set true, hB.setCell (p := ⟨C, 2, none⟩) (Nat.le_refl _) _⟩
        · have e : askS i j p x m t = p := by simp [askS, h4]
          rw [e]
          go_enter Tryd.func81, Tryd.ntmps81
          go_wp2_with fail
          go_end0
          exact ⟨rfl, h, hB⟩
      · have e : askS i j p x m t = p := by simp [askS, h3]
        rw [e]
        go_enter Tryd.func81, Tryd.ntmps81
        go_wp2_with fail
        go_end0
        exact ⟨rfl, h, hB⟩
    · have e : askS i j p x m t = p := by simp [askS, h2]
      rw [e]
      go_enter Tryd.func81, Tryd.ntmps81
      go_wp2_with fail
      go_end0
      exact ⟨rfl, h, hB⟩
  · have e : askS i j p x m t = p := by simp [askS, h1]
    rw [e]
    go_enter Tryd.func81, Tryd.ntmps81
    go_wp2_with fail
    go_end0
    exact ⟨rfl, h, hB⟩

theorem askR (C : Nat) (i j : Int) : Rdr (BoxT C 91) (fun w p _ => AskB C i j w p) C 92 (.pointer (some ⟨C, 0, none⟩)) (fun s _ _ => (s, true)) (askS i j) (fun s _ _ _ => s) where
  drew := fun w s n h => h
  there := fun w s n h => ⟨_, h⟩
  leaf := ⟨74, .agg #[], Meth.emb (sg := 81) (by decide +kernel) (by kernel_rfl) (by kernel_rfl) Tryd.underlying91 rfl rfl rfl rfl (fun _ _ => by kernel_rfl) (fun _ _ => by kernel_rfl),
    fun w s n a h _ => (patient_leaf n a w).mono fun e w' ⟨h1, h2⟩ => ⟨h1, h2 ▸ (h.alloc _).alloc _, h2 ▸ ((Below.refl C w).alloc (Nat.le_of_lt h.lt) _).alloc (by have := h.lt; simp; omega) _⟩⟩
  ser := ⟨81, .pointer (some ⟨C, 0, none⟩), Meth.direct (fun _ _ => by kernel_rfl) (fun _ _ => by kernel_rfl) (fun _ _ => by kernel_rfl), fun w s x m t h _ _ _ => ask_series C x m t i j s w h⟩
  par := ⟨72, .agg #[], Meth.emb (sg := 83) (by decide +kernel) (by kernel_rfl) (by kernel_rfl) Tryd.underlying91 rfl rfl rfl rfl (fun _ _ => by kernel_rfl) (fun _ _ => by kernel_rfl),
    fun w s x m t h _ _ _ => (patient_parallel x m t w).mono fun e w' ⟨h1, h2⟩ => ⟨h1, h2 ▸ h.alloc _, h2 ▸ (Below.refl C w).alloc (Nat.le_of_lt h.lt) _⟩⟩

theorem told_ask (i j : Int) (T : Tm) : ∀ (s : Bool) (n : Nat), T.told (fun (s : Bool) _ _ => (s, true)) (askS i j) (fun s _ _ _ => s) s n = (s || T.ask n i j, n + T.sz, true) := by
  induction T with
  | nil => intro s n; simp [Tm.told, Tm.ask, Tm.sz]
  | one a => intro s n; simp [Tm.told, Tm.ask, Tm.sz]
  | seq l r il ir =>
    intro s n
    simp only [Tm.told, il, both2, ir, Tm.ask, Tm.sz, askS, Nat.add_assoc, Int.natCast_add, Bool.or_assoc, Int.add_assoc]
  | par l r il ir =>
    intro s n
    simp only [Tm.told, il, both2, ir, Tm.ask, Tm.sz, Nat.add_assoc, Int.natCast_add, Bool.or_assoc]

theorem before_any (T : Tm) (h : Hd) (i j : Int) (w : World) (hT : TIn w w.heap.size T h) (hs : T.sz ≤ 1048576) :
    Calls Tryd.prog 23 #[.agg h.cells, .int .i64 i, .int .i64 j] w fun e w' => e = .returned (.bool (T.bef i j)) ∧ Below w.heap.size w w' := by
  have key : ∃ w1, w1 = ((w.alloc (.cells h.cells 26)).alloc (.cells #[.int .i64 i, .int .i64 j, .bool false] 91)) ∧ Below w.heap.size w w1 ∧ TB 26 w1 w.heap.size h ∧ AskB (w.heap.size + 1) i j w1 false := by
    refine ⟨_, rfl, ((Below.refl _ _).alloc (Nat.le_refl _) _).alloc (by simp) _, (TB.new _ _ _).alloc _, ?_⟩
    have := World.alloc_heap_new (w.alloc (.cells h.cells 26)) (.cells #[.int .i64 i, .int .i64 j, .bool false] 91)
    rwa [World.size_alloc] at this
  obtain ⟨w1, hw1, hb1, ht1, hI1⟩ := key
  have hT1 : TIn w1 (w.heap.size + 1) T h := (hT.below hb1 (Nat.le_refl _)).more (by omega)
  have hc := read_any (askR (w.heap.size + 1) i j) T w1 w.heap.size 0 h false 0 ht1.at (by omega) hT1 hI1 (by omega)
  rw [told_ask, Tm.ask_bef] at hc
  dsimp only at hc
  rw [show i - ((0 : Nat) : Int) = i by omega, show j - ((0 : Nat) : Int) = j by omega, Bool.false_or] at hc
  have HC : Hid (Calls Tryd.prog 15 #[.pointer (some ⟨w.heap.size, 0, none⟩), .int .i64 0, .iface 92 (.pointer (some ⟨w.heap.size + 1, 0, none⟩))] w1 _) := Lib.hid hc
  obtain ⟨k, c, x, l, A, m, cap⟩ := h
  dsimp only [Hd.cells] at hw1 ⊢
  clear hc hT1 hT ht1 hI1
  go_enter Tryd.func23, Tryd.ntmps23
  go_wp2_with (first
    | (rw [← hw1]; refine HC.out.mono ?_; rintro e w2 ⟨rfl, hv, hb2⟩; have hc2 := hv.c2)
    | fail)
  go_ret
  exact ⟨rfl, hb1.trans (hb2.mono (by omega))⟩
end Go.Proofs.YtafdpimkfkddaaaDoor
