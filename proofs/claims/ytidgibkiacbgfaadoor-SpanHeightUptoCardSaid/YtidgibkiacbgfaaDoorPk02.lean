/-
  Contract of sp.Before: is leaf i ahead of leaf j?
  Contracts of the marker's methods.
  append of one row's elements onto another row: both made by the call, either of them maybe nil or empty.
  Contract of the reference's DLeaves.
-/
import Derived.Test.YtidgibkiacbgfaaDoorPk01
import Derived.Deep.AppendSrc
import Derived.Maps.AppendAt
namespace Go.Proofs.YtidgibkiacbgfaaDoor
open Go.RowKit
set_option maxRecDepth 100000

theorem patient_leaf (n : Int) (a : Acc) (w : World) :
    Calls Tryd.prog 80 #[.agg #[], .int .i64 n, accV a] w fun e w' => e = .returned (.bool true) ∧ w' = (w.alloc (.cells #[] 59)).alloc (.cells #[.int .i64 a.1, .bool a.2.1, .int .i64 a.2.2] 23) := by
  obtain ⟨c, x, l⟩ := a
  dsimp only [accV]
  go_enter Tryd.func80, Tryd.ntmps80
  go_wp2_with fail
  go_ret
  exact ⟨rfl, rfl⟩

/-- the asker's box -/
def AskB (C : Nat) (i j : Int) (w : World) (p : Bool) : Prop := w.heap[C]? = some (.cells #[.int .i64 i, .int .i64 j, .bool p] 83 (0, 0))
theorem AskB.lt {C : Nat} {i j : Int} {w : World} {p : Bool} (h : AskB C i j w p) : C < w.heap.size := (Array.getElem?_eq_some_iff.1 h).1
theorem AskB.alloc {C : Nat} {i j : Int} {w : World} {p : Bool} (h : AskB C i j w p) (o : Obj) : AskB C i j (w.alloc o) p :=
  ((World.grownBy_alloc w o none).block C h.lt (by simp)).trans h
theorem AskB.c0 {C : Nat} {i j : Int} {w : World} {p : Bool} (h : AskB C i j w p) : w.cell? ⟨C, 0, none⟩ = some (.int .i64 i) := by simp [World.cell?, show w.heap[C]? = _ from h]
theorem AskB.c1 {C : Nat} {i j : Int} {w : World} {p : Bool} (h : AskB C i j w p) : w.cell? ⟨C, 1, none⟩ = some (.int .i64 j) := by simp [World.cell?, show w.heap[C]? = _ from h]
theorem AskB.c2 {C : Nat} {i j : Int} {w : World} {p : Bool} (h : AskB C i j w p) : w.cell? ⟨C, 2, none⟩ = some (.bool p) := by simp [World.cell?, show w.heap[C]? = _ from h]
theorem AskB.frozen {C : Nat} {i j : Int} {w : World} {p : Bool} (h : AskB C i j w p) (o : Nat) : w.frozen? ⟨C, o, none⟩ = false := by simp [World.frozen?, show w.heap[C]? = _ from h]
theorem AskB.set {C : Nat} {i j : Int} {w : World} {p : Bool} (h : AskB C i j w p) (q : Bool) : AskB C i j (w.setCell ⟨C, 2, none⟩ (.bool q)) q :=
  heap_set_in h _

/-- what a series tells the asker -/
def askS (i j : Int) (p : Bool) (x m t : Nat) : Bool := p || (decide ((x : Int) ≤ i) && decide (i < (m : Int)) && decide ((m : Int) ≤ j) && decide (j < (t : Int)))

theorem ask_series (C x m t : Nat) (i j : Int) (p : Bool) (w : World) (h : AskB C i j w p) :
    Calls Tryd.prog 86 #[.pointer (some ⟨C, 0, none⟩), .int .i64 x, .int .i64 m, .int .i64 t] w fun e w' => e = .returned (.tuple #[]) ∧ AskB C i j w' (askS i j p x m t) ∧ Below C w w' := by
  have c0 := h.c0
  have c1 := h.c1
  have c2 := h.c2
  have hf := h.frozen
  have hB := Below.refl C w
  by_cases h1 : (x : Int) ≤ i
  · by_cases h2 : i < (m : Int)
    · by_cases h3 : (m : Int) ≤ j
      · by_cases h4 : j < (t : Int)
        · have e : askS i j p x m t = true := by simp [askS, h1, h2, h3, h4]
          rw [e]
          go_enter Tryd.func86, Tryd.ntmps86
          go_wp2_with fail
          go_end0
          exact ⟨rfl, h.set true, hB.setCell (p := ⟨C, 2, none⟩) (Nat.le_refl _) _⟩
        · have e : askS i j p x m t = p := by simp [askS, h4]
          rw [e]
          go_enter Tryd.func86, Tryd.ntmps86
          go_wp2_with fail
          go_end0
          exact ⟨rfl, h, hB⟩
      · have e : askS i j p x m t = p := by simp [askS, h3]
        rw [e]
        go_enter Tryd.func86, Tryd.ntmps86
        go_wp2_with fail
        go_end0
        exact ⟨rfl, h, hB⟩
    · have e : askS i j p x m t = p := by simp [askS, h2]
      rw [e]
      go_enter Tryd.func86, Tryd.ntmps86
      go_wp2_with fail
      go_end0
      exact ⟨rfl, h, hB⟩
  · have e : askS i j p x m t = p := by simp [askS, h1]
    rw [e]
    go_enter Tryd.func86, Tryd.ntmps86
    go_wp2_with fail
    go_end0
    exact ⟨rfl, h, hB⟩

theorem askR (C : Nat) (i j : Int) : Rdr (BoxT C 83) (fun w p _ => AskB C i j w p) C 84 (.pointer (some ⟨C, 0, none⟩)) (fun s _ _ => (s, true)) (askS i j) (fun s _ _ _ => s) where
  drew := fun w s n h => h
  there := fun w s n h => ⟨_, h⟩
  leaf := ⟨80, .agg #[], Meth.emb (sg := 90) (by decide +kernel) (by kernel_rfl) (by kernel_rfl) Tryd.underlying83 rfl rfl rfl rfl (fun _ _ => by kernel_rfl) (fun _ _ => by kernel_rfl),
    fun w s n a h _ => (patient_leaf n a w).mono fun e w' ⟨h1, h2⟩ => ⟨h1, h2 ▸ (h.alloc _).alloc _, h2 ▸ ((Below.refl C w).alloc (Nat.le_of_lt h.lt) _).alloc (by have := h.lt; simp; omega) _⟩⟩
  ser := ⟨86, .pointer (some ⟨C, 0, none⟩), Meth.direct (fun _ _ => by kernel_rfl) (fun _ _ => by kernel_rfl) (fun _ _ => by kernel_rfl), fun w s x m t h _ _ _ => ask_series C x m t i j s w h⟩
  par := ⟨78, .agg #[], Meth.emb (sg := 92) (by decide +kernel) (by kernel_rfl) (by kernel_rfl) Tryd.underlying83 rfl rfl rfl rfl (fun _ _ => by kernel_rfl) (fun _ _ => by kernel_rfl),
    fun w s x m t h _ _ _ => (patient_parallel x m t w).mono fun e w' ⟨h1, h2⟩ => ⟨h1, h2 ▸ h.alloc _, h2 ▸ (Below.refl C w).alloc (Nat.le_of_lt h.lt) _⟩⟩

theorem told_ask (i j : Int) (T : Tm) : ∀ (s : Bool) (n : Nat), T.told (fun (s : Bool) _ _ => (s, true)) (askS i j) (fun s _ _ _ => s) s n = (s || T.ask n i j, n + T.sz, true) := by
  induction T with
  | nil => intro s n; simp [Tm.told, Tm.ask, Tm.sz]
  | one a => intro s n; simp [Tm.told, Tm.ask, Tm.sz]
  | seq l r il ir =>
    intro s n
    simp only [Tm.told, il, both2, ir, Tm.ask, Tm.sz, askS, Nat.add_assoc, Int.natCast_add, Bool.or_assoc, Int.add_assoc]
  | par l r il ir =>
    intro s n
    simp only [Tm.told, il, both2, ir, Tm.ask, Tm.sz, Nat.add_assoc, Int.natCast_add, Bool.or_assoc]

theorem before_any (T : Tm) (h : Hd) (i j : Int) (w : World) (hT : TIn w w.heap.size T h) (hs : T.sz ≤ 1048576) :
    Calls Tryd.prog 17 #[.agg h.cells, .int .i64 i, .int .i64 j] w fun e w' => e = .returned (.bool (T.bef i j)) ∧ Below w.heap.size w w' := by
  have key : ∃ w1, w1 = ((w.alloc (.cells h.cells 26)).alloc (.cells #[.int .i64 i, .int .i64 j, .bool false] 83)) ∧ Below w.heap.size w w1 ∧ TB 26 w1 w.heap.size h ∧ AskB (w.heap.size + 1) i j w1 false := by
    refine ⟨_, rfl, ((Below.refl _ _).alloc (Nat.le_refl _) _).alloc (by simp) _, (TB.new _ _ _).alloc _, ?_⟩
    have := World.alloc_heap_new (w.alloc (.cells h.cells 26)) (.cells #[.int .i64 i, .int .i64 j, .bool false] 83)
    rwa [World.size_alloc] at this
  obtain ⟨w1, hw1, hb1, ht1, hI1⟩ := key
  have hT1 : TIn w1 (w.heap.size + 1) T h := (hT.below hb1 (Nat.le_refl _)).more (by omega)
  have hc := read_any (askR (w.heap.size + 1) i j) T w1 w.heap.size 0 h false 0 ht1.at (by omega) hT1 hI1 (by omega)
  rw [told_ask, Tm.ask_bef] at hc
  dsimp only at hc
  rw [show i - ((0 : Nat) : Int) = i by omega, show j - ((0 : Nat) : Int) = j by omega, Bool.false_or] at hc
  have HC : Hid (Calls Tryd.prog 20 #[.pointer (some ⟨w.heap.size, 0, none⟩), .int .i64 0, .iface 84 (.pointer (some ⟨w.heap.size + 1, 0, none⟩))] w1 _) := Lib.hid hc
  obtain ⟨k, c, x, l, A, m, cap⟩ := h
  dsimp only [Hd.cells] at hw1 ⊢
  clear hc hT1 hT ht1 hI1
  go_enter Tryd.func17, Tryd.ntmps17
  go_wp2_with (first
    | (rw [← hw1]; refine HC.out.mono ?_; rintro e w2 ⟨rfl, hv, hb2⟩; have hc2 := hv.c2)
    | fail)
  go_ret
  exact ⟨rfl, hb1.trans (hb2.mono (by omega))⟩
end Go.Proofs.YtidgibkiacbgfaaDoor

namespace Go.Proofs.YtidgibkiacbgfaaDoor
open Go.RowKit
set_option maxRecDepth 100000

def zVals (Z : List Int) : List Value := Z.map fun z => .int .i64 z
theorem zVals_at (Z : List Int) (k : Nat) (hk : k < Z.length) : (zVals Z)[k]? = some (.int .i64 (z0 Z k)) := by
  unfold zVals z0
  simp [hk, List.getD]
theorem zVals_set (Z : List Int) (k : Nat) (v : Int) : (zVals Z).set k (.int .i64 v) = zVals (Z.set k v) := by
  unfold zVals
  rw [List.map_set]
theorem zVals_snoc (Z : List Int) (v : Int) : zVals (Z ++ [v]) = zVals Z ++ [.int .i64 v] := by simp [zVals]
theorem zVals_len (Z : List Int) : (zVals Z).length = Z.length := by simp [zVals]

/-- a store into a row of its own -/
theorem own_set {w : World} {base size n g cap j : Nat} {e : TypeId} {xs : List Value} (h : w.ownsRow base e size (.slice (some ⟨g, 0, none⟩) n cap) n xs) (u : Value) :
    (w.setCell ⟨g, j, none⟩ u).ownsRow base e size (.slice (some ⟨g, 0, none⟩) n cap) n (xs.set j u) := by
  rcases h.2 with ⟨h1, _⟩ | ⟨g', cap', cur, h1, h2, h3, h4, h5, h6, h7⟩
  · cases h1
  · injection h1 with hA _ hc
    injection hA with hA
    injection hA with hA
    subst hA
    subst hc
    refine ⟨by rw [List.length_set]; exact h.1, .inr ⟨_, _, cur.set! j u, rfl, h2, heap_set_in h3 u, h4, h5, by simpa using h6, ?_⟩⟩
    rw [← h7]
    simp [List.take_set]
theorem own_cell1 {w : World} {base n g cap : Nat} {e : TypeId} {Z : List Int} (h : w.ownsRow base e 1 (.slice (some ⟨g, 0, none⟩) n cap) n (zVals Z)) (k : Nat) (hk : k < n) : w.cell? ⟨g, k, none⟩ = some (.int .i64 (z0 Z k)) := by
  rw [h.cellAt k (by omega), zVals_at Z k (by have := h.1; rw [zVals_len] at this; omega)]
theorem own_frozen {w : World} {base size n g cap : Nat} {e : TypeId} {xs : List Value} (h : w.ownsRow base e size (.slice (some ⟨g, 0, none⟩) n cap) n xs) (k : Nat) : w.frozen? ⟨g, k, none⟩ = false := by
  rcases h.2 with ⟨h1, _⟩ | ⟨g', cap', cur, h1, h2, h3, h4⟩
  · cases h1
  · injection h1 with hA _ hc
    injection hA with hA
    injection hA with hA
    subst hA
    simp [World.frozen?, h3]

theorem Tryd.infoIntP : ∃ i0, Tryd.prog.info? 3 = some i0 ∧ i0.zero = some (.int .i64 0) ∧ i0.size = 1 ∧ i0.bytes = 8 := by
  have h : (Tryd.prog.info? 3).map (fun i => (i.zero, i.size, i.bytes)) = some (some (.int .i64 0), 1, 8) := by kernel_rfl
  obtain ⟨i0, hi, hii⟩ := Option.map_eq_some_iff.1 h
  simp only [Prod.mk.injEq] at hii
  exact ⟨i0, hi, hii⟩

/-- one is appended to the row that lies in the box; row and box lie from block M on -/
theorem coll_stepM {M C size k m : Nat} {T E : TypeId} {xs ys : List Value} {W w1 : World} {v v' : Value} {tmp : Obj} (hM : M ≤ C) (hv : Boxed W C T v) (hTE : T ≠ E) (hrow : W.ownsRow M E size v k xs)
    (hown' : w1.ownsRow M E size v' m ys) (hgrow : (W.alloc tmp).grownBy w1 v.ownBlock) :
    Boxed (w1.setCell ⟨C, 0, none⟩ v') C T v' ∧ (w1.setCell ⟨C, 0, none⟩ v').ownsRow M E size v' m ys ∧ Below M W (w1.setCell ⟨C, 0, none⟩ v') := by
  have hv0 : Boxed (W.alloc tmp) C T v := hv.alloc tmp
  have hv1 : Boxed w1 C T v := hv0.kept hgrow (hv.not_row hTE hrow)
  refine ⟨hv1.set v', hown'.kept (grownBy_setCell' w1 C v') (.inr (hv1.not_row hTE hown').symm), ?_⟩
  have hlt := hv.lt
  exact (((Below.refl M W).alloc (by omega) tmp).grown hgrow (by simp; omega) fun j ej => (hrow.lt j ej).1).setCell (p := ⟨C, 0, none⟩) hM v'

/-- the marker's state -/
def MarkI (M C : Nat) (w : World) (Z : List Int) (n : Nat) : Prop :=
  M ≤ C ∧ ∃ g cap, Boxed w C 86 (.slice (some ⟨g, 0, none⟩) Z.length cap) ∧ w.ownsRow M 3 1 (.slice (some ⟨g, 0, none⟩) Z.length cap) Z.length (zVals Z) ∧ Z.length = n + 1
theorem MarkI.lt {M C n : Nat} {w : World} {Z : List Int} (h : MarkI M C w Z n) : C < w.heap.size := by
  obtain ⟨_, g, cap, h1, _⟩ := h
  exact h1.lt
theorem MarkI.alloc {M C n : Nat} {w : World} {Z : List Int} (h : MarkI M C w Z n) (o : Obj) : MarkI M C (w.alloc o) Z n := by
  obtain ⟨hM, g, cap, h1, h2, h3⟩ := h
  exact ⟨hM, g, cap, h1.alloc o, h2.alloc o, h3⟩

theorem mark_leaf (M C n : Nat) (a : Acc) (Z : List Int) (w : World) (h : MarkI M C w Z n) (hn : n < 1048576) :
    Calls Tryd.prog 87 #[.pointer (some ⟨C, 0, none⟩), .int .i64 n, accV a] w fun e w' => e = .returned (.bool true) ∧ MarkI M C w' (Z ++ [0]) (n + 1) ∧ Below M w w' := by
  obtain ⟨hM, g0, cap0, hv, hown, hle⟩ := h
  obtain ⟨c, x, l⟩ := a
  dsimp only [accV]
  obtain ⟨i0, hi, hz0, hz1, hz2⟩ := Tryd.infoIntP
  have hv1 := hv.alloc (.cells #[.int .i64 c, .bool x, .int .i64 l] 23)
  have hown1 := hown.alloc (.cells #[.int .i64 c, .bool x, .int .i64 l] 23)
  have hb1 : Below M w (w.alloc (.cells #[.int .i64 c, .bool x, .int .i64 l] 23)) := (Below.refl M w).alloc (by have := hv.lt; omega) _
  obtain ⟨w1, hw1⟩ : ∃ w1, w1 = w.alloc (.cells #[.int .i64 c, .bool x, .int .i64 l] 23) := ⟨_, rfl⟩
  rw [← hw1] at hv1 hown1 hb1
  have hc0 := hv.cell
  have hlt0 := hv.lt
  have hlt := hv1.lt
  obtain ⟨L, hL⟩ : ∃ L, L = Z.length := ⟨_, rfl⟩
  rw [← hL] at hown1 hle hv1 hc0
  have hin1 : L + 1 ≤ maxLen := by unfold maxLen; omega
  have hin2 : (L + 1) * 8 ≤ 140737488355328 := by omega
  have hfin : ∀ gg cap w4, w4.ownsRow M 3 1 (.slice (some ⟨gg, 0, none⟩) (L + 1) cap) (L + 1) (zVals Z ++ [.int .i64 0]) →
      (w1.alloc (.cells #[.int .i64 0] 3)).grownBy w4 (Value.slice (some ⟨g0, 0, none⟩) L cap0).ownBlock →
      MarkI M C (w4.setCell ⟨C, 0, none⟩ (.slice (some ⟨gg, 0, none⟩) (L + 1) cap)) (Z ++ [0]) (n + 1) ∧ Below M w (w4.setCell ⟨C, 0, none⟩ (.slice (some ⟨gg, 0, none⟩) (L + 1) cap)) := fun gg cap w4 h1 h2 => by
    obtain ⟨p1, p2, p3⟩ := coll_stepM hM hv1 (by decide) hown1 h1 h2
    refine ⟨⟨hM, gg, cap, ?_, ?_, by simp; omega⟩, hb1.trans p3⟩
    · rw [List.length_append, List.length_singleton, ← hL]; exact p1
    · rw [zVals_snoc, List.length_append, List.length_singleton, ← hL]; exact p2
  have hsz1 : w1.heap.size = w.heap.size + 1 := by rw [hw1]; simp
  have hnew : (w1.alloc (.cells #[.int .i64 0] 3)).heap[w.heap.size + 1]? = some (.cells #[.int .i64 0] 3 (0, 0)) := by rw [← hsz1]; exact World.alloc_heap_new w1 _
  have HNW := Lib.hid hnew
  have hbs : M ≤ (w1.alloc (.cells #[.int .i64 0] 3)).heap.size := by simp; omega
  have HBS := Lib.hid hbs
  clear hnew hsz1 hbs
  have HF := Lib.hid hfin
  have hne := hv1.not_row (by decide) hown1
  have HV1 := Lib.hid hv1
  have HOW := Lib.hid hown1
  have HNE := Lib.hid hne
  clear hL hv hown hb1 hfin hv1 hown1 hne hle
  go_enter Tryd.func87, Tryd.ntmps87
  go_wp2_with (first
    | (at_builtin; (rw [← hw1]; refine wpList_append_lies _ rfl _ _ _ rfl M 3 i0 _ 1 8 Tryd.underlying42 hi hz0 hz1 hz2 rfl (by omega) (.slice (some ⟨g0, 0, none⟩) L cap0) L (zVals Z) rfl (HOW.out.alloc _) ⟨w.heap.size + 1, 0, none⟩ 1 1 [.int .i64 0] rfl rfl (World.news_of_block (cs := #[.int .i64 0]) (t := 3) (fr := (0, 0)) HNW.out) (by simp [Value.oneCell']) (by omega) hin1 hin2 HBS.out _ rfl ?_; intro gg cap w4 hown4 hgrow hat hlt'; have hc4 : w4.cell? ⟨C, 0, none⟩ = some (.slice (some ⟨g0, 0, none⟩) L cap0) := ((HV1.out.alloc _).kept hgrow HNE.out).cell; have hf4 : w4.frozen? ⟨C, 0, none⟩ = false := ((HV1.out.alloc _).kept hgrow HNE.out).frozen; have hfin4 := Lib.hid (HF.out gg cap w4 hown4 hgrow)))
    | fail)
  go_ret
  exact ⟨rfl, hfin4.out⟩

theorem mark_par (M C x m t : Nat) (Z : List Int) (w : World) (h : MarkI M C w Z t) (hx : x ≤ m) (hm : m ≤ t) (ht : t ≤ 1048576) :
    Calls Tryd.prog 88 #[.pointer (some ⟨C, 0, none⟩), .int .i64 x, .int .i64 m, .int .i64 t] w fun e w' => e = .returned (.tuple #[]) ∧ MarkI M C w' (mkP Z x m t) t ∧ Below M w w' := by
  obtain ⟨hM, g, cap, hv, hown, hle⟩ := h
  obtain ⟨L, hL⟩ : ∃ L, L = Z.length := ⟨_, rfl⟩
  rw [← hL] at hv hown hle
  have hne := hv.not_row (by decide) hown
  have hCg : C ≠ g := fun e => hne (by rw [e]; rfl)
  have hgC : g ≠ C := fun e => hCg e.symm
  have hcell := hv.cell
  have hgb : M ≤ g := by have := (hown.lt g rfl).1; exact this
  -- the three stores
  obtain ⟨v1, hv1⟩ : ∃ v1, v1 = IntKind.i64.wrap (z0 Z x + ((t : Int) - m)) := ⟨_, rfl⟩
  obtain ⟨Z1, hZ1⟩ : ∃ Z1, Z1 = Z.set x v1 := ⟨_, rfl⟩
  obtain ⟨v2, hv2⟩ : ∃ v2, v2 = IntKind.i64.wrap (z0 Z1 m - ((t : Int) - x)) := ⟨_, rfl⟩
  obtain ⟨Z2, hZ2⟩ : ∃ Z2, Z2 = Z1.set m v2 := ⟨_, rfl⟩
  obtain ⟨v3, hv3⟩ : ∃ v3, v3 = IntKind.i64.wrap (z0 Z2 t + ((m : Int) - x)) := ⟨_, rfl⟩
  have hZ3 : mkP Z x m t = Z2.set t v3 := by rw [hv3, hZ2, hv2, hZ1, hv1]; rfl
  rw [hZ3]
  have o1 := own_set (j := x) hown (.int .i64 v1)
  rw [zVals_set, ← hZ1] at o1
  have o2 := own_set (j := m) o1 (.int .i64 v2)
  rw [zVals_set, ← hZ2] at o2
  have o3 := own_set (j := t) o2 (.int .i64 v3)
  rw [zVals_set] at o3
  have k1 : (w.setCell ⟨g, x, none⟩ (.int .i64 v1)).heap[C]? = w.heap[C]? := Below.heap_setCell _ _ _ _ hCg
  have k2 : ((w.setCell ⟨g, x, none⟩ (.int .i64 v1)).setCell ⟨g, m, none⟩ (.int .i64 v2)).heap[C]? = w.heap[C]? := (Below.heap_setCell _ _ _ _ hCg).trans k1
  have k3 : (((w.setCell ⟨g, x, none⟩ (.int .i64 v1)).setCell ⟨g, m, none⟩ (.int .i64 v2)).setCell ⟨g, t, none⟩ (.int .i64 v3)).heap[C]? = w.heap[C]? := (Below.heap_setCell _ _ _ _ hCg).trans k2
  have hb3 : Below M w (((w.setCell ⟨g, x, none⟩ (.int .i64 v1)).setCell ⟨g, m, none⟩ (.int .i64 v2)).setCell ⟨g, t, none⟩ (.int .i64 v3)) :=
    (((Below.refl M w).setCell (p := ⟨g, x, none⟩) (by dsimp only; omega) _).setCell (p := ⟨g, m, none⟩) (by dsimp only; omega) _).setCell (p := ⟨g, t, none⟩) (by dsimp only; omega) _
  have hfin : MarkI M C (((w.setCell ⟨g, x, none⟩ (.int .i64 v1)).setCell ⟨g, m, none⟩ (.int .i64 v2)).setCell ⟨g, t, none⟩ (.int .i64 v3)) (Z2.set t v3) t := by
    have hl3 : (Z2.set t v3).length = L := by rw [List.length_set, hZ2, List.length_set, hZ1, List.length_set, hL]
    refine ⟨hM, g, cap, ?_, ?_, by rw [hl3]; omega⟩
    · rw [hl3]; exact k3.trans hv
    · rw [hl3]; exact o3
  have c1 := own_cell1 hown x (by omega)
  have c2 : (w.setCell ⟨g, x, none⟩ (.int .i64 v1)).cell? ⟨g, m, none⟩ = some (.int .i64 (z0 Z1 m)) := own_cell1 o1 m (by omega)
  have c3 : ((w.setCell ⟨g, x, none⟩ (.int .i64 v1)).setCell ⟨g, m, none⟩ (.int .i64 v2)).cell? ⟨g, t, none⟩ = some (.int .i64 (z0 Z2 t)) := own_cell1 o2 t (by omega)
  have hf := own_frozen hown
  have b1 : (w.setCell ⟨g, x, none⟩ (.int .i64 v1)).cell? ⟨C, 0, none⟩ = some (.slice (some ⟨g, 0, none⟩) L cap) := (World.cell?_of_block k1).trans hcell
  have b2 : ((w.setCell ⟨g, x, none⟩ (.int .i64 v1)).setCell ⟨g, m, none⟩ (.int .i64 v2)).cell? ⟨C, 0, none⟩ = some (.slice (some ⟨g, 0, none⟩) L cap) := (World.cell?_of_block k2).trans hcell
  have f1 : ∀ k, (w.setCell ⟨g, x, none⟩ (.int .i64 v1)).frozen? ⟨g, k, none⟩ = false := own_frozen o1
  have f2 : ∀ k, ((w.setCell ⟨g, x, none⟩ (.int .i64 v1)).setCell ⟨g, m, none⟩ (.int .i64 v2)).frozen? ⟨g, k, none⟩ = false := own_frozen o2
  have e1 : IntKind.i64.wrap ((t : Int) - (m : Int)) = (t : Int) - m := by rw [IntKind.wrap_i64]; omega
  have e2 : IntKind.i64.wrap ((m : Int) - (x : Int)) = (m : Int) - x := by rw [IntKind.wrap_i64]; omega
  have e3 : IntKind.i64.wrap (((t : Int) - (m : Int)) + ((m : Int) - (x : Int))) = (t : Int) - x := by rw [IntKind.wrap_i64]; omega
  have n1 : (0 : Int) ≤ (x : Int) := by omega
  have n2 : (x : Int) < (L : Int) := by omega
  have n3 : (m : Int) < (L : Int) := by omega
  have n4 : (t : Int) < (L : Int) := by omega
  have HFIN := Lib.hid hfin
  have HB3 := Lib.hid hb3
  have hv1' := hv1.symm
  have hv2' := hv2.symm
  have hv3' := hv3.symm
  clear hfin hb3 hZ3 hv hown hv1 hv2 hv3 hZ1 hZ2 o1 o2 o3 k1 k2 k3 hL hne hgb
  go_enter Tryd.func88, Tryd.ntmps88
  go_wp2_with fail
  go_end0
  exact ⟨rfl, HFIN.out, HB3.out⟩
end Go.Proofs.YtidgibkiacbgfaaDoor

namespace Go.Proofs.YtidgibkiacbgfaaDoor
open Go.RowKit
set_option maxRecDepth 100000

/-- m elements lie behind the slice x -/
def Lies (w : World) (x : Value) (m : Nat) (news : List Value) : Prop :=
  (x = .slice none 0 0 ∧ m = 0 ∧ news = []) ∨ ∃ ad c, x = .slice (some ad) m c ∧ ∀ j u, news[j]? = some u → w.cell? (ad.add j) = some u

theorem lies_of_own {w : World} {base size m : Nat} {e : TypeId} {x : Value} {news : List Value} (h : w.ownsRow base e size x m news) : Lies w x m news := by
  rcases h.2 with ⟨h1, h2⟩ | ⟨g, cap, cur, h1, _⟩
  · left
    refine ⟨h1, h2, ?_⟩
    have := h.1
    rw [h2, Nat.zero_mul] at this
    exact List.eq_nil_of_length_eq_zero this
  · right
    refine ⟨⟨g, 0, none⟩, cap, h1, fun j u hu => ?_⟩
    subst h1
    have hj : j < news.length := (List.getElem?_eq_some_iff.1 hu).1
    have hadd : (⟨g, 0, none⟩ : Addr).add j = ⟨g, j, none⟩ := by unfold Addr.add; split <;> simp_all
    rw [hadd, h.cellAt j (by rw [← h.1]; exact hj)]
    exact hu

section
variable {P : Program} (w : World)

theorem run_append_rows (t ty : TypeId) (base : Nat) (e : TypeId) (i : TypeInfo) (z : Value) (size bytes : Nat) (ht : P.underlying t = some (.slice e)) (hi : P.info? e = some i) (hz : i.zero = some z)
    (hsize : i.size = size) (hby : i.bytes = bytes) (hzs : z.cells.size = size) (hsz : 0 < size)
    (v : Value) (n : Nat) (xs : List Value) (hown : w.ownsRow base e size v n xs)
    (x : Value) (m : Nat) (news : List Value) (hx : Lies w x m news) (hl : news.length = m * size) (h1 : ∀ u ∈ news, u.oneCell' = true)
    (h63 : n + m ≤ maxLen) (hbytes : (n + m) * bytes ≤ 140737488355328) (hbase : base ≤ w.heap.size) :
    ∃ v' w', (Builtin.append_ #[t, t] ty #[v, x]).run P w = .ok v' w' ∧ w'.ownsRow base e size v' (n + m) (xs ++ news) ∧ w.grownBy w' v.ownBlock ∧ (v'.ownBlock = v.ownBlock ∨ v'.ownBlock = some w.heap.size) := by
  rcases hx with ⟨rfl, rfl, rfl⟩ | ⟨ad, c, rfl, hnews⟩
  · refine ⟨v, w, ?_, by rw [List.append_nil]; exact hown, ⟨rfl, rfl, rfl, Nat.le_refl _, fun _ _ _ => rfl⟩, .inl rfl⟩
    rcases hown.2 with ⟨rfl, rfl⟩ | ⟨g, cap, cur, rfl, _, _, hc, _⟩
    · simp [Builtin.append_, go_sem, run_underlying ht, sizeOf, typeInfo, hi, Builtin.lenOf, Builtin.firstCells]
    · simp [Builtin.append_, go_sem, run_underlying ht, sizeOf, typeInfo, hi, Builtin.lenOf, Builtin.firstCells, hc, storeCells]
  · obtain ⟨v', w', hr, h2, h3, _, h5⟩ := run_append_own_at (P := P) w base t ty e i z size bytes ht hi hz hsize hby hzs hsz v n xs hown ad m c news hl hnews h1 h63 hbytes hbase
    exact ⟨v', w', hr, h2, h3, h5⟩

/-- At a step of a region that draws its order. -/
theorem step_append_rows {ops : Array Oper} {o : Oper} {a : Act} {K : Act → World → Prop} {Q : Exit → Act → World → Prop} {E : Prop} (hgd : o.guard = none) (s y : Operand) (t : TypeId)
    (ho : o.op = .call { callee := .builtin .append, args := #[s, y], argTypes := #[t, t] })
    (base : Nat) (e : TypeId) (i : TypeInfo) (z : Value) (size bytes : Nat) (ht : P.underlying t = some (.slice e)) (hi : P.info? e = some i) (hz : i.zero = some z)
    (hsize : i.size = size) (hby : i.bytes = bytes) (hzs : z.cells.size = size) (hsz : 0 < size)
    (v : Value) (n : Nat) (xs : List Value) (hs : a.eval s = v) (hown : w.ownsRow base e size v n xs)
    (x : Value) (m : Nat) (news : List Value) (hy : a.eval y = x) (hx : Lies w x m news) (hl : news.length = m * size) (h1 : ∀ u ∈ news, u.oneCell' = true)
    (h63 : n + m ≤ maxLen) (hbytes : (n + m) * bytes ≤ 140737488355328) (hbase : base ≤ w.heap.size)
    (h : ∀ v' w', w'.ownsRow base e size v' (n + m) (xs ++ news) → w.grownBy w' v.ownBlock → (∀ M W0, M ≤ base → Below M W0 w → Below M W0 w') → K (a.put o.dst v') w') :
    if Region.wanted o (yielded ops a.tmps) = true then Oper.wp P o a w K Q else E := by
  have hw : Region.wanted o (yielded ops a.tmps) = true := by simp [Region.wanted, hgd]
  rw [if_pos hw]
  obtain ⟨v', w', hr, h2, h3, h5⟩ := run_append_rows (P := P) w t o.type base e i z size bytes ht hi hz hsize hby hzs hsz v n xs hown x m news hx hl h1 h63 hbytes hbase
  unfold Oper.wp execOp
  simp only [ho, resolve, invoke, builtin, Sem.run_bind, Sem.run_pure, Result.andThen_ok, List.map_toArray, List.map_cons, List.map_nil, hs, hy, hr]
  exact h v' w' h2 h3 fun M W0 hM hb => hb.grown h3 (by omega) fun j ej => by have := (hown.lt j ej).1; omega
end

/-- a row of before lies where it lay -/
theorem own_step {w w' : World} {base size m M : Nat} {e : TypeId} {x : Value} {news : List Value} (h : w.ownsRow base e size x m news) (hb : Below M w w') (hM : w.heap.size ≤ M) : w'.ownsRow base e size x m news := by
  refine ⟨h.1, ?_⟩
  rcases h.2 with h0 | ⟨g, cap, cur, h1, h2, h3, h4⟩
  · exact .inl h0
  · refine .inr ⟨g, cap, cur, h1, h2, ?_, h4⟩
    have hlt : g < w.heap.size := (Array.getElem?_eq_some_iff.1 h3).1
    rw [hb.block g (by omega)]
    exact h3
theorem own_more {w : World} {base base' size m : Nat} {e : TypeId} {x : Value} {news : List Value} (h : w.ownsRow base e size x m news) (hb : base' ≤ base) : w.ownsRow base' e size x m news := by
  refine ⟨h.1, ?_⟩
  rcases h.2 with h0 | ⟨g, cap, cur, h1, h2, h3, h4⟩
  · exact .inl h0
  · exact .inr ⟨g, cap, cur, h1, by omega, h3, h4⟩
theorem own_empty (w : World) (base : Nat) (e : TypeId) (size : Nat) (hb : base ≤ w.heap.size) : (w.alloc (.cells #[] e)).ownsRow base e size (.slice (some ⟨w.heap.size, 0, none⟩) 0 0) 0 [] :=
  World.ownsRow_made w #[] 0 hb (by unfold maxLen; omega) (by simp)
end Go.Proofs.YtidgibkiacbgfaaDoor

namespace Go.Proofs.YtidgibkiacbgfaaDoor
open Go.RowKit
set_option maxRecDepth 100000

theorem accs_app (xs ys : List Acc) : accs (xs ++ ys) = accs xs ++ accs ys := by simp [accs]
theorem accs_len (xs : List Acc) : (accs xs).length = xs.length * 3 := by
  induction xs with
  | nil => rfl
  | cons a l ih => simp only [accs, List.flatMap_cons, List.length_append, List.length_cons, List.length_nil] at ih ⊢; omega
theorem accs_one (xs : List Acc) : ∀ u ∈ accs xs, u.oneCell' = true := by
  intro u hu
  simp only [accs, List.mem_flatMap] at hu
  obtain ⟨a, _, ha⟩ := hu
  simp at ha
  rcases ha with rfl | rfl | rfl <;> rfl

/-- the two boxes of a term's kids -/
theorem two_boxes {w : World} {T : TypeId} {a b : Hd} : TB T ((w.alloc (.cells a.cells T)).alloc (.cells b.cells T)) w.heap.size a ∧ TB T ((w.alloc (.cells a.cells T)).alloc (.cells b.cells T)) (w.heap.size + 1) b := by
  refine ⟨(TB.new _ _ _).alloc _, ?_⟩
  have := TB.new (w.alloc (.cells a.cells T)) T b
  rwa [World.size_alloc] at this

/-- a row that is laid whole -/
theorem own_row1 {w : World} {base size n : Nat} {e : TypeId} {cs : Array Value} {B : Nat} (o : Obj) (ho : o = .cells cs e) (hb : base ≤ w.heap.size) (hc : B = w.heap.size ∧ cs.size = n * size ∧ n ≤ maxLen) :
    (w.alloc o).ownsRow base e size (.slice (some ⟨B, 0, none⟩) n n) n cs.toList := by
  obtain ⟨rfl, hc, hm⟩ := hc
  subst ho
  exact ⟨by simpa using hc, .inr ⟨_, _, cs, rfl, hb, World.alloc_heap_new w _, Nat.le_refl _, hm, hc, by rw [List.take_of_length_le (by simp; omega)]⟩⟩

theorem Tryd.infoAccP : ∃ i0, Tryd.prog.info? 23 = some i0 ∧ i0.zero = some (.agg #[.int .i64 0, .bool false, .int .i64 0]) ∧ i0.size = 3 ∧ i0.bytes = 24 := by
  obtain ⟨i0, hi, hii⟩ := Option.map_eq_some_iff.1 Tryd.infoAcc
  simp only [Prod.mk.injEq] at hii
  exact ⟨i0, hi, hii⟩

/-- what is held while the two kids are asked -/
@[reducible] def S3 (w3 : World) (D Ba Bb : Nat) (ha hb : Hd) (W : World) : Prop :=
  Below D w3 W ∧ D ≤ W.heap.size ∧
  W.cell? ⟨Ba, 0, none⟩ = some (.int .i64 ha.k) ∧ W.cell? ⟨Ba, 1, none⟩ = some (.int .i64 ha.c) ∧ W.cell? ⟨Ba, 2, none⟩ = some (.bool ha.x) ∧ W.cell? ⟨Ba, 3, none⟩ = some (.int .i64 ha.l) ∧ W.cell? ⟨Ba, 4, none⟩ = some (.slice ha.A ha.n ha.cap) ∧
  W.cell? ⟨Bb, 0, none⟩ = some (.int .i64 hb.k) ∧ W.cell? ⟨Bb, 1, none⟩ = some (.int .i64 hb.c) ∧ W.cell? ⟨Bb, 2, none⟩ = some (.bool hb.x) ∧ W.cell? ⟨Bb, 3, none⟩ = some (.int .i64 hb.l) ∧ W.cell? ⟨Bb, 4, none⟩ = some (.slice hb.A hb.n hb.cap)
theorem S3.mk {w3 W : World} {D Ba Bb : Nat} {ha hb : Hd} {T : TypeId} (ta : TB T w3 Ba ha) (tb : TB T w3 Bb hb) (hD : D = w3.heap.size) (h : Below D w3 W) : S3 w3 D Ba Bb ha hb W := by
  have la : Ba < D := hD ▸ ta.lt
  have lb : Bb < D := hD ▸ tb.lt
  exact ⟨h, hD ▸ h.size, (h.cell (p := ⟨Ba, 0, none⟩) la).trans ta.c0, (h.cell (p := ⟨Ba, 1, none⟩) la).trans ta.c1, (h.cell (p := ⟨Ba, 2, none⟩) la).trans ta.c2, (h.cell (p := ⟨Ba, 3, none⟩) la).trans ta.c3, (h.cell (p := ⟨Ba, 4, none⟩) la).trans ta.c4,
    (h.cell (p := ⟨Bb, 0, none⟩) lb).trans tb.c0, (h.cell (p := ⟨Bb, 1, none⟩) lb).trans tb.c1, (h.cell (p := ⟨Bb, 2, none⟩) lb).trans tb.c2, (h.cell (p := ⟨Bb, 3, none⟩) lb).trans tb.c3, (h.cell (p := ⟨Bb, 4, none⟩) lb).trans tb.c4⟩

end Go.Proofs.YtidgibkiacbgfaaDoor
