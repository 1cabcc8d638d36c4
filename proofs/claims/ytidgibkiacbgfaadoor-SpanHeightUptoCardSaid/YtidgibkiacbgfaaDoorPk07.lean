/-
  Contract of the reference's DCount.
  A matrix of bools in memory, and what a writer of it lets stand.
  Contract of the reference's dmark: what each term adds to what is within it.
  The reader that counts up to one leaf too many.
-/
import Derived.Test.YtidgibkiacbgfaaDoorPk06
import Derived.Test.YtidgibkiacbgfaaDoorPk02
import Derived.Deep.OwnRows
import Derived.Deep.CutRange
import Derived.Test.YtidgibkiacbgfaaDoorPk01
namespace Go.Proofs.YtidgibkiacbgfaaDoor
open Go.RowKit
set_option maxRecDepth 100000

theorem dc_mul (a b : Nat) : Ending.returned (.int .u64 (IntKind.u64.wrap (((a % 18446744073709551616 : Nat) : Int) * ((b % 18446744073709551616 : Nat) : Int)))) = .returned (.int .u64 ((a * b % 18446744073709551616 : Nat) : Int)) := by
  rw [u64_wrap, hM64, ← Int.natCast_mul, ← Int.natCast_emod, ← Nat.mul_mod]
theorem dc_mul3 (a b c : Nat) : Ending.returned (.int .u64 (IntKind.u64.wrap (IntKind.u64.wrap (((a % 18446744073709551616 : Nat) : Int) * ((b % 18446744073709551616 : Nat) : Int)) * ((c % 18446744073709551616 : Nat) : Int)))) = .returned (.int .u64 ((a * b * c % 18446744073709551616 : Nat) : Int)) := by
  rw [u64_wrap, u64_wrap, hM64, ← Int.natCast_mul, ← Int.natCast_emod, ← Int.natCast_mul, ← Int.natCast_emod, ← Nat.mul_mod, Nat.mul_mod (a % 18446744073709551616 * (b % 18446744073709551616)), ← Nat.mul_mod a b, ← Nat.mul_mod]

end Go.Proofs.YtidgibkiacbgfaaDoor

namespace Go.Proofs.YtidgibkiacbgfaaDoor
open Go.RowKit Go.Deep
set_option maxRecDepth 100000

theorem Tryd.infoRowB : (Tryd.prog.info? 75).map (fun i => (i.zero, i.size, i.bytes)) = some (some (.slice none 0 0), 1, 24) := by kernel_rfl
theorem Tryd.infoBoolB : (Tryd.prog.info? 4).map (fun i => (i.zero, i.size, i.bytes)) = some (some (.bool false), 1, 1) := by kernel_rfl

/-- a matrix of bools: block g holds the rows, row i lies in block g + 1 + i -/
structure SM (T E : TypeId) (w : World) (g m : Nat) (b : Nat → Nat → Bool) : Prop where
  row : w.rowIs g T m (fun i => .slice (some ⟨g + 1 + i, 0, none⟩) m m)
  el : ∀ i, i < m → w.rowIs (g + 1 + i) E m (fun j => .bool (b i j))
theorem SM.alloc {T E : TypeId} {w : World} {g m : Nat} {b : Nat → Nat → Bool} (h : SM T E w g m b) (o : Obj) : SM T E (w.alloc o) g m b := ⟨h.row.alloc o, fun i hi => (h.el i hi).alloc o⟩
theorem SM.drew {T E : TypeId} {w : World} {g m : Nat} {b : Nat → Nat → Bool} (h : SM T E w g m b) : SM T E w.drew g m b := ⟨h.row.drew, fun i hi => (h.el i hi).drew⟩
theorem SM.step {T E : TypeId} {w w' : World} {g m : Nat} {b : Nat → Nat → Bool} (h : SM T E w g m b) (hb : Below w.heap.size w w') : SM T E w' g m b := ⟨h.row.of_block (hb.block _ h.row.lt), fun i hi => (h.el i hi).of_block (hb.block _ (h.el i hi).lt)⟩
theorem SM.congr {T E : TypeId} {w : World} {g m : Nat} {b b' : Nat → Nat → Bool} (h : SM T E w g m b) (hb : ∀ i j, i < m → j < m → b i j = b' i j) : SM T E w g m b' := ⟨h.row, fun i hi => (h.el i hi).congr fun j hj => by rw [hb i j hi hj]⟩
theorem SM.set {T E : TypeId} {w : World} {g m : Nat} {b : Nat → Nat → Bool} (h : SM T E w g m b) (i j : Nat) (v : Bool) : SM T E (w.setCell ⟨g + 1 + i, j, none⟩ (.bool v)) g m (fun x y => if x = i ∧ y = j then v else b x y) := by
  refine ⟨h.row.setOther (by simp; omega) _, fun x hx => ?_⟩
  by_cases e : x = i
  · subst e
    refine ((h.el x hx).set j (.bool v)).congr fun y hy => ?_
    by_cases e2 : y = j <;> simp [e2]
  · refine ((h.el x hx).setOther (by simp; omega) _).congr fun y hy => ?_
    simp [e]
theorem SM.c1 {T E : TypeId} {w : World} {g m : Nat} {b : Nat → Nat → Bool} (h : SM T E w g m b) {i : Nat} (hi : i < m) : w.cell? ⟨g, i, none⟩ = some (.slice (some ⟨g + 1 + i, 0, none⟩) m m) := h.row.cell hi
theorem SM.c2 {T E : TypeId} {w : World} {g m : Nat} {b : Nat → Nat → Bool} (h : SM T E w g m b) {i j : Nat} (hi : i < m) (hj : j < m) : w.cell? ⟨g + 1 + i, j, none⟩ = some (.bool (b i j)) := (h.el i hi).cell hj
theorem SM.f2 {T E : TypeId} {w : World} {g m : Nat} {b : Nat → Nat → Bool} (h : SM T E w g m b) {i : Nat} (hi : i < m) (j : Nat) : w.frozen? ⟨g + 1 + i, j, none⟩ = false := (h.el i hi).frozen j
theorem SM.lt {T E : TypeId} {w : World} {g m : Nat} {b : Nat → Nat → Bool} (h : SM T E w g m b) {i : Nat} (hi : i < m) : g + 1 + i < w.heap.size := (h.el i hi).lt

/-- the rows made so far -/
structure SM0 (T E : TypeId) (w : World) (g m k : Nat) : Prop where
  row : w.rowIs g T m (fun i => if i < k then .slice (some ⟨g + 1 + i, 0, none⟩) m m else .slice none 0 0)
  el : ∀ i, i < k → w.rowIs (g + 1 + i) E m (fun _ => .bool false)
  size : w.heap.size = g + 1 + k
theorem SM0.step {T E : TypeId} {w : World} {g m k : Nat} (h : SM0 T E w g m k) : SM0 T E ((w.setCell ⟨g, k, none⟩ (.slice (some ⟨w.heap.size, 0, none⟩) m m)).alloc (.cells (madeCells #[.bool false] m) E)) g m (k + 1) := by
  have hs := h.size
  refine ⟨((h.row.set k _).alloc _).congr fun i hi => ?_, fun i hi => ?_, by simp; omega⟩
  · by_cases e : i = k
    · subst e; rw [if_pos rfl, if_pos (by omega), hs]
    · rw [if_neg e]
      by_cases e2 : i < k
      · rw [if_pos e2, if_pos (by omega)]
      · rw [if_neg e2, if_neg (by omega)]
  · by_cases e : i = k
    · subst e
      have := World.rowIs_made (w.setCell ⟨g, i, none⟩ (.slice (some ⟨w.heap.size, 0, none⟩) m m)) (.bool false) m E
      rw [World.size_setCell, hs] at this
      rw [hs]
      exact this
    · exact ((h.el i (by omega)).setOther (by simp; omega) _).alloc _


/-- what lies outside the matrix g, n stays -/
structure FrM (g n : Nat) (w w' : World) : Prop where
  low : Below g w w'
  high : ∀ b, g + n < b → b < w.heap.size → w'.heap[b]? = w.heap[b]?
theorem FrM.refl (g n : Nat) (w : World) : FrM g n w w := ⟨Below.refl _ _, fun _ _ _ => rfl⟩
theorem FrM.trans {g n : Nat} {a b c : World} (h : FrM g n a b) (k : FrM g n b c) : FrM g n a c :=
  ⟨h.low.trans k.low, fun q h1 h2 => (k.high q h1 (Nat.lt_of_lt_of_le h2 h.low.size)).trans (h.high q h1 h2)⟩
theorem FrM.below {g n : Nat} {a b c : World} (h : FrM g n a b) (k : Below b.heap.size b c) (hg : g ≤ b.heap.size) : FrM g n a c :=
  h.trans ⟨k.mono hg, fun q _ h2 => k.block q h2⟩
theorem FrM.set {g n i j : Nat} {a b : World} (h : FrM g n a b) (hi : i < n) (v : Value) : FrM g n a (b.setCell ⟨g + 1 + i, j, none⟩ v) :=
  ⟨h.low.setCell (p := ⟨g + 1 + i, j, none⟩) (by dsimp only; omega) v, fun q h1 h2 => (Below.heap_setCell _ _ _ _ (by dsimp only; omega)).trans (h.high q h1 h2)⟩
theorem FrM.tb {g n B : Nat} {a b : World} {T : TypeId} {h : Hd} (f : FrM g n a b) (t : TB T a B h) (hB : g + n < B) : TB T b B h := (f.high B hB t.lt).trans t
end Go.Proofs.YtidgibkiacbgfaaDoor

namespace Go.Proofs.YtidgibkiacbgfaaDoor
open Go.RowKit
set_option maxRecDepth 100000

/-- who is ahead of whom in T, whose leaves are numbered from f -/
def Tm.befF (T : Tm) (f x y : Nat) : Bool := T.bef ((x : Int) - f) ((y : Int) - f)
theorem Tm.befF_seq (L R : Tm) (f x y : Nat) : (Tm.seq L R).befF f x y = (L.befF f x y || R.befF (f + L.sz) x y || (decide (f ≤ x ∧ x < f + L.sz) && decide (f + L.sz ≤ y ∧ y < f + L.sz + R.sz))) := by
  unfold Tm.befF
  simp only [Tm.bef]
  rw [show (x : Int) - ((f + L.sz : Nat) : Int) = (x : Int) - f - L.sz by omega, show (y : Int) - ((f + L.sz : Nat) : Int) = (y : Int) - f - L.sz by omega]
  generalize L.bef ((x : Int) - f) ((y : Int) - f) = p
  generalize R.bef ((x : Int) - f - L.sz) ((y : Int) - f - L.sz) = q
  have e : (decide (0 ≤ (x : Int) - f) && decide ((x : Int) - f < (L.sz : Int)) && decide ((L.sz : Int) ≤ (y : Int) - f) && decide ((y : Int) - f < (L.sz : Int) + R.sz)) = (decide (f ≤ x ∧ x < f + L.sz) && decide (f + L.sz ≤ y ∧ y < f + L.sz + R.sz)) := by
    rw [Bool.eq_iff_iff]
    simp only [Bool.and_eq_true, decide_eq_true_eq]
    omega
  rw [e]
  generalize (decide (f ≤ x ∧ x < f + L.sz) && decide (f + L.sz ≤ y ∧ y < f + L.sz + R.sz)) = z
  cases p <;> cases q <;> cases z <;> rfl
theorem Tm.befF_par (L R : Tm) (f x y : Nat) : (Tm.par L R).befF f x y = (L.befF f x y || R.befF (f + L.sz) x y) := by
  unfold Tm.befF
  simp only [Tm.bef]
  rw [show (x : Int) - ((f + L.sz : Nat) : Int) = (x : Int) - f - L.sz by omega, show (y : Int) - ((f + L.sz : Nat) : Int) = (y : Int) - f - L.sz by omega]

theorem ret_int {a b : Int} (h : a = b) : Ending.returned (.int .i64 a) = .returned (.int .i64 b) := by rw [h]
/-- the walk stands still here -/
def Halted (p : Prop) : Prop := p
theorem Halted.mk {p : Prop} (h : Halted p) : p := h

end Go.Proofs.YtidgibkiacbgfaaDoor

namespace Go.Proofs.YtidgibkiacbgfaaDoor
open Go.RowKit
set_option maxRecDepth 100000

def LimI (C : Nat) (w : World) : Prop := w.heap[C]? = some (.cells #[] 61 (0, 0))
theorem LimI.lt {C : Nat} {w : World} (h : LimI C w) : C < w.heap.size := (Array.getElem?_eq_some_iff.1 h).1
theorem LimI.alloc {C : Nat} {w : World} (h : LimI C w) (o : Obj) : LimI C (w.alloc o) := ((World.grownBy_alloc w o none).block C h.lt (by simp)).trans h

theorem byteOfZ {C : Nat} {w : World} (h : LimI C w) : (byteOf ⟨C, 0, none⟩).run Tryd.prog w = .ok 0 w := by
  have hs : w.shape? C = some (61, 0) := by simp [World.shape?, show w.heap[C]? = _ from h]
  have hc : Tryd.prog.cellsOf 61 = 0 := by kernel_rfl
  simp [byteOf, go_sem, hs, hc, noView, viewAt]

theorem meth_lim {C : Nat} {w : World} {F : FuncId} {nm : String} (h : LimI C w)
    (hi : (Tryd.prog.info? 57).map (fun i => i.methods.find? (fun x => x.name == nm)) = some (some ⟨nm, 92, #[⟨61, 0, true⟩], some (F, false)⟩)) (k : Nat) :
    (method (k + 8) 57 (.pointer (some ⟨C, 0, none⟩)) nm).run Tryd.prog w = .ok (F, .agg #[]) w := by
  obtain ⟨i, hi1, hi2⟩ := Option.map_eq_some_iff.1 hi
  have hb0 := byteOfZ h
  have hu : ∃ fs f, Tryd.prog.underlying 61 = some (.struct fs) ∧ fs[0]? = some f ∧ f.type = 59 ∧ f.offset = 0 ∧ f.byteOffset = 0 := ⟨_, _, Tryd.underlying61, rfl, rfl, rfl, rfl⟩
  obtain ⟨fs, f, hu, hf, h1, h2, h3⟩ := hu
  unfold method
  simp [typeInfo, go_sem, hi1, hi2, follow, fieldPlace, Place.get, asAddr, partAt, hb0, receiverAt, run_underlying hu, hf, h1, h2, h3, loadCellsFrom]

theorem lim_leaf (n : Nat) (a : Acc) (w : World) (hn : n < 1048576) :
    Calls Tryd.prog 77 #[.agg #[], .int .i64 n, accV a] w fun e w' => e = .returned (.bool (decide (n < 200))) ∧ w' = (w.alloc (.cells #[] 61)).alloc (.cells #[.int .i64 a.1, .bool a.2.1, .int .i64 a.2.2] 23) := by
  obtain ⟨c, x, l⟩ := a
  dsimp only [accV]
  by_cases h : n < 200
  · have h1 : (n : Int) < 200 := by omega
    rw [decide_eq_true h]
    go_enter Tryd.func77, Tryd.ntmps77
    go_wp2_with fail
    go_ret
    exact ⟨by simp, rfl⟩
  · have h1 : ¬ (n : Int) < 200 := by omega
    rw [decide_eq_false h]
    go_enter Tryd.func77, Tryd.ntmps77
    go_wp2_with fail
    go_ret
    exact ⟨by simp, rfl⟩

theorem limR (C : Nat) : Rdr (LimI C) (fun w (_ : Unit) _ => LimI C w) C 57 (.pointer (some ⟨C, 0, none⟩)) (fun s n _ => (s, decide (n < 200))) (fun s _ _ _ => s) (fun s _ _ _ => s) where
  drew := fun w s n h => h
  there := fun w s n h => h
  leaf := ⟨77, .agg #[], ⟨fun _ _ => by kernel_rfl, fun _ _ _ => by kernel_rfl, fun _ _ => by kernel_rfl⟩,
    fun w s n a h hn => (lim_leaf n a w hn).mono fun e w' ⟨h1, h2⟩ => ⟨h1, h2 ▸ (h.alloc _).alloc _, h2 ▸ ((Below.refl C w).alloc (Nat.le_of_lt h.lt) _).alloc (by have := h.lt; simp; omega) _⟩⟩
  ser := ⟨79, .agg #[], ⟨fun _ _ => by kernel_rfl, fun k w h => meth_lim h (by kernel_rfl) k, fun _ _ => by kernel_rfl⟩,
    fun w s x m t h _ _ _ => (patient_series x m t w).mono fun e w' ⟨h1, h2⟩ => ⟨h1, h2 ▸ h.alloc _, h2 ▸ (Below.refl C w).alloc (Nat.le_of_lt h.lt) _⟩⟩
  par := ⟨78, .agg #[], ⟨fun _ _ => by kernel_rfl, fun k w h => meth_lim h (by kernel_rfl) k, fun _ _ => by kernel_rfl⟩,
    fun w s x m t h _ _ _ => (patient_parallel x m t w).mono fun e w' ⟨h1, h2⟩ => ⟨h1, h2 ▸ h.alloc _, h2 ▸ (Below.refl C w).alloc (Nat.le_of_lt h.lt) _⟩⟩

theorem told_lim (T : Tm) : ∀ n, n ≤ 200 → (n + T.sz ≤ 200 → T.told (fun (s : Unit) n _ => (s, decide (n < 200))) (fun s _ _ _ => s) (fun s _ _ _ => s) () n = ((), n + T.sz, true)) ∧
    (200 < n + T.sz → T.told (fun (s : Unit) n _ => (s, decide (n < 200))) (fun s _ _ _ => s) (fun s _ _ _ => s) () n = ((), 201, false)) := by
  induction T with
  | nil => intro n hn; exact ⟨fun _ => rfl, fun h => by simp only [Tm.sz] at h; omega⟩
  | one a =>
    intro n hn
    refine ⟨fun h => ?_, fun h => ?_⟩
    · simp only [Tm.sz] at h
      simp only [Tm.told, Tm.sz]
      rw [decide_eq_true (show n < 200 by omega)]
    · simp only [Tm.sz] at h
      simp only [Tm.told]
      rw [decide_eq_false (show ¬ n < 200 by omega), show n = 200 by omega]
  | seq l r il ir =>
    intro n hn
    obtain ⟨p1, p2⟩ := il n hn
    refine ⟨fun h => ?_, fun h => ?_⟩
    · simp only [Tm.sz] at h
      have q := (ir (n + l.sz) (by omega)).1 (by omega)
      simp only [Tm.told, p1 (by omega), both2, q, Tm.sz]
      rw [Nat.add_assoc]
    · simp only [Tm.sz] at h
      by_cases h2 : n + l.sz ≤ 200
      · have q := (ir (n + l.sz) h2).2 (by omega)
        simp only [Tm.told, p1 h2, both2, q]
      · simp only [Tm.told, p2 (by omega), both2]
  | par l r il ir =>
    intro n hn
    obtain ⟨p1, p2⟩ := il n hn
    refine ⟨fun h => ?_, fun h => ?_⟩
    · simp only [Tm.sz] at h
      have q := (ir (n + l.sz) (by omega)).1 (by omega)
      simp only [Tm.told, p1 (by omega), both2, q, Tm.sz]
      rw [Nat.add_assoc]
    · simp only [Tm.sz] at h
      by_cases h2 : n + l.sz ≤ 200
      · have q := (ir (n + l.sz) h2).2 (by omega)
        simp only [Tm.told, p1 h2, both2, q]
      · simp only [Tm.told, p2 (by omega), both2]
end Go.Proofs.YtidgibkiacbgfaaDoor
