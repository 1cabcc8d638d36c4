/-
  The reader that counts up to one leaf too many.
-/
import Derived.Test.YtafdpimkfkddaaaDoorSpL
import Derived.Test.YtafdpimkfkddaaaDoorSpA
namespace Go.Proofs.YtafdpimkfkddaaaDoor
open Go.RowKit
set_option maxRecDepth 100000

def LimI (C : Nat) (w : World) : Prop := w.heap[C]? = some (.cells #[] 50 (0, 0))
theorem LimI.lt {C : Nat} {w : World} (h : LimI C w) : C < w.heap.size := (Array.getElem?_eq_some_iff.1 h).1
theorem LimI.alloc {C : Nat} {w : World} (h : LimI C w) (o : Obj) : LimI C (w.alloc o) := ((World.grownBy_alloc w o none).block C h.lt (by simp)).trans h

theorem byteOfZ {C : Nat} {w : World} (h : LimI C w) : (byteOf ⟨C, 0, none⟩).run Tryd.prog w = .ok 0 w := by
  have hs : w.shape? C = some (50, 0) := by simp [World.shape?, show w.heap[C]? = _ from h]
  have hc : Tryd.prog.cellsOf 50 = 0 := by kernel_rfl
  simp [byteOf, go_sem, hs, hc, noView, viewAt]

theorem meth_lim {C : Nat} {w : World} {F : FuncId} {nm : String} (h : LimI C w)
    (hi : (Tryd.prog.info? 46).map (fun i => i.methods.find? (fun x => x.name == nm)) = some (some ⟨nm, 83, #[⟨50, 0, true⟩], some (F, false)⟩)) (k : Nat) :
    (method (k + 8) 46 (.pointer (some ⟨C, 0, none⟩)) nm).run Tryd.prog w = .ok (F, .agg #[]) w := by
  obtain ⟨i, hi1, hi2⟩ := Option.map_eq_some_iff.1 hi
  have hb0 := byteOfZ h
  have hu : ∃ fs f, Tryd.prog.underlying 50 = some (.struct fs) ∧ fs[0]? = some f ∧ f.type = 48 ∧ f.offset = 0 ∧ f.byteOffset = 0 := ⟨_, _, Tryd.underlying50, rfl, rfl, rfl, rfl⟩
  obtain ⟨fs, f, hu, hf, h1, h2, h3⟩ := hu
  unfold method
  simp [typeInfo, go_sem, hi1, hi2, follow, fieldPlace, Place.get, asAddr, partAt, hb0, receiverAt, run_underlying hu, hf, h1, h2, h3, loadCellsFrom]

theorem lim_leaf (n : Nat) (a : Acc) (w : World) (hn : n < 1048576) :
    Calls Tryd.prog 71 #[.agg #[], .int .i64 n, accV a] w fun e w' => e = .returned (.bool (decide (n < 200))) ∧ w' = (w.alloc (.cells #[] 50)).alloc (.cells #[.int .i64 a.1, .bool a.2.1, .int .i64 a.2.2] 23) := by
  obtain ⟨c, x, l⟩ := a
  dsimp only [accV]
  by_cases h : n < 200
  · have h1 : (n : Int) < 200 := by omega
    rw [decide_eq_true h]
    go_enter Tryd.func71, Tryd.ntmps71
    go_wp2_with fail
    go_ret
    exact ⟨by simp, rfl⟩
  · have h1 : ¬ (n : Int) < 200 := by omega
    rw [decide_eq_false h]
    go_enter Tryd.func71, Tryd.ntmps71
    go_wp2_with fail
    go_ret
    exact ⟨by simp, rfl⟩

theorem limR (C : Nat) : Rdr (LimI C) (fun w (_ : Unit) _ => LimI C w) C 46 (.pointer (some ⟨C, 0, none⟩)) (fun s n _ => (s, decide (n < 200))) (fun s _ _ _ => s) (fun s _ _ _ => s) where
  drew := fun w s n h => h
  there := fun w s n h => h
  leaf := ⟨71, .agg #[], ⟨fun _ _ => by kernel_rfl, fun _ _ _ => by kernel_rfl, fun _ _ => by kernel_rfl⟩,
    fun w s n a h hn => (lim_leaf n a w hn).mono fun e w' ⟨h1, h2⟩ => ⟨h1, h2 ▸ (h.alloc _).alloc _, h2 ▸ ((Below.refl C w).alloc (Nat.le_of_lt h.lt) _).alloc (by have := h.lt; simp; omega) _⟩⟩
  ser := ⟨73, .agg #[], ⟨fun _ _ => by kernel_rfl, fun k w h => meth_lim h (by kernel_rfl) k, fun _ _ => by kernel_rfl⟩,
    fun w s x m t h _ _ _ => (patient_series x m t w).mono fun e w' ⟨h1, h2⟩ => ⟨h1, h2 ▸ h.alloc _, h2 ▸ (Below.refl C w).alloc (Nat.le_of_lt h.lt) _⟩⟩
  par := ⟨72, .agg #[], ⟨fun _ _ => by kernel_rfl, fun k w h => meth_lim h (by kernel_rfl) k, fun _ _ => by kernel_rfl⟩,
    fun w s x m t h _ _ _ => (patient_parallel x m t w).mono fun e w' ⟨h1, h2⟩ => ⟨h1, h2 ▸ h.alloc _, h2 ▸ (Below.refl C w).alloc (Nat.le_of_lt h.lt) _⟩⟩

theorem told_lim (T : Tm) : ∀ n, n ≤ 200 → (n + T.sz ≤ 200 → T.told (fun (s : Unit) n _ => (s, decide (n < 200))) (fun s _ _ _ => s) (fun s _ _ _ => s) () n = ((), n + T.sz, true)) ∧
    (200 < n + T.sz → T.told (fun (s : Unit) n _ => (s, decide (n < 200))) (fun s _ _ _ => s) (fun s _ _ _ => s) () n = ((), 201, false)) := by
  induction T with
  | nil => intro n hn; exact ⟨fun _ => rfl, fun h => by simp only [Tm.sz] at h; omega⟩
  | one a =>
    intro n hn
    refine ⟨fun h => ?_, fun h => ?_⟩
    · simp only [Tm.sz] at h
      simp only [Tm.told, Tm.sz]
      rw [decide_eq_true (show n < 200 by omega)]
    · simp only [Tm.sz] at h
      simp only [Tm.told]
      rw [decide_eq_false (show ¬ n < 200 by omega), show n = 200 by omega]
  | seq l r il ir =>
    intro n hn
    obtain ⟨p1, p2⟩ := il n hn
    refine ⟨fun h => ?_, fun h => ?_⟩
    · simp only [Tm.sz] at h
      have q := (ir (n + l.sz) (by omega)).1 (by omega)
      simp only [Tm.told, p1 (by omega), both2, q, Tm.sz]
      rw [Nat.add_assoc]
    · simp only [Tm.sz] at h
      by_cases h2 : n + l.sz ≤ 200
      · have q := (ir (n + l.sz) h2).2 (by omega)
        simp only [Tm.told, p1 h2, both2, q]
      · simp only [Tm.told, p2 (by omega), both2]
  | par l r il ir =>
    intro n hn
    obtain ⟨p1, p2⟩ := il n hn
    refine ⟨fun h => ?_, fun h => ?_⟩
    · simp only [Tm.sz] at h
      have q := (ir (n + l.sz) (by omega)).1 (by omega)
      simp only [Tm.told, p1 (by omega), both2, q, Tm.sz]
      rw [Nat.add_assoc]
    · simp only [Tm.sz] at h
      by_cases h2 : n + l.sz ≤ 200
      · have q := (ir (n + l.sz) h2).2 (by omega)
        simp only [Tm.told, p1 h2, both2, q]
      · simp only [Tm.told, p2 (by omega), both2]
end Go.Proofs.YtafdpimkfkddaaaDoor
