/-
  Contract of sp.Leaves.
-/
import Derived.Test.YtafdpimkfkddaaaDoorSpMt
import Derived.Deep.AppendLies
import Derived.Deep.RegionLaw
namespace Go.Proofs.YtafdpimkfkddaaaDoor
open Go.RowKit
set_option maxRecDepth 100000

/-- the cells of a list of accesses -/
def accs (xs : List Acc) : List Value := xs.flatMap fun a => [.int .i64 a.1, .bool a.2.1, .int .i64 a.2.2]
theorem accs_snoc (xs : List Acc) (a : Acc) : accs (xs ++ [a]) = accs xs ++ [.int .i64 a.1, .bool a.2.1, .int .i64 a.2.2] := by simp [accs]

theorem patient_series (x m t : Int) (w : World) :
    Calls Tryd.prog 73 #[.agg #[], .int .i64 x, .int .i64 m, .int .i64 t] w fun e w' => e = .returned (.tuple #[]) ∧ w' = w.alloc (.cells #[] 48) := by
  go_enter Tryd.func73, Tryd.ntmps73
  go_wp2_with fail
  go_end0
  exact ⟨rfl, rfl⟩
theorem patient_parallel (x m t : Int) (w : World) :
    Calls Tryd.prog 72 #[.agg #[], .int .i64 x, .int .i64 m, .int .i64 t] w fun e w' => e = .returned (.tuple #[]) ∧ w' = w.alloc (.cells #[] 48) := by
  go_enter Tryd.func72, Tryd.ntmps72
  go_wp2_with fail
  go_end0
  exact ⟨rfl, rfl⟩

theorem Tryd.infoAcc : (Tryd.prog.info? 23).map (fun i => (i.zero, i.size, i.bytes)) = some (some (.agg #[.int .i64 0, .bool false, .int .i64 0]), 3, 24) := by kernel_rfl

/-- the collector's state -/
def CollI (C : Nat) (w : World) (xs : List Acc) (n : Nat) : Prop :=
  ∃ v, Boxed w C 71 v ∧ w.ownsRow (C + 1) 23 3 v xs.length (accs xs) ∧ xs.length ≤ n

/-- one is appended to the row that lies in the box -/
theorem coll_step {C size k m : Nat} {T E : TypeId} {xs ys : List Value} {W w1 : World} {v v' : Value} {tmp : Obj} (hv : Boxed W C T v) (hTE : T ≠ E) (hrow : W.ownsRow (C + 1) E size v k xs)
    (hown' : w1.ownsRow (C + 1) E size v' m ys) (hgrow : (W.alloc tmp).drew.grownBy w1 v.ownBlock) :
    Boxed (w1.setCell ⟨C, 0, none⟩ v') C T v' ∧ (w1.setCell ⟨C, 0, none⟩ v').ownsRow (C + 1) E size v' m ys ∧ Below C W (w1.setCell ⟨C, 0, none⟩ v') := by
  have hv0 : Boxed (W.alloc tmp).drew C T v := hv.alloc tmp
  have hv1 : Boxed w1 C T v := hv0.kept hgrow (hv.not_row hTE hrow)
  refine ⟨hv1.set v', hown'.kept (grownBy_setCell' w1 C v') (.inr (hv1.not_row hTE hown').symm), ?_⟩
  have hlt := hv.lt
  exact ((((Below.refl C W).alloc (by omega) tmp).drew).grown hgrow (by simp; omega) fun j ej => by have := (hrow.lt j ej).1; omega).setCell (p := ⟨C, 0, none⟩) (Nat.le_refl _) v'

theorem coll_leaf (C n : Nat) (a : Acc) (xs : List Acc) (w : World) (h : CollI C w xs n) (hn : n < 1048576) :
    Calls Tryd.prog 78 #[.pointer (some ⟨C, 0, none⟩), .int .i64 n, accV a] w fun e w' => e = .returned (.bool true) ∧ CollI C w' (xs ++ [a]) (n + 1) ∧ Below C w w' := by
  obtain ⟨v, hv, hown, hle⟩ := h
  obtain ⟨c, x, l⟩ := a
  dsimp only [accV]
  obtain ⟨i0, hi, hii⟩ := Option.map_eq_some_iff.1 Tryd.infoAcc
  simp only [Prod.mk.injEq] at hii
  obtain ⟨hz0, hz1, hz2⟩ := hii
  go_enter Tryd.func78, Tryd.ntmps78
  go_wp2_with fail
  have hv1 := hv.alloc (.cells #[.int .i64 c, .bool x, .int .i64 l] 23)
  have hown1 := hown.alloc (.cells #[.int .i64 c, .bool x, .int .i64 l] 23)
  have hA := World.alloc_heap_new w (.cells #[.int .i64 c, .bool x, .int .i64 l] 23)
  have hb1 : Below C w (w.alloc (.cells #[.int .i64 c, .bool x, .int .i64 l] 23)) := (Below.refl C w).alloc (Nat.le_of_lt hv.lt) _
  obtain ⟨w1, hw1⟩ : ∃ w1, w1 = w.alloc (.cells #[.int .i64 c, .bool x, .int .i64 l] 23) := ⟨_, rfl⟩
  obtain ⟨B, hB⟩ : ∃ B, B = w.heap.size := ⟨_, rfl⟩
  rw [← hw1] at hv1 hown1 hA hb1 ⊢
  rw [← hB] at hA ⊢
  have a0 : w1.cell? ⟨B, 0, none⟩ = some (.int .i64 c) := by simp [World.cell?, hA]
  have a1 : w1.cell? ⟨B, 1, none⟩ = some (.bool x) := by simp [World.cell?, hA]
  have a2 : w1.cell? ⟨B, 2, none⟩ = some (.int .i64 l) := by simp [World.cell?, hA]
  have hc1 := hv1.cell
  have hlt := hv1.lt
  obtain ⟨L, hL⟩ : ∃ L, L = xs.length := ⟨_, rfl⟩
  rw [← hL] at hown1 hle
  have hin1 : L + 1 ≤ maxLen := by unfold maxLen; omega
  have hin2 : (L + 1) * 24 ≤ 140737488355328 := by omega
  have hfin : ∀ gg cap w4, w4.ownsRow (C + 1) 23 3 (.slice (some ⟨gg, 0, none⟩) (L + 1) cap) (L + 1) (accs xs ++ [.int .i64 c, .bool x, .int .i64 l]) →
      (w1.alloc (.cells #[.int .i64 c, .bool x, .int .i64 l] 23)).drew.grownBy w4 v.ownBlock →
      CollI C (w4.setCell ⟨C, 0, none⟩ (.slice (some ⟨gg, 0, none⟩) (L + 1) cap)) (xs ++ [(c, x, l)]) (n + 1) ∧ Below C w (w4.setCell ⟨C, 0, none⟩ (.slice (some ⟨gg, 0, none⟩) (L + 1) cap)) := fun gg cap w4 h1 h2 => by
    obtain ⟨p1, p2, p3⟩ := coll_step hv1 (by decide) hown1 h1 h2
    refine ⟨⟨_, p1, ?_, by simp; omega⟩, hb1.trans p3⟩
    rw [accs_snoc, List.length_append, List.length_singleton, ← hL]
    exact p2
  have HF := Lib.hid hfin
  have hne := hv1.not_row (by decide) hown1
  have hff := hv1.frozen
  clear hw1 hB hL hv hown hb1 hA hfin
  go_region_law
    ((refine step_append_lies _ (by rfl) _ _ _ (by rfl) (C + 1) 23 i0 _ 3 24 Tryd.underlying38 hi hz0 hz1 hz2 rfl (by omega) v L (accs xs) (by rfl) ((hown1.alloc _).drew)
        ⟨w1.heap.size, 0, none⟩ 1 1 [.int .i64 c, .bool x, .int .i64 l] (by rfl) (by rfl) (World.news_of_block (cs := #[.int .i64 c, .bool x, .int .i64 l]) (t := 23) (fr := (0, 0)) (World.alloc_heap_new w1 _)) (by simp [Value.oneCell'])
        (by omega) hin1 hin2 (by simp; omega) (w1.heap.size + 1) (by simp) ?_; intro gg cap w4 hown4 hgrow hat hlt'; have hc4 : w4.cell? ⟨C, 0, none⟩ = some v := (((show Boxed (w1.alloc (.cells #[.int .i64 c, .bool x, .int .i64 l] 23)).drew C 71 v from hv1.alloc _)).kept hgrow hne).cell; have hf4 : w4.frozen? ⟨C, 0, none⟩ = false := (((show Boxed (w1.alloc (.cells #[.int .i64 c, .bool x, .int .i64 l] 23)).drew C 71 v from hv1.alloc _)).kept hgrow hne).frozen; have hfin4 := Lib.hid (HF.out gg cap w4 hown4 hgrow)))
  all_goals
    go_wp2_with fail
    go_ret
    exact ⟨rfl, hfin4.out⟩
end Go.Proofs.YtafdpimkfkddaaaDoor
