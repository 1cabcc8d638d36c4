/-
  strings.Builder as the program uses it: WriteByte and WriteString at a builder of the call's own, walked at this program (the library's laws of them ask for a copyCheck that this translation leaves out in part).
-/
import Derived.Test.YtfekcbkafiiieaaDoorLxI
import Derived.Shelf.Strings.BuilderK
namespace Go.Proofs.YtfekcbkafiiieaaDoor
open Go.RowKit
set_option maxRecDepth 100000

/-- a builder of the call's own: block b, holding the bytes l; no block but b and rows of bytes turns -/
abbrev Bld (B b : Nat) (l : List UInt8) (W : World) : Prop := Lib.IsBuilderF 43 5 B b (Lib.byteCells l) W
abbrev Oth (b : Nat) (W W' : World) : Prop := Lib.OthersKept 5 (some b) W W'

theorem shapeF {w : World} {B n : Nat} {e : TypeId} {v : Value} {xs : List Value} (h : w.ownsRowF B e 1 v n xs) (hn : 0 < n) : ∃ g cap, v = .slice (some ⟨g, 0, none⟩) n cap := by
  rcases h.2 with ⟨_, h0⟩ | ⟨g, cap, cur, fz, hv, _⟩
  · omega
  · exact ⟨g, cap, hv⟩
theorem stayF {w w2 : World} {b : Nat} {o x : Obj} {row : Option Nat} (hb : w.heap[b]? = some o) (hne : row ≠ some b) (hg : (w.alloc x).grownBy w2 row) : w2.heap[b]? = some o := by
  have hlt : b < w.heap.size := (Array.getElem?_eq_some_iff.1 hb).1
  rw [hg.block b (by simp; omega) (Ne.symm hne), Lib.alloc_old w _ b hlt]
  exact hb
theorem shapeA {w : World} {B n : Nat} {e : TypeId} {v : Value} {xs : List Value} (h : w.ownsRowF B e 1 v n xs) : ∃ A cap, v = .slice A n cap := by
  rcases h.2 with ⟨hv, h0⟩ | ⟨g, cap, cur, fz, hv, _⟩
  · exact ⟨none, 0, by rw [hv, h0]⟩
  · exact ⟨_, cap, hv⟩
theorem stayG {w w2 : World} {b : Nat} {o : Obj} {row : Option Nat} (hb : w.heap[b]? = some o) (hne : row ≠ some b) (hg : w.grownBy w2 row) : w2.heap[b]? = some o := by
  have hlt : b < w.heap.size := (Array.getElem?_eq_some_iff.1 hb).1
  rw [hg.block b hlt (Ne.symm hne)]
  exact hb
theorem cell1_of {w : World} {b : Nat} {p v : Value} {T : TypeId} {fr : Nat × Nat} (hb : w.heap[b]? = some (.cells #[p, v] T fr)) : w.cell? ⟨b, 1, none⟩ = some v := by rw [Lib.cell_of_heap hb]; rfl

set_option maxHeartbeats 1000000 in
theorem check_any (B b : Nat) (bs : List Value) (w : World) (h : Lib.IsBuilderF 43 5 B b bs w) :
    Calls Tryd.prog 30 #[.pointer (some ⟨b, 0, none⟩)] w fun e w' => e = .returned (.tuple #[]) ∧ Lib.BuilderAtF 43 5 B b (.pointer (some ⟨b, 0, none⟩)) bs w' ∧ Below B w w' ∧ Oth b w w' := by
  obtain ⟨j, hj, hjs⟩ := Option.map_eq_some_iff.1 (show (Tryd.prog.info? 43).map (·.size) = some 2 by kernel_rfl)
  have hl2 : liesAt Tryd.prog Tryd.prog.depth 43 (2 / Tryd.prog.cellsOf 43) 0 43 1 = true := by kernel_rfl
  rcases h with h | h
  · have P := Lib.hid (h.used (.pointer (some ⟨b, 0, none⟩)))
    have HB := Lib.hid h.1
    have c0 := h.cell0
    have f0 := h.frozen0
    have hsh := h.shape
    clear h
    go_enter Tryd.func30, Tryd.ntmps30
    go_wp2_with fail
    rw [Lib.run_to_unsafe w ⟨b, 0, none⟩ Tryd.underlying41 Tryd.underlying61 hj (by rw [hjs]; decide) hsh (show (0 : Nat) < 2 by decide)]
    simp only [Result.andThen]
    rw [Oper.upon_value]
    go_wp2_with fail
    rw [run_callFunc_extern Tryd.func38 (by kernel_rfl) (by kernel_rfl) (by kernel_rfl) (e := Extern.AbiNoEscape.same) (by kernel_rfl), Lib.run_noEscape]
    simp only [Result.andThen]
    rw [Oper.upon_value]
    go_wp2_with fail
    rw [Lib.run_from_unsafe w ⟨b, 0, none⟩ Tryd.underlying61 Tryd.underlying41 hj hsh hl2]
    simp only [Result.andThen]
    rw [Oper.upon_value]
    go_wp2_with fail
    go_end0
    exact ⟨rfl, P.out, (Below.refl B w).setCell (p := ⟨b, 0, none⟩) HB.out _, (Lib.OthersKept.refl _ _ w).setCell ⟨b, 0, none⟩ rfl _⟩
  · have P := Lib.hid h
    have c0 := h.cell0
    clear h
    go_enter Tryd.func30, Tryd.ntmps30
    go_wp2_with fail
    rw [Lib.run_neq_ptr_same w _ Tryd.underlying41 hj]
    go_wp2_with fail
    go_end0
    exact ⟨rfl, P.out, Below.refl B _, Lib.OthersKept.refl _ _ _⟩

set_option maxHeartbeats 2000000 in
theorem wbyte_any (B b : Nat) (l : List UInt8) (c : UInt8) (w : World) (h : Bld B b l w) (hlen : l.length + 1 ≤ 140737488355328) (hBw : B ≤ w.heap.size) :
    Calls Tryd.prog 20 #[.pointer (some ⟨b, 0, none⟩), .int .u8 (c.toNat : Int)] w fun e w' => e = .returned .nilIface ∧ Bld B b (l ++ [c]) w' ∧ Below B w w' ∧ Oth b w w' := by
  obtain ⟨i0, hi, hz0, hz1, hz2⟩ := info_parts (show (Tryd.prog.info? 5).map (fun i => (i.zero, i.size, i.bytes)) = some (some (.int .u8 0), 1, 1) by kernel_rfl)
  have A0 := Lib.hid (check_any B b (Lib.byteCells l) w h)
  have hbl : (Lib.byteCells l).length = l.length := by simp [Lib.byteCells]
  go_enter Tryd.func20, Tryd.ntmps20
  go_wp2_with fail
  refine A0.out.mono ?_
  rintro e w1 ⟨rfl, h1, hb1, hk1⟩
  have hB1 : B ≤ w1.heap.size := Nat.le_trans hBw hb1.size
  obtain ⟨hBb, v, hbk, hown, hne⟩ := h1
  rw [hbl] at hown
  have c1 : w1.cell? ⟨b, 1, none⟩ = some v := by rw [Lib.cell_of_heap hbk]; rfl
  have hn1 : w1.heap[w1.heap.size]? = none := by simp
  have hal := hown.alloc (.cells #[.int .u8 (c.toNat : Int)] 5)
  have hnew := World.alloc_heap_new w1 (.cells #[.int .u8 (c.toNat : Int)] 5)
  have HBK := Lib.hid hbk
  have HNE := Lib.hid hne
  have HB1 := Lib.hid hb1
  have HK1 := Lib.hid hk1
  have HBL := Lib.hid hbl
  have HH := Lib.hid h
  clear hb1 hk1 hbk hne hn1 h hbl
  go_wp2_with (at_builtin; refine wpList_append_ownF _ rfl _ _ 33 rfl B 5 i0 (.int .u8 0) 1 1 Tryd.underlying33 hi hz0 hz1 hz2 rfl (by decide) _ _ _ rfl hal ⟨w1.heap.size, 0, none⟩ 1 1 [.int .u8 (c.toNat : Int)] rfl rfl (World.news_of_block (cs := #[.int .u8 (c.toNat : Int)]) (t := 5) (fr := (0, 0)) hnew) (by simp [Value.oneCell']) (by unfold maxLen; omega) (by omega) (by simp; omega) ?_; intro v' w2 hown2 hgrow2 _; obtain ⟨g, cap, hv⟩ := shapeF hown2 (Nat.succ_pos _); subst hv; have hb2 := stayF HBK.out HNE.out hgrow2; have d1 : w2.cell? ⟨b, 1, none⟩ = some v := cell1_of hb2; have f1 : w2.frozen? ⟨b, 1, none⟩ = false := Lib.frozen_of_heap hb2 1)
  have hbe : Lib.byteCells (l ++ [c]) = Lib.byteCells l ++ [.int .u8 (c.toNat : Int)] := by simp [Lib.byteCells]
  have P : Hid (Bld B b (l ++ [c]) (w2.setCell ⟨b, 1, none⟩ (.slice (some ⟨g, 0, none⟩) (l.length + 1) cap))) := Lib.hid (.inr (Lib.BuilderAtF.put hBb hb2 (bs' := Lib.byteCells (l ++ [c])) (by rw [hbe]; simpa [HBL.out] using hown2) (by decide)))
  have HF : Hid (Below B w (w2.setCell ⟨b, 1, none⟩ (.slice (some ⟨g, 0, none⟩) (l.length + 1) cap))) := Lib.hid (((HB1.out.alloc (by omega) _).grown hgrow2 (by simp; omega) (fun k hk => (hal.lt k hk).1)).setCell (p := ⟨b, 1, none⟩) hBb _)
  have HO : Hid (Oth b w (w2.setCell ⟨b, 1, none⟩ (.slice (some ⟨g, 0, none⟩) (l.length + 1) cap))) := Lib.hid (((HK1.out.alloc _).grown hgrow2 (Lib.ownsRowF_kind hal)).setCell ⟨b, 1, none⟩ rfl _)
  clear hgrow2 hown2 hb2 d1 f1 hal hnew
  go_wp2_with fail
  go_ret
  exact ⟨rfl, P.out, HF.out, HO.out⟩

set_option maxHeartbeats 2000000 in
theorem wstr_any (B b : Nat) (l : List UInt8) (s : ByteArray) (w : World) (h : Bld B b l w) (hlen : l.length + s.size ≤ 140737488355328) (hBw : B ≤ w.heap.size) :
    Calls Tryd.prog 21 #[.pointer (some ⟨b, 0, none⟩), .string s] w fun e w' => e = .returned (.tuple #[.int .i64 (s.size : Int), .nilIface]) ∧ Bld B b (l ++ s.data.toList) w' ∧ Below B w w' ∧ Oth b w w' := by
  obtain ⟨i0, hi, hz0, hz1, hz2⟩ := info_parts (show (Tryd.prog.info? 5).map (fun i => (i.zero, i.size, i.bytes)) = some (some (.int .u8 0), 1, 1) by kernel_rfl)
  have A0 := Lib.hid (check_any B b (Lib.byteCells l) w h)
  have hbl : (Lib.byteCells l).length = l.length := by simp [Lib.byteCells]
  go_enter Tryd.func21, Tryd.ntmps21
  go_wp2_with fail
  refine A0.out.mono ?_
  rintro e w1 ⟨rfl, h1, hb1, hk1⟩
  have hB1 : B ≤ w1.heap.size := Nat.le_trans hBw hb1.size
  obtain ⟨hBb, v, hbk, hown, hne⟩ := h1
  rw [hbl] at hown
  have c1 : w1.cell? ⟨b, 1, none⟩ = some v := by rw [Lib.cell_of_heap hbk]; rfl
  have HBK := Lib.hid hbk
  have HNE := Lib.hid hne
  have HB1 := Lib.hid hb1
  have HK1 := Lib.hid hk1
  have HBL := Lib.hid hbl
  have HH := Lib.hid h
  clear hb1 hk1 hbk hne h hbl
  go_wp2_with (at_builtin; go_loud (refine Lib.wpList_append_own_stringF w1 rfl _ _ 33 9 rfl B 5 i0 Tryd.underlying33 Tryd.underlying9 hi hz0 hz1 hz2 v l.length (Lib.byteCells l) rfl hown s rfl (by unfold maxLen; omega) hlen hB1 ?_; intro v' w2 hown2 hgrow2 _; obtain ⟨A, cap, hv⟩ := shapeA hown2; subst hv; have hb2 := stayG HBK.out HNE.out hgrow2; have d1 : w2.cell? ⟨b, 1, none⟩ = some v := cell1_of hb2; have f1 : w2.frozen? ⟨b, 1, none⟩ = false := Lib.frozen_of_heap hb2 1))
  have hbe : Lib.byteCells (l ++ s.data.toList) = Lib.byteCells l ++ Lib.strCells s := by simp [Lib.byteCells, Lib.strCells]
  have hbl2 : (Lib.byteCells (l ++ s.data.toList)).length = l.length + s.size := by rw [hbe, List.length_append, HBL.out, Lib.strCells_length]
  have P : Hid (Bld B b (l ++ s.data.toList) (w2.setCell ⟨b, 1, none⟩ (.slice A (l.length + s.size) cap))) := Lib.hid (.inr (Lib.BuilderAtF.put hBb hb2 (bs' := Lib.byteCells (l ++ s.data.toList)) (by rw [hbl2, hbe]; exact hown2) (by decide)))
  have HF : Hid (Below B w (w2.setCell ⟨b, 1, none⟩ (.slice A (l.length + s.size) cap))) := Lib.hid ((HB1.out.grown hgrow2 hB1 (fun k hk => (hown.lt k hk).1)).setCell (p := ⟨b, 1, none⟩) hBb _)
  have HO : Hid (Oth b w (w2.setCell ⟨b, 1, none⟩ (.slice A (l.length + s.size) cap))) := Lib.hid ((HK1.out.grown hgrow2 (Lib.ownsRowF_kind hown)).setCell ⟨b, 1, none⟩ rfl _)
  clear hgrow2 hown2 hb2 d1 f1 hown
  go_wp2_with fail
  go_ret2
  exact ⟨rfl, P.out, HF.out, HO.out⟩
end Go.Proofs.YtfekcbkafiiieaaDoor
