/-
  slices.Sort and slices.Compact at a slice of ints that the call owns: the library's contracts in the words of a row. No condition but the length.
-/
import Derived.Test.YtaboafkpmgadmaaDoorBsShelf
import Derived.Test.YtaboafkpmgadmaaDoorBsPut
import Derived.Sort.OwnSortedInts
namespace Go.Proofs.YtaboafkpmgadmaaDoor
open Go.RowKit Go.Sort

/-- sorted -/
def srt (zs : List Int) : List Int := zs.mergeSort fun x y => decide (x ≤ y)
theorem srt_len (zs : List Int) : (srt zs).length = zs.length := List.length_mergeSort _
theorem grow_none (w : World) : grow w #[] = w := by simp [grow]

theorem sortI_any (v : Value) (zs : List Int) (base : Nat) (w : World) (h : w.ownsRow base 3 1 v zs.length (iVals zs)) (hb : base ≤ w.heap.size) (hl : zs.length ≤ 4294967296) :
    Calls Tryd.prog 22 #[v] w fun e w' => (∃ r, e = .returned r) ∧ w'.ownsRow base 3 1 v (srt zs).length (iVals (srt zs)) ∧ Below base w w' := by
  rcases Nat.eq_zero_or_pos zs.length with h0 | hp
  · obtain rfl : zs = [] := List.length_eq_zero_iff.1 h0
    obtain ⟨A, c, rfl⟩ := own_any h
    refine (Tryd.slices_Sort_int_none A c w).mono ?_
    rintro e w' ⟨rfl, rfl⟩
    exact ⟨⟨_, rfl⟩, by simpa [srt] using h, Below.refl _ _⟩
  · have h' := h
    rcases h'.2 with ⟨rfl, h0⟩ | ⟨g, cap, cur, rfl, hg, hcur, h1, h2, h3, h4⟩
    · omega
    · have ht : cur.toList.take zs.length = zs.map (Value.int .i64) := by simpa [iVals] using h4
      have hglt : g < w.heap.size := (Array.getElem?_eq_some_iff.1 hcur).1
      refine (Tryd.slices_Sort_int g 0 cap zs w (holds_of_blockI hcur ht) hglt (by omega)).mono ?_
      rintro e w' ⟨rfl, n, os, rfl⟩
      have hown := ownsRow_sortedI (w := w) (base := base) (n := n) (os := os) (ss := zs) (ts := srt zs) (srt_len zs) hg hcur h1 h2 h3
      refine ⟨⟨_, rfl⟩, ?_, (Below.refl base w).grown (grownBy_sortedI (srt zs).toArray) hb (fun k e => by cases e; exact hg)⟩
      rw [srt_len]
      exact hown

/-- without repetitions -/
def cpt (zs : List Int) : List Int := Lib.compact zs
theorem cpt_len (zs : List Int) : (cpt zs).length ≤ zs.length := by
  unfold cpt Lib.compact Lib.compactUpTo
  rw [List.length_map]
  exact Nat.le_trans (List.length_filter_le _ _) (by simp)

theorem compact_any (v : Value) (zs : List Int) (base : Nat) (w : World) (h : w.ownsRow base 3 1 v zs.length (iVals zs)) (hb : base ≤ w.heap.size) (hl : zs.length ≤ 4294967296) :
    Calls Tryd.prog 86 #[v] w fun e w' => ∃ v', e = .returned v' ∧ w'.ownsRow base 3 1 v' (cpt zs).length (iVals (cpt zs)) ∧ Below base w w' := by
  rcases Nat.eq_zero_or_pos zs.length with h0 | hp
  · obtain rfl : zs = [] := List.length_eq_zero_iff.1 h0
    obtain ⟨A, c, rfl⟩ := own_any h
    refine (Tryd.slices_Compact_int_empty A c w).mono ?_
    rintro e w' ⟨rfl, rfl⟩
    exact ⟨_, rfl, by simpa [cpt, Lib.compact, Lib.compactUpTo] using h, Below.refl _ _⟩
  · have h' := h
    rcases h'.2 with ⟨rfl, h0⟩ | ⟨g, cap, cur, rfl, hg, hcur, h1, h2, h3, h4⟩
    · omega
    · have ht : cur.toList.take zs.length = zs.map (Value.int .i64) := by simpa [iVals] using h4
      have hcl := cpt_len zs
      refine (Tryd.slices_Compact_int g 0 cap zs w (holds_of_blockI hcur ht) (by omega) h1).mono ?_
      rintro e w' ⟨rfl, q, rfl⟩
      have hfull : (cpt zs ++ List.replicate (zs.length - (cpt zs).length) 0).length = zs.length := by simp; omega
      have e0 := grow_none (putRow (Value.int .i64) (Sort.ahead w q) g 0 (Lib.compact zs ++ List.replicate (zs.length - (Lib.compact zs).length) 0).toArray)
      have hheap := heap_sortedI (w := w) (n := q) (os := #[]) (cpt zs ++ List.replicate (zs.length - (cpt zs).length) 0).toArray hcur
      have hgr := grownBy_sortedI (w := w) (g := g) (n := q) (os := #[]) (cpt zs ++ List.replicate (zs.length - (cpt zs).length) 0).toArray
      have htk := take_putCellsI cur (cpt zs ++ List.replicate (zs.length - (cpt zs).length) 0) (by rw [hfull]; omega)
      rw [hfull] at htk
      unfold cpt at hheap hgr
      rw [e0] at hheap hgr
      refine ⟨_, rfl, ⟨by rw [iVals_len, Nat.mul_one], .inr ⟨g, cap, _, rfl, hg, hheap, by unfold cpt; unfold cpt at hcl; omega, h2, by simp [putCells, h3], ?_⟩⟩, (Below.refl base w).grown hgr hb (fun k e => by cases e; exact hg)⟩
      have ht2 := congrArg (List.take (cpt zs).length) htk
      rw [List.take_take, Nat.min_eq_left hcl, List.map_append, List.take_left' (by simp)] at ht2
      rw [Nat.mul_one]
      exact ht2
end Go.Proofs.YtaboafkpmgadmaaDoor
