/-
  slices.Clone, Delete and BinarySearch at the sorted list of greedy: the shelf's contracts laid at this translation, in plain words (out of lay-plain.mjs).
  greedy's sorted list: one number put in its place.
  greedy's sorted list: the first ones are taken.
  greedy: a round is executed: in memory.
-/
import Derived.Shelf.SlGeneric
import Derived.Ground.SlgnProg
import Derived.Shelf.SlicesG.Clone
import Derived.Shelf.SlicesG.Cells
import Derived.Shelf.SlicesG.SearchI
import Derived.Test.YtipihchlhkjdjaaDoorProg
import Derived.Test.YtipihchlhkjdjaaDoorPk11
import Derived.Lib.MinMax
import Derived.Test.YtipihchlhkjdjaaDoorPk02
namespace Go.Proofs
open Go.Shelf
def Tryd.laysClone_ren : Go.Shelf.Ren := ⟨fun | 41 => 45 | n => n, fun | 22 => 56 | 23 => 3 | 4 => 4 | n => n, fun | n => n⟩
theorem Tryd.laysClone : Go.Proofs.SlLaysN.n41 Tryd.prog Tryd.laysClone_ren := {
  mixed := by kernel_rfl
  f41 := ⟨Tryd.f45.name, by decide, Tryd.func45.trans (congrArg some (by kernel_rfl))⟩
  t4 := Tryd.underlying4
  a4 := Tryd.isAgg4
  z4 := Tryd.sizeOf4
  v4 := Tryd.zeroValue4
  t22 := Tryd.underlying56
  a22 := Tryd.isAgg56
  z22 := Tryd.sizeOf56
  v22 := Tryd.zeroValue56
  t23 := Tryd.underlying3
  a23 := Tryd.isAgg3
  z23 := Tryd.sizeOf3
  v23 := Tryd.zeroValue3
  i23 := by kernel_rfl }
def Tryd.laysDelete_ren : Go.Shelf.Ren := ⟨fun | 45 => 46 | n => n, fun | 22 => 56 | 23 => 3 | 3 => 3 | 4 => 4 | 0 => 0 | n => n, fun | n => n⟩
theorem Tryd.laysDelete : Go.Proofs.SlLaysN.n45 Tryd.prog Tryd.laysDelete_ren := {
  mixed := by kernel_rfl
  f45 := ⟨Tryd.f46.name, by decide, Tryd.func46.trans (congrArg some (by kernel_rfl))⟩
  t0 := Tryd.underlying0
  a0 := Tryd.isAgg0
  z0 := Tryd.sizeOf0
  v0 := Tryd.zeroValue0
  t3 := Tryd.underlying3
  a3 := Tryd.isAgg3
  z3 := Tryd.sizeOf3
  v3 := Tryd.zeroValue3
  t4 := Tryd.underlying4
  a4 := Tryd.isAgg4
  z4 := Tryd.sizeOf4
  v4 := Tryd.zeroValue4
  t22 := Tryd.underlying56
  a22 := Tryd.isAgg56
  z22 := Tryd.sizeOf56
  v22 := Tryd.zeroValue56
  t23 := Tryd.underlying3
  a23 := Tryd.isAgg3
  z23 := Tryd.sizeOf3
  v23 := Tryd.zeroValue3
  i23 := by kernel_rfl }
def Tryd.laysSearch_ren : Go.Shelf.Ren := ⟨fun | 49 => 60 | 59 => 70 | 60 => 71 | 68 => 82 | n => n, fun | 22 => 56 | 23 => 3 | 3 => 3 | 4 => 4 | 51 => 129 | 0 => 0 | n => n, fun | n => n⟩
theorem Tryd.laysSearch : Go.Proofs.SlLaysN.n49 Tryd.prog Tryd.laysSearch_ren := {
  mixed := by kernel_rfl
  f49 := ⟨Tryd.f60.name, by decide, Tryd.func60.trans (congrArg some (by kernel_rfl))⟩
  f59 := ⟨Tryd.f70.name, by decide, Tryd.func70.trans (congrArg some (by kernel_rfl))⟩
  f60 := ⟨Tryd.f71.name, by decide, Tryd.func71.trans (congrArg some (by kernel_rfl))⟩
  f68 := ⟨Tryd.f82.name, by decide, Tryd.func82.trans (congrArg some (by kernel_rfl))⟩
  t0 := Tryd.underlying0
  a0 := Tryd.isAgg0
  z0 := Tryd.sizeOf0
  v0 := Tryd.zeroValue0
  t3 := Tryd.underlying3
  a3 := Tryd.isAgg3
  z3 := Tryd.sizeOf3
  v3 := Tryd.zeroValue3
  t4 := Tryd.underlying4
  a4 := Tryd.isAgg4
  z4 := Tryd.sizeOf4
  v4 := Tryd.zeroValue4
  t22 := Tryd.underlying56
  a22 := Tryd.isAgg56
  z22 := Tryd.sizeOf56
  v22 := Tryd.zeroValue56
  t23 := Tryd.underlying3
  a23 := Tryd.isAgg3
  z23 := Tryd.sizeOf3
  v23 := Tryd.zeroValue3
  t51 := Tryd.underlying129
  a51 := Tryd.isAgg129
  z51 := Tryd.sizeOf129
  v51 := Tryd.zeroValue129 }
end Go.Proofs

namespace Go.Proofs.YtipihchlhkjdjaaDoor
open Go.RowKit Go.Lib Go.Shelf
set_option maxRecDepth 100000

set_option maxHeartbeats 2000000 in
theorem search_nil (x : Int) (w : World) :
    Calls Tryd.prog 60 #[.slice none 0 0, .int .i64 x] w fun e w' => e = .returned (.tuple #[.int .i64 0, .bool false]) ∧ w' = w := by
  have mixed : Tryd.prog.follows .mixedOrders = true := by kernel_rfl
  go_enter Tryd.func60, Tryd.ntmps60
  go_wp2_with fail
  go_loopg [7, 8] 0 (fun _ s7 s8 wr => s7 = .int .i64 0 ∧ s8 = .int .i64 0 ∧ wr = w)
  case atStart => exact ⟨rfl, rfl, rfl⟩
  case round =>
    obtain ⟨rfl, rfl, rfl⟩ := hrel
    go_wp2_with fail
    go_ret2
    exact ⟨rfl, rfl⟩
theorem search_any (v : Value) (zs : List Int) (x : Int) (base : Nat) (w : World) (hown : w.ownsRow base 3 1 v zs.length (iVals zs)) (hs : zs.Pairwise (· ≤ ·)) (hl : zs.length ≤ 1000000) :
    Calls Tryd.prog 60 #[v, .int .i64 x] w fun e w' => e = .returned (.tuple #[.int .i64 ((zs.countP (· < x) : Nat) : Int), .bool (zs.contains x)]) ∧ ∃ q, w' = w.drewN q := by
  rcases Nat.eq_zero_or_pos zs.length with h0 | hp
  · obtain rfl : zs = [] := List.length_eq_zero_iff.1 h0
    rcases hown.2 with ⟨rfl, _⟩ | ⟨g, cap, cur, rfl, _⟩
    · refine (search_nil x w).mono ?_
      rintro e w' ⟨rfl, rfl⟩
      exact ⟨rfl, 0, rfl⟩
    · have h := AnyG.slices_BinarySearch_int Tryd.laysSearch g 0 0 cap [] x w (by simp) (by decide) (fun j hj => by simp at hj) (by simp)
      exact h
  · obtain ⟨g, cap, f, rfl, _, hnc, hcm, hr, hx⟩ := row_of_own hown hp
    have h := AnyG.slices_BinarySearch_int Tryd.laysSearch g 0 zs.length cap zs x w (Nat.le_refl _) (by omega) (fun j hj => by
      rw [Nat.zero_add, hr.cell (by omega)]
      rw [← hx j hj, iVals_at zs j hj]
      rfl) (by rw [List.take_length]; exact hs)
    rw [List.take_length] at h
    exact h

theorem own_keep {w w' : World} {base n : Nat} {e : TypeId} {size : Nat} {v : Value} {xs : List Value} {p : Nat → Prop} (h : w.ownsRow base e size v n xs) (hk : Keeps p w w') (hp : ∀ k, v.ownBlock = some k → p k) : w'.ownsRow base e size v n xs := by
  refine ⟨h.1, ?_⟩
  rcases h.2 with hn | ⟨g, cap, cur, rfl, hb, hg, rest⟩
  · exact .inl hn
  · refine .inr ⟨g, cap, cur, rfl, hb, ?_, rest⟩
    rw [hk.block g (Array.getElem?_eq_some_iff.1 hg).1 (hp g rfl)]
    exact hg
theorem rowIs_keep {w w' : World} {g t m : Nat} {f : Nat → Value} {p : Nat → Prop} (h : w.rowIs g t m f) (hk : Keeps p w w') (hp : p g) : w'.rowIs g t m f := h.of_block (hk.block g h.lt hp)

/-- the box whose first cell holds a sorted list -/
structure SBox (w : World) (base B : Nat) (v : Value) (zs : List Int) : Prop where
  cell : w.cell? ⟨B, 0, none⟩ = some v
  loose : w.frozen? ⟨B, 0, none⟩ = false
  own : w.ownsRow base 3 1 v zs.length (iVals zs)
  ne : v.ownBlock ≠ some B
theorem SBox.blt {w : World} {base B : Nat} {v : Value} {zs : List Int} (h : SBox w base B v zs) : B < w.heap.size := World.block_lt_of_cell? w _ h.cell
theorem SBox.vlt {w : World} {base B : Nat} {v : Value} {zs : List Int} (h : SBox w base B v zs) : ∀ k, v.ownBlock = some k → k < w.heap.size := fun k hk => (h.own.lt k hk).2
theorem SBox.keep {w w' : World} {base B : Nat} {v : Value} {zs : List Int} {p : Nat → Prop} (h : SBox w base B v zs) (hk : Keeps p w w') (hB : p B) (hv : ∀ k, v.ownBlock = some k → p k) : SBox w' base B v zs :=
  ⟨(World.cell?_of_block (a := ⟨B, 0, none⟩) (hk.block B h.blt hB)).trans h.cell, (World.frozen?_of_block (a := ⟨B, 0, none⟩) (hk.block B h.blt hB)).trans h.loose, own_keep h.own hk hv, h.ne⟩
/-- the list is turned: the box and the list's own block alone -/
structure STurn (w w' : World) (B : Nat) (v v' : Value) : Prop where
  keep : Keeps (fun k => k ≠ B ∧ v.ownBlock ≠ some k) w w'
  rest : ∀ o, o ≠ 0 → w'.cell? ⟨B, o, none⟩ = w.cell? ⟨B, o, none⟩
  loose : ∀ o, w'.frozen? ⟨B, o, none⟩ = w.frozen? ⟨B, o, none⟩
  at_ : ∀ k, v'.ownBlock = some k → v.ownBlock = some k ∨ w.heap.size ≤ k

set_option maxHeartbeats 2000000 in
theorem add_any (B base : Nat) (v : Value) (zs : List Int) (x : Int) (w : World) (h : SBox w base B v zs) (hs : zs.Pairwise (· ≤ ·)) (hl : zs.length ≤ 1000000) (hb : base ≤ w.heap.size) :
    Calls Tryd.prog 44 #[.pointer (some ⟨B, 0, none⟩), .int .i64 x] w fun e w' => e = .returned (.tuple #[]) ∧ ∃ v', SBox w' base B v' (insI x zs) ∧ STurn w w' B v v' := by
  have hcell := h.cell
  have hsz := h.blt
  have H := Lib.hid h
  have HS := Lib.hid (search_any v zs x base w h.own hs hl)
  clear h hs
  go_enter Tryd.func44, Tryd.ntmps44
  go_wp2_with (go_at_call 60; refine HS.out.mono ?_; rintro e w1 ⟨rfl, q, rfl⟩)
  have hcell' : (w.drewN q).cell? ⟨B, 0, none⟩ = some v := hcell
  go_wp2_with fail
  have hgA : w.grownBy ((w.drewN q).alloc (.cells #[.int .i64 x] 3)) none := grown_trans (grown_drewN w q _) (World.grownBy_alloc _ _ _)
  have hcnt : zs.countP (fun y => decide (y < x)) ≤ zs.length := List.countP_le_length
  refine (insert_any v zs _ x w.heap.size base _ (H.out.own.kept hgA (by cases v.ownBlock <;> simp)) hcnt hl (by exact heap_alloc_new (w.drewN q) _) (fun e => by have := H.out.vlt _ e; omega) (Nat.le_trans hb hgA.size)).mono ?_
  rintro e w2 ⟨v', rfl, h2, hg, hat⟩
  obtain ⟨A', c', rfl⟩ := own_any h2
  have hB2 : w2.heap[B]? = w.heap[B]? := (hg.block B (by have := hgA.size; omega) (fun e => H.out.ne e.symm)).trans (hgA.block B hsz (by simp))
  have hc2 : w2.cell? ⟨B, 0, none⟩ = some v := (World.cell?_of_block (a := ⟨B, 0, none⟩) hB2).trans hcell
  have hf2 : w2.frozen? ⟨B, 0, none⟩ = false := (World.frozen?_of_block (a := ⟨B, 0, none⟩) hB2).trans H.out.loose
  have hat2 : ∀ k, (Value.slice A' (zs.length + 1) c').ownBlock = some k → v.ownBlock = some k ∨ w.heap.size ≤ k := fun k hk => by
    rcases hat with e | e
    · exact .inl (by rw [← e]; exact hk)
    · rw [hk] at e
      injection e with e
      have := hgA.size
      exact .inr (by omega)
  have hne2 : (Value.slice A' (zs.length + 1) c').ownBlock ≠ some B := fun e => by
    rcases hat2 B e with h3 | h3
    · exact H.out.ne h3
    · omega
  have hfin : Hid (SBox (w2.setCell ⟨B, 0, none⟩ (.slice A' (zs.length + 1) c')) base B (.slice A' (zs.length + 1) c') (insI x zs) ∧ STurn w (w2.setCell ⟨B, 0, none⟩ (.slice A' (zs.length + 1) c')) B v (.slice A' (zs.length + 1) c')) := by
    refine Lib.hid ⟨⟨World.cell?_setCell_same _ _ _ hc2, ?_, ?_, hne2⟩, ⟨?_, fun o ho => ?_, fun o => ?_, hat2⟩⟩
    · rw [World.frozen?_setCell]; exact hf2
    · rw [insI_len]
      exact h2.kept (grown_setCells B [.slice A' (zs.length + 1) c'] 0 w2) (.inr hne2)
    · refine Keeps.setCell (q := ⟨B, 0, none⟩) (Keeps.grown (Keeps.of_below (n := w.heap.size) ⟨hgA.os, hgA.tape, hgA.output, hgA.size, fun k hk => hgA.block k hk (by simp)⟩ (fun k hk _ => hk)) hg (fun r hr _ hp => hp.2 hr)) (fun _ hp => hp.1 rfl) _
    · refine (World.cell?_setCell_other _ _ _ _ (fun e => ?_)).trans (World.cell?_of_block (a := ⟨B, o, none⟩) hB2)
      injection e with _ e
      exact ho e.symm
    · rw [World.frozen?_setCell]
      exact World.frozen?_of_block (a := ⟨B, o, none⟩) hB2
  clear hgA hcnt h2 hg hat hB2 hat2 hne2 hcell hcell'
  go_wp2_with fail

  refine bodyPost_end (results_none rfl _ _ _) rfl ?_
  exact ⟨rfl, _, hfin.out.1, hfin.out.2⟩
end Go.Proofs.YtipihchlhkjdjaaDoor

namespace Go.Proofs.YtipihchlhkjdjaaDoor
open Go.RowKit Go.Lib Go.Shelf
set_option maxRecDepth 100000

set_option maxHeartbeats 4000000 in
theorem take_any (B base : Nat) (v : Value) (zs : List Int) (k : Nat) (w : World) (h : SBox w base B v zs) (hp : 0 < zs.length) (hk : 1 ≤ k) (hk' : k ≤ 1000000) (hl : zs.length ≤ 1000000) :
    Calls Tryd.prog 25 #[.pointer (some ⟨B, 0, none⟩), .int .i64 (k : Int)] w fun e w' => ∃ v2, e = .returned v2 ∧ w'.ownsRow w.heap.size 3 1 v2 (zs.take k).length (iVals (zs.take k)) ∧ ∃ v', SBox w' base B v' (zs.drop k) ∧ STurn w w' B v v' ∧ v'.ownBlock = v.ownBlock := by
  obtain ⟨g, cap, f, rfl, hbg, hnc, hcm, hr, hx⟩ := row_of_own h.own hp
  have hBg : B ≠ g := fun e => h.ne (by rw [e]; rfl)
  have hgl := hr.lt
  have hBl := h.blt
  obtain ⟨n, hn⟩ : ∃ n, n = min k zs.length := ⟨_, rfl⟩
  obtain ⟨l, hl0⟩ : ∃ l, l = zs.length := ⟨_, rfl⟩
  have hmin : (min (k : Int) (l : Int)) = (n : Int) := by omega
  have ht : zs.take k = zs.take n := by
    rw [hn]
    by_cases e : k ≤ zs.length
    · rw [Nat.min_eq_left e]
    · rw [Nat.min_eq_right (by omega), List.take_length, List.take_of_length_le (by omega)]
  have hd : zs.drop k = zs.drop n := by
    rw [hn]
    by_cases e : k ≤ zs.length
    · rw [Nat.min_eq_left e]
    · rw [Nat.min_eq_right (by omega), List.drop_length, List.drop_eq_nil_of_le (by omega)]
  have hcz : ∀ j, j < zs.length → w.cell? ⟨g, 0 + j, none⟩ = some (.int .i64 (zs.getD j 0)) := fun j hj => by
    rw [Nat.zero_add, hr.cell (by omega), ← hx j hj, iVals_at zs j hj]
    rfl
  have hC := Lib.hid (AnyG.slices_Clone_int Tryd.laysClone g 0 n cap zs w (by omega) (by omega) hcz)
  have hcell := h.cell
  have hnl : n ≤ l := by omega
  have hn1 : 1 ≤ n := by omega
  have hcm2 : cap ≤ 9223372036854775807 := by unfold maxLen at hcm; omega
  have hlc : l ≤ cap := by omega
  have hl6 : l ≤ 1000000 := by omega
  rw [ht, hd]
  rw [← hl0] at hcell
  have HM := Lib.hid h
  have HR := Lib.hid hr
  have HX := Lib.hid hx
  have HZ := Lib.hid hcz
  have HL := Lib.hid hl0
  rw [show zs.length = l from hl0.symm]
  have hmin2 : (0 : Int) ≤ (n : Int) := by omega
  have hnl2 : (n : Int) ≤ (l : Int) := by omega
  clear h hr hx hcz ht hd hn hl hl0 hp hnc
  go_enter Tryd.func25, Tryd.ntmps25
  go_wp2_with fail
  refine hC.out.mono ?_
  rintro e w1 ⟨v2, rfl, h2, _, hb1⟩
  obtain ⟨A2, c2, rfl⟩ := own_any h2
  have hr1 := rowIs_step HR.out hb1
  have hs1 := hb1.size
  have hcell1 : w1.cell? ⟨B, 0, none⟩ = some (.slice (some ⟨g, 0, none⟩) l cap) := (hb1.cell (p := ⟨B, 0, none⟩) hBl).trans hcell
  have hloose1 : w1.frozen? ⟨B, 0, none⟩ = false := (hb1.frozen (p := ⟨B, 0, none⟩) hBl).trans HM.out.loose
  have hD0 := AnyG.slices_Delete_int_cells Tryd.laysDelete g 0 l cap 0 n zs w1 (Nat.le_of_eq HL.out) hlc hcm2 (Nat.zero_le _) hnl (fun j hj => (hb1.cell (p := ⟨g, 0 + j, none⟩) hgl).trans (HZ.out j hj)) (fun j _ => hr1.frozen _)
  have hD : Calls Tryd.prog 46 #[.slice (some ⟨g, 0, none⟩) l cap, .int .i64 0, .int .i64 (n : Int)] w1 fun e w' => e = .returned (.slice (some ⟨g, 0, none⟩) (l - n) cap) ∧ ∃ q, w' = (w1.drewN q).setCells g 0 (iVals (zs.drop n ++ List.replicate n 0)) := by
    refine Calls.mono (show Calls Tryd.prog 46 #[.slice (some ⟨g, 0, none⟩) l cap, .int .i64 0, .int .i64 (n : Int)] w1 _ from hD0) ?_
    rintro e w' ⟨rfl, q, rfl⟩
    refine ⟨by rw [Nat.sub_zero], q, ?_⟩
    rw [HL.out, List.take_length, List.take_zero, List.nil_append, Nat.sub_zero]
    rfl
  have HD := Lib.hid hD
  have H2 := Lib.hid h2
  have HB1 := Lib.hid hb1
  have HR1 := Lib.hid hr1
  clear hD hD0 h2 hb1 hr1 hcell hC
  go_wp2_with fail
  refine HD.out.mono ?_
  rintro e w2 ⟨rfl, q, rfl⟩
  have hr2 := rowIs_cells (iVals (zs.drop n ++ List.replicate n 0)) 0 (w1.drewN q) f HR1.out
  have hdl : (zs.drop n).length = l - n := by rw [List.length_drop, ← HL.out]
  have hg2 : w1.grownBy ((w1.drewN q).setCells g 0 (iVals (zs.drop n ++ List.replicate n 0))) (some g) := grown_trans (grown_drewN w1 q _) (grown_setCells g _ _ _)
  obtain ⟨w2, hw2⟩ : ∃ w2, w2 = (w1.drewN q).setCells g 0 (iVals (zs.drop n ++ List.replicate n 0)) := ⟨_, rfl⟩
  rw [← hw2] at hr2 hg2 ⊢
  have hB2 : w2.heap[B]? = w1.heap[B]? := hg2.block B (by omega) (by simpa using hBg)
  have hcell2 : w2.cell? ⟨B, 0, none⟩ = some (.slice (some ⟨g, 0, none⟩) l cap) := (World.cell?_of_block (a := ⟨B, 0, none⟩) hB2).trans hcell1
  have hloose2 : w2.frozen? ⟨B, 0, none⟩ = false := (World.frozen?_of_block (a := ⟨B, 0, none⟩) hB2).trans hloose1
  have hfin : Hid ((w2.setCell ⟨B, 0, none⟩ (.slice (some ⟨g, 0, none⟩) (l - n) cap)).ownsRow w.heap.size 3 1 (.slice A2 n c2) (zs.take n).length (iVals (zs.take n)) ∧ SBox (w2.setCell ⟨B, 0, none⟩ (.slice (some ⟨g, 0, none⟩) (l - n) cap)) base B (.slice (some ⟨g, 0, none⟩) (l - n) cap) (zs.drop n) ∧ STurn w (w2.setCell ⟨B, 0, none⟩ (.slice (some ⟨g, 0, none⟩) (l - n) cap)) B (.slice (some ⟨g, 0, none⟩) l cap) (.slice (some ⟨g, 0, none⟩) (l - n) cap)) := by
    have htl : (zs.take n).length = n := by rw [List.length_take, ← HL.out]; omega
    have hown2 : w2.ownsRow w.heap.size 3 1 (.slice A2 n c2) n (iVals (zs.take n)) := H2.out.kept hg2 (by
      cases h3 : (Value.slice A2 n c2).ownBlock with
      | none => exact .inl rfl
      | some b => exact .inr (by have := (H2.out.lt b h3).1; simp; omega))
    refine Lib.hid ⟨?_, ⟨World.cell?_setCell_same _ _ _ hcell2, by rw [World.frozen?_setCell]; exact hloose2, ?_, fun e => hBg (by injection e with e; exact e.symm)⟩, ⟨?_, fun o ho => ?_, fun o => ?_, fun b hb => .inl hb⟩⟩
    · rw [htl]
      exact hown2.kept (grown_setCells B [_] 0 w2) (by
        cases h3 : (Value.slice A2 n c2).ownBlock with
        | none => exact .inl rfl
        | some b => exact .inr (by have := (H2.out.lt b h3).1; simp; omega))
    · rw [hdl]
      have hr3 := hr2.setOther (a := ⟨B, 0, none⟩) (fun e => hBg e.symm) (.slice (some ⟨g, 0, none⟩) (l - n) cap)
      refine own_row_of hr3 hbg (by omega) hcm (by rw [iVals_len, hdl]) (fun j hj => ?_)
      have e1 : (iVals (zs.drop n ++ List.replicate n 0)).length = l := by rw [iVals_len, List.length_append, hdl, List.length_replicate]; omega
      have e2 : iVals (zs.drop n ++ List.replicate n 0) = iVals (zs.drop n) ++ iVals (List.replicate n 0) := by unfold iVals; rw [List.map_append]
      have e3 : (iVals (zs.drop n)).length = l - n := by rw [iVals_len, hdl]
      simp only [e1]
      rw [if_pos (by omega), Nat.sub_zero, e2, List.getElem?_append_left (by omega), List.getElem?_eq_getElem (by omega)]
      rfl
    · refine Keeps.setCell (q := ⟨B, 0, none⟩) (Keeps.grown (Keeps.of_below HB1.out (fun k hk _ => hk)) hg2 (fun r hr _ hp => hp.2 hr)) (fun _ hp => hp.1 rfl) _
    · refine (World.cell?_setCell_other _ _ _ _ (fun e => ?_)).trans ((World.cell?_of_block (a := ⟨B, o, none⟩) hB2).trans (HB1.out.cell (p := ⟨B, o, none⟩) hBl))
      injection e with _ e
      exact ho e.symm
    · rw [World.frozen?_setCell]
      exact (World.frozen?_of_block (a := ⟨B, o, none⟩) hB2).trans (HB1.out.frozen (p := ⟨B, o, none⟩) hBl)
  clear hr2 hg2 hB2 hcell1 hloose1 hw2 hdl
  go_wp2_with fail
  go_ret
  exact ⟨_, rfl, hfin.out.1, _, hfin.out.2.1, hfin.out.2.2, rfl⟩
end Go.Proofs.YtipihchlhkjdjaaDoor

namespace Go.Proofs.YtipihchlhkjdjaaDoor
open Go.RowKit
set_option maxRecDepth 100000

/-- a slice of ints whose block p names -/
structure RdJ (w : World) (p : Nat → Prop) (A : Option Addr) (zs : List Int) : Prop where
  lo : ∀ k, -9223372036854775808 ≤ zd zs k
  hi : ∀ k, zd zs k ≤ 9223372036854775807
  room : zs.length ≤ 1152921504606846976
  rd : 0 < zs.length → ∃ b off, A = some ⟨b, off, none⟩ ∧ p b ∧ b < w.heap.size ∧ ∀ k, k < zs.length → w.cell? ⟨b, off + k, none⟩ = some (.int .i64 (zd zs k))
theorem RdJ.toI {w : World} {p : Nat → Prop} {A : Option Addr} {zs : List Int} (h : RdJ w p A zs) : RdI w w.heap.size A zs := ⟨h.lo, h.hi, h.room, fun hn => by
  obtain ⟨b, off, hA, _, hb, hc⟩ := h.rd hn
  exact ⟨b, off, hA, hb, hc⟩⟩
theorem RdJ.keep {w w' : World} {p q r : Nat → Prop} {A : Option Addr} {zs : List Int} (h : RdJ w p A zs) (hk : Keeps q w w') (hq : ∀ b, b < w.heap.size → p b → q b ∧ r b) : RdJ w' r A zs := ⟨h.lo, h.hi, h.room, fun hn => by
  obtain ⟨b, off, hA, hp, hb, hc⟩ := h.rd hn
  obtain ⟨h1, h2⟩ := hq b hb hp
  exact ⟨b, off, hA, h2, Nat.lt_of_lt_of_le hb hk.size, fun k hk' => (World.cell?_of_block (a := ⟨b, off + k, none⟩) (hk.block b hb h1)).trans (hc k hk')⟩⟩
theorem RdJ.stepO {w w' : World} {O O' : Nat → Prop} {A : Option Addr} {zs : List Int} (h : RdJ w (fun b => ¬ O b) A zs) (hs : StepO O O' w w') : RdJ w' (fun b => ¬ O' b) A zs := h.keep hs.keeps fun _ hb hp => ⟨hp, hs.not hb hp⟩

theorem RdJ.imp {w : World} {p r : Nat → Prop} {A : Option Addr} {zs : List Int} (h : RdJ w p A zs) (hq : ∀ b, p b → r b) : RdJ w r A zs := h.keep (q := fun _ => True) (Keeps.refl _ w) fun b _ hp => ⟨trivial, hq b hp⟩
/-- the blocks that the schedule turns -/
def OB (B gw : Nat) (v : Value) (k : Nat) : Prop := k = B ∨ k = gw ∨ v.ownBlock = some k
/-- the schedule in memory: the box of three, the counts, where the edges end, who is ready -/
structure NS (p : Nat → Prop) (w : World) (base B gw ge m : Nat) (v : Value) (wt : Nat → Int) (xs : Nat → List Int) (rs : List Int) : Prop where
  box : SBox w base B v rs
  c1 : w.cell? ⟨B, 1, none⟩ = some (.slice (some ⟨ge, 0, none⟩) m m)
  c2 : w.cell? ⟨B, 2, none⟩ = some (.slice (some ⟨gw, 0, none⟩) m m)
  rw_ : w.rowIs gw 3 m (fun i => .int .i64 (wt i))
  re : ∃ (a : Nat → Option Addr) (c : Nat → Nat), w.rowIs ge 34 m (fun i => .slice (a i) (xs i).length (c i)) ∧ ∀ i, i < m → RdJ w (fun b => ¬ OB B gw v b ∧ p b) (a i) (xs i)
  nB : B ≠ gw
  nE : ¬ OB B gw v ge
  pE : p ge
  nV : v.ownBlock ≠ some gw
  bB : base ≤ B
  bW : base ≤ gw
theorem NS.top {p : Nat → Prop} {w : World} {base B gw ge m : Nat} {v : Value} {wt : Nat → Int} {xs : Nat → List Int} {rs : List Int} (h : NS p w base B gw ge m v wt xs rs) : ∀ k, OB B gw v k → k < w.heap.size := fun k hk => by
  rcases hk with rfl | rfl | e
  · exact h.box.blt
  · exact h.rw_.lt
  · exact h.box.vlt k e
theorem NS.base {p : Nat → Prop} {w : World} {base B gw ge m : Nat} {v : Value} {wt : Nat → Int} {xs : Nat → List Int} {rs : List Int} (h : NS p w base B gw ge m v wt xs rs) : ∀ k, OB B gw v k → base ≤ k := fun k hk => by
  rcases hk with rfl | rfl | e
  · exact h.bB
  · exact h.bW
  · exact (h.box.own.lt k e).1
/-- nothing of the schedule is turned -/
theorem NS.keep {p q : Nat → Prop} {w w' : World} {base B gw ge m : Nat} {v : Value} {wt : Nat → Int} {xs : Nat → List Int} {rs : List Int} (h : NS p w base B gw ge m v wt xs rs) (hk : Keeps q w w') (h1 : ∀ b, OB B gw v b → q b) (h2 : ∀ b, p b → q b) : NS p w' base B gw ge m v wt xs rs := by
  obtain ⟨a, c, h3, h4⟩ := h.re
  have hB := hk.block B h.box.blt (h1 B (.inl rfl))
  exact ⟨h.box.keep hk (h1 B (.inl rfl)) (fun k e => h1 k (.inr (.inr e))), (World.cell?_of_block (a := ⟨B, 1, none⟩) hB).trans h.c1, (World.cell?_of_block (a := ⟨B, 2, none⟩) hB).trans h.c2, rowIs_keep h.rw_ hk (h1 gw (.inr (.inl rfl))), ⟨a, c, rowIs_keep h3 hk (h2 ge h.pE), fun i hi => (h4 i hi).keep hk fun b _ hp => ⟨h2 b hp.2, hp⟩⟩, h.nB, h.nE, h.pE, h.nV, h.bB, h.bW⟩
/-- the list of those who are ready is turned -/
theorem NS.turn {p : Nat → Prop} {w w' : World} {base B gw ge m : Nat} {v v' : Value} {wt : Nat → Int} {xs : Nat → List Int} {rs rs' : List Int} (h : NS p w base B gw ge m v wt xs rs) (hb : SBox w' base B v' rs') (ht : STurn w w' B v v') : NS p w' base B gw ge m v' wt xs rs' ∧ StepO (OB B gw v) (OB B gw v') w w' := by
  have hat : ∀ k, OB B gw v' k → OB B gw v k ∨ w.heap.size ≤ k := fun k hk => by
    rcases hk with e | e | e
    · exact .inl (.inl e)
    · exact .inl (.inr (.inl e))
    · rcases ht.at_ k e with h1 | h1
      · exact .inl (.inr (.inr h1))
      · exact .inr h1
  have hnot : ∀ k, k < w.heap.size → ¬ OB B gw v k → ¬ OB B gw v' k := fun k hk hn h' => by
    rcases hat k h' with h1 | h1
    · exact hn h1
    · omega
  have hkeep : Keeps (fun k => ¬ OB B gw v k) w w' := ht.keep.mono fun k _ hn => ⟨fun e => hn (.inl e), fun e => hn (.inr (.inr e))⟩
  obtain ⟨a, c, h1, h2⟩ := h.re
  have hge := h1.lt
  have hgw := h.rw_.lt
  have hwK : B ≠ gw ∧ v.ownBlock ≠ some gw := ⟨h.nB, h.nV⟩
  refine ⟨⟨hb, (ht.rest 1 (by decide)).trans h.c1, (ht.rest 2 (by decide)).trans h.c2, rowIs_keep h.rw_ ht.keep ⟨fun e => h.nB e.symm, h.nV⟩, ⟨a, c, rowIs_keep h1 hkeep h.nE, fun i hi => (h2 i hi).keep hkeep fun b hb hp => ⟨hp.1, hnot b hb hp.1, hp.2⟩⟩, h.nB, hnot ge hge h.nE, h.pE, fun e => ?_, h.bB, h.bW⟩, ⟨hkeep, hat, fun k hk => ?_⟩⟩
  · rcases ht.at_ gw e with h3 | h3
    · exact h.nV h3
    · omega
  · rcases hk with rfl | rfl | e
    · exact hb.blt
    · exact Nat.lt_of_lt_of_le hgw hkeep.size
    · exact hb.vlt k e
/-- one waits for one edge less -/
theorem NS.less {p : Nat → Prop} {w : World} {base B gw ge m : Nat} {v : Value} {wt : Nat → Int} {xs : Nat → List Int} {rs : List Int} (h : NS p w base B gw ge m v wt xs rs) (y : Nat) : NS p (w.setCell ⟨gw, y, none⟩ (.int .i64 (wt y - 1))) base B gw ge m v (fun j => if j = y then wt y - 1 else wt j) xs rs ∧ StepO (OB B gw v) (OB B gw v) w (w.setCell ⟨gw, y, none⟩ (.int .i64 (wt y - 1))) := by
  have hk : Keeps (fun k => k ≠ gw) w (w.setCell ⟨gw, y, none⟩ (.int .i64 (wt y - 1))) := (Keeps.refl _ w).setCell (q := ⟨gw, y, none⟩) (fun _ hp => hp rfl) _
  have hk2 : Keeps (fun k => ¬ OB B gw v k) w (w.setCell ⟨gw, y, none⟩ (.int .i64 (wt y - 1))) := hk.mono fun k _ hn e => hn (.inr (.inl e))
  obtain ⟨a, c, h1, h2⟩ := h.re
  have hB := hk.block B h.box.blt h.nB
  refine ⟨⟨h.box.keep hk h.nB (fun k e he => h.nV (by rw [e, he])), (World.cell?_of_block (a := ⟨B, 1, none⟩) hB).trans h.c1, (World.cell?_of_block (a := ⟨B, 2, none⟩) hB).trans h.c2, ?_, ⟨a, c, rowIs_keep h1 hk2 h.nE, fun i hi => (h2 i hi).keep hk2 fun b _ hp => ⟨hp.1, hp⟩⟩, h.nB, h.nE, h.pE, h.nV, h.bB, h.bW⟩, ⟨hk2, fun k e => .inl e, fun k e => Nat.lt_of_lt_of_le (h.top k e) hk2.size⟩⟩
  refine (h.rw_.set y (.int .i64 (wt y - 1))).congr fun i _ => ?_
  by_cases e : i = y
  · simp [e]
  · simp [e]

theorem tos_bnd {m : Nat} {es : List (Int × Int)} (h : inR m es = true) {n q : Nat} (hq : q < (tos es n).length) : ∃ y : Nat, zd (tos es n) q = (y : Int) ∧ y < m := by
  have hm : (tos es n)[q] ∈ tos es n := List.getElem_mem hq
  have h1 := edge_in h (tos_mem.1 hm)
  have e : zd (tos es n) q = (tos es n)[q] := by unfold zd; simp [List.getD, hq]
  rw [e]
  exact ⟨(tos es n)[q].toNat, by omega, by omega⟩

set_option maxHeartbeats 8000000 in
theorem execute_any (es : List (Int × Int)) (m : Nat) (hm : m ≤ 200) (hin : inR m es = true) (hel : es.length ≤ 1099511627776) (d r : List Nat) (hg : Good (gR es) m d) (hr : ∀ x, x ∈ r → x < m ∧ ready (gR es) m d x = true) (hnd : r.Nodup) (base B gw ge : Nat) (v : Value) (A : Option Addr) (c : Nat) (w : World)
    (p : Nat → Prop) (h : NS p w base B gw ge m v (fun j => (cnw es d j : Int)) (tos es) (rl m (rdp (d ++ r) fun j => (cnw es d j : Int)))) (hA : RdJ w (fun b => ¬ OB B gw v b) A (toI r)) (hb : base ≤ w.heap.size) :
    Calls Tryd.prog 26 #[.pointer (some ⟨B, 0, none⟩), .slice A r.length c] w fun e w' => e = .returned (.tuple #[]) ∧ ∃ v', NS p w' base B gw ge m v' (fun j => (cnw es (d ++ r) j : Int)) (tos es) (rl m (rdp (d ++ r) fun j => (cnw es (d ++ r) j : Int))) ∧ StepO (OB B gw v) (OB B gw v') w w' := by
  have hrl : r.length ≤ m := nodup_le m r hnd fun x hx => (hr x hx).1
  have HR := Lib.hid hr
  have HND := Lib.hid hnd
  have HG := Lib.hid hg
  have HIN := Lib.hid hin
  have HS := Lib.hid h
  clear hr hnd hg hin
  go_enter Tryd.func26, Tryd.ntmps26
  go_wp2_with fail
  go_loopw [10] (fun i wr => ∃ (k : Nat) (v' : Value), k ≤ r.length ∧ i = .int .i64 k ∧ NS p wr base B gw ge m v' (fun j => (cnw es (d ++ r.take k) j : Int)) (tos es) (rl m (rdp (d ++ r) fun j => (cnw es (d ++ r.take k) j : Int))) ∧ StepO (OB B gw v) (OB B gw v') w wr) (fun i _ => r.length - (RowKit.intOf i).toNat)
  case atStart => exact ⟨0, v, Nat.zero_le _, rfl, by simpa using h, StepO.refl h.top⟩
  case round =>
    obtain ⟨k, v', hk, rfl, hN, hSt⟩ := hrel
    clear h
    by_cases hlt : k < r.length
    · obtain ⟨n, hn⟩ : ∃ n, n = r[k] := ⟨_, rfl⟩
      have hnm : n ∈ r := by rw [hn]; exact List.getElem_mem hlt
      obtain ⟨hnlt, hnr⟩ := HR.out n hnm
      have hJ := hA.stepO hSt
      obtain ⟨b, off, rfl, _, hbl, hc⟩ := hJ.rd (by rw [toI_len]; omega)
      have hck := hc k (by rw [toI_len]; omega)
      have hzd : zd (toI r) k = (n : Int) := by unfold zd toI; simp [List.getD, hlt, hn]
      rw [hzd] at hck
      obtain ⟨D, hD⟩ : ∃ D, D = d ++ r.take k := ⟨_, rfl⟩
      have hDn : n ∉ D := by
        rw [hD, List.mem_append]
        rintro (h1 | h1)
        · exact (ready_iff.1 hnr).1 h1
        · have h2 := HND.out
          rw [← List.take_append_drop k r, List.nodup_append] at h2
          exact h2.2.2 n h1 n (by rw [List.drop_eq_getElem_cons hlt, hn]; exact List.mem_cons_self ..) rfl
      have hD2 : D ++ [n] = d ++ r.take (k + 1) := by rw [hD, List.take_succ_eq_append_getElem hlt, hn, List.append_assoc]
      have hDd : ∀ x, x ∈ d → x ∈ D := fun x hx => by rw [hD]; exact List.mem_append_left _ hx
      rw [← hD] at hN
      obtain ⟨a, cc, hre, hra⟩ := hN.re
      have hcn := hre.cell hnlt
      have hc1 := hN.c1
      have hz0 : (0 : Int) ≤ (n : Int) := by omega
      have hz1 : (n : Int) < (m : Int) := by omega
      have hRn : RdJ wr (fun b => ¬ OB B gw v' b) (a n) (tos es n) := (hra n hnlt).imp fun _ hp => hp.1
      have HD := Lib.hid hD
      have HD2 := Lib.hid hD2
      have HDN := Lib.hid hDn
      have HDD := Lib.hid hDd
      have HNr := Lib.hid hnr
      have hl0 : (tos es n).length ≤ 1099511627776 := Nat.le_trans (tos_len _ _) hel
      clear hc hzd hn hnm hre hra hD hD2 hDn hDd hnr hJ
      go_wp2_with fail
      clear hc1 hcn hck
      obtain ⟨wo, rfl⟩ : ∃ wo : World, wo = wr := ⟨_, rfl⟩
      go_loopw [22] (fun i W => ∃ (q : Nat) (v2 : Value), q ≤ (tos es n).length ∧ i = .int .i64 q ∧ NS p W base B gw ge m v2 (wtn es D n q) (tos es) (rl m (rdp (d ++ r) (wtn es D n q))) ∧ StepO (OB B gw v') (OB B gw v2) wo W) (fun i _ => (tos es n).length - (RowKit.intOf i).toNat)
      case atStart => exact ⟨0, v', Nat.zero_le _, rfl, by rw [wtn_zero]; exact hN, StepO.refl hN.top⟩
      case round =>
        obtain ⟨q, v2, hq, rfl, hN2, hSt2⟩ := hrel
        clear hN
        by_cases hqt : q < (tos es n).length
        · obtain ⟨y, hy, hym⟩ := tos_bnd HIN.out hqt
          have hJ2 := hRn.stepO hSt2
          obtain ⟨b2, off2, hA2, _, hb2, hcc⟩ := hJ2.rd (by omega)
          have hcq := hcc q hqt
          rw [hy] at hcq
          have hpos := wtn_pos HIN.out HDN.out hqt hy
          have hout := waits_out HIN.out HG.out (fun x hx => (HR.out x hx).2) HDD.out hpos
          have hnext := wtn_next (D := D) hqt hy
          obtain ⟨wy, hwy⟩ : ∃ wy, wy = wtn es D n q y := ⟨_, rfl⟩
          have hwl : wy ≤ 1099511627776 := by have := wtn_le (es := es) (D := D) (n := n) (q := q) (j := y); omega
          have hcy := hN2.rw_.cell hym
          have hfy := hN2.rw_.frozen y
          have hc2 := hN2.c2
          obtain ⟨hN3, hSt3⟩ := hN2.less y
          rw [← hwy] at hcy hpos hnext hN3 hSt3
          have hz2 : (0 : Int) ≤ (y : Int) := by omega
          have hz3 : (y : Int) < (m : Int) := by omega
          rw [hA2]
          have hwc : IntKind.i64.wrap (wy - 1) = wy - 1 := by rw [IntKind.wrap_i64]; omega
          obtain ⟨W3, hW3⟩ : ∃ W3, W3 = wr.setCell ⟨gw, y, none⟩ (.int .i64 (wy - 1)) := ⟨_, rfl⟩
          have hc3 : (wr.setCell ⟨gw, y, none⟩ (.int .i64 (wy - 1))).cell? ⟨B, 2, none⟩ = some (.slice (some ⟨gw, 0, none⟩) m m) := hN3.c2
          have hcy3 : (wr.setCell ⟨gw, y, none⟩ (.int .i64 (wy - 1))).cell? ⟨gw, y, none⟩ = some (.int .i64 (wy - 1)) := by simpa using hN3.rw_.cell hym
          have hbs : base ≤ (wr.setCell ⟨gw, y, none⟩ (.int .i64 (wy - 1))).heap.size := Nat.le_trans hb (Nat.le_trans hSt.keeps.size (Nat.le_trans hSt2.keeps.size hSt3.keeps.size))
          rw [← hW3] at hN3 hSt3
          have HN2 := Lib.hid hN2
          have HN3 := Lib.hid hN3
          have HY := Lib.hid hy
          have HWY := Lib.hid hwy
          have HNX := Lib.hid hnext
          have HO := Lib.hid hout
          have HST := Lib.hid (hSt2.trans hSt3)
          clear hJ2 hcc hN2 hN3 hy hwy hnext hout hSt2 hSt3
          by_cases h1 : wy = 1
          · have h1' : (1 : Int) - 1 = 0 := rfl
            subst h1
            rw [h1'] at hcy3 hW3 hc3 hbs
            have HAdd := Lib.hid (add_any B base v2 _ (y : Int) W3 HN3.out.box (rl_sorted _ _) (Nat.le_trans (rl_len _ _) (by omega)) (by rw [hW3]; exact hbs))
            have HW3 := Lib.hid hW3
            go_wp2_with fail
            rw [← HW3.out]
            refine HAdd.out.mono ?_
            rintro e w4 ⟨rfl, v3, hb3, ht3⟩
            obtain ⟨hN4, hSt4⟩ := HN3.out.turn hb3 ht3
            rw [rdp_more HWY.out.symm HO.out hym, ← HWY.out, ← HNX.out] at hN4
            have hS9 := HST.out.trans hSt4
            clear hb3 ht3 hSt4
            go_wp2_with fail
            go_roundw
            case rel => exact ⟨q + 1, v3, by omega, by go_num, hN4, hS9⟩
            case measure => simp [RowKit.intOf]; omega
          · have h2 : ((wy - 1 == 0) : Bool) = false := beq_eq_false_iff_ne.2 (by omega)
            have h3 : ¬ (wy - 1 = 0) := by omega
            have hN4 := HN3.out
            rw [rdp_same (y := y) (by rw [← HWY.out]; omega) (by rw [← HWY.out]; exact h1), ← HWY.out, ← HNX.out] at hN4
            have HN4 := Lib.hid hN4
            have HW3 := Lib.hid hW3
            clear hN4 hW3
            go_wp2_with fail
            rw [← HW3.out]
            go_roundw
            case rel => exact ⟨q + 1, v2, by omega, by go_num, HN4.out, HST.out⟩
            case measure => simp [RowKit.intOf]; omega
        · obtain rfl : q = (tos es n).length := by omega
          rw [wtn_all HIN.out HDN.out, HD2.out] at hN2
          have hS9 := hSt.trans hSt2
          have HN2 := Lib.hid hN2
          have HS9 := Lib.hid hS9
          clear hN2 hS9 hSt2
          go_wp2_with fail
          go_roundw
          case rel => exact ⟨k + 1, v2, by omega, by go_num, HN2.out, HS9.out⟩
          case measure => simp [RowKit.intOf]; omega
    · obtain rfl : k = r.length := by omega
      rw [List.take_length] at hN
      go_wp2_with fail
      refine bodyPost_end (results_none rfl _ _ _) rfl ?_
      exact ⟨rfl, v', hN, hSt⟩
end Go.Proofs.YtipihchlhkjdjaaDoor
