/-
  The closure that goes through a text, a token a call (scanner$1).
-/
import Derived.Test.YtfekcbkafiiieaaDoorLxFi
import Derived.Deep.RegionWith
import Derived.IntWalk
namespace Go.Proofs.YtfekcbkafiiieaaDoor
open Go.RowKit
set_option maxRecDepth 100000

/-- what the closure holds: where it stands, and the text -/
structure ScB (ab sb : Nat) (at_ : Nat) (S : ByteArray) (W : World) : Prop where
  a : W.heap[ab]? = some (.cells #[.int .i64 (at_ : Int)] 3 (0, 0))
  s : W.heap[sb]? = some (.cells #[.string S] 9 (0, 0))
  ne : ab ≠ sb
theorem ScB.la {ab sb at_ : Nat} {S : ByteArray} {W : World} (h : ScB ab sb at_ S W) : ab < W.heap.size := (Array.getElem?_eq_some_iff.1 h.a).1
theorem ScB.ls {ab sb at_ : Nat} {S : ByteArray} {W : World} (h : ScB ab sb at_ S W) : sb < W.heap.size := (Array.getElem?_eq_some_iff.1 h.s).1
theorem ScB.ca {ab sb at_ : Nat} {S : ByteArray} {W : World} (h : ScB ab sb at_ S W) : W.cell? ⟨ab, 0, none⟩ = some (.int .i64 (at_ : Int)) := by
  unfold World.cell?
  dsimp only
  rw [h.a]
  rfl
theorem ScB.cs {ab sb at_ : Nat} {S : ByteArray} {W : World} (h : ScB ab sb at_ S W) : W.cell? ⟨sb, 0, none⟩ = some (.string S) := by
  unfold World.cell?
  dsimp only
  rw [h.s]
  rfl
theorem ScB.fz {ab sb at_ : Nat} {S : ByteArray} {W : World} (h : ScB ab sb at_ S W) : W.frozen? ⟨ab, 0, none⟩ = false := by
  unfold World.frozen?
  dsimp only
  rw [h.a]
  rfl
theorem ScB.drew {ab sb at_ : Nat} {S : ByteArray} {W : World} (h : ScB ab sb at_ S W) : ScB ab sb at_ S W.drew := ⟨h.a, h.s, h.ne⟩
theorem ScB.step {ab sb at_ : Nat} {S : ByteArray} {W W' : World} (h : ScB ab sb at_ S W) (hb : Below W.heap.size W W') : ScB ab sb at_ S W' := ⟨(hb.block ab h.la).trans h.a, (hb.block sb h.ls).trans h.s, h.ne⟩
theorem ScB.set {ab sb at_ : Nat} {S : ByteArray} {W : World} (h : ScB ab sb at_ S W) (n : Nat) : ScB ab sb n S (W.setCell ⟨ab, 0, none⟩ (.int .i64 (n : Int))) := by
  refine ⟨?_, ?_, h.ne⟩
  · have := h.a
    simp [World.setCell, Array.getElem?_modify, this]
  · rw [Below.heap_setCell _ _ _ _ (fun e => h.ne e.symm)]
    exact h.s
theorem sl_drop (S : ByteArray) {n : Nat} (h : n ≤ S.size) (W : World) : (Instr.slice 9 (.string S) (some (.int .i64 (n : Int))) none none).run Tryd.prog W = .ok (.string (bts (S.data.toList.drop n))) W := by
  rw [run_slice_string_l W 9 S Tryd.underlying9 .i64 (n : Int) (by omega) (by omega)]
  have : S.extract (n : Int).toNat S.size = bts (S.data.toList.drop n) := by
    apply bts_of
    rw [extract_list, show (n : Int).toNat = n by omega]
    congr 1
    rw [List.take_of_length_le (by simp)]
  rw [this]
theorem sl_mid (S : ByteArray) {a n : Nat} (h : a + n ≤ S.size) (W : World) : (Instr.slice 9 (.string S) (some (.int .i64 (a : Int))) (some (.int .i64 ((a : Int) + (n : Int)))) none).run Tryd.prog W = .ok (.string (bts ((S.data.toList.drop a).take n))) W := by
  rw [run_slice_string W 9 S .i64 .i64 (a : Int) ((a : Int) + (n : Int)) Tryd.underlying9 (by omega) (by omega) (by omega)]
  have : S.extract ((a : Int).toNat) (((a : Int) + (n : Int)).toNat) = bts ((S.data.toList.drop a).take n) := by
    apply bts_of
    rw [extract_list, show (a : Int).toNat = a by omega, show ((a : Int) + (n : Int)).toNat = a + n by omega, List.drop_take, show a + n - a = n by omega]
  rw [this]

theorem tk_put {D : Nat} {K0 p0 : Int} {s0 : ByteArray} {W : World} (h : TkB D K0 p0 s0 W) (K p : Int) (s : ByteArray) :
    TkB D K p s (((W.setCell ⟨D, 0, none⟩ (.int .i64 K)).setCell ⟨D, 1, none⟩ (.int .i64 p)).setCell ⟨D, 2, none⟩ (.string s)) := by
  unfold TkB at h ⊢
  simp [World.setCell, Array.getElem?_modify, h]
/-- what is held while the token is made -/
abbrev HeldSc (ab sb q : Nat) (S : ByteArray) (n0 : Nat) (W : World) : Prop := W.cell? ⟨ab, 0, none⟩ = some (.int .i64 (q : Int)) ∧ W.cell? ⟨sb, 0, none⟩ = some (.string S) ∧ n0 ≤ W.heap.size
theorem HeldSc.drew {ab sb q n0 : Nat} {S : ByteArray} {W : World} (h : HeldSc ab sb q S n0 W) : HeldSc ab sb q S n0 W.drew := h
theorem HeldSc.alloc {ab sb q n0 : Nat} {S : ByteArray} {W : World} (h : HeldSc ab sb q S n0 W) (o : Obj) : HeldSc ab sb q S n0 (W.alloc o) := by
  obtain ⟨a1, a2, a3⟩ := h
  have c : ∀ {a : Addr} {v : Value}, W.cell? a = some v → (W.alloc o).cell? a = some v := fun {a v} h => (World.cell?_alloc_lt _ _ _ (World.block_lt_of_cell? _ _ h)).trans h
  exact ⟨c a1, c a2, by simp; omega⟩
theorem put_cellS {W : World} {b o B x : Nat} {v : Value} (h : b ≠ B) : (W.setCell ⟨B, x, none⟩ v).cell? ⟨b, o, none⟩ = W.cell? ⟨b, o, none⟩ := by
  unfold World.cell?
  dsimp only
  rw [Below.heap_setCell _ _ _ _ h]
theorem HeldSc.set3 {ab sb q n0 B : Nat} {S : ByteArray} {W : World} {V0 V1 V2 : Value} (ha : ab ≠ B) (hs : sb ≠ B) (h : HeldSc ab sb q S n0 W) : HeldSc ab sb q S n0 (((W.setCell ⟨B, 0, none⟩ V0).setCell ⟨B, 1, none⟩ V1).setCell ⟨B, 2, none⟩ V2) := by
  obtain ⟨a1, a2, a3⟩ := h
  exact ⟨by rw [put_cellS ha, put_cellS ha, put_cellS ha]; exact a1, by rw [put_cellS hs, put_cellS hs, put_cellS hs]; exact a2, by simpa [World.setCell] using a3⟩

set_option maxHeartbeats 4000000 in
theorem scan1_any (ab sb p : Nat) (S : ByteArray) (hs : S.size ≤ 4194304) (hp : p ≤ S.size) (w : World) (h : ScB ab sb p S w) (q : Nat) (hq : q = p + pre isBl (S.data.toList.drop p)) (T : Nat × Nat) (hT : T = tokAt (S.data.toList.drop q)) :
    Calls Tryd.prog 24 #[.pointer (some ⟨ab, 0, none⟩), .pointer (some ⟨sb, 0, none⟩)] w fun e w' => e = .returned (.agg #[.int .i64 ((T.1 : Nat) : Int), .int .i64 (q : Int), .string (bts ((S.data.toList.drop q).take T.2))]) ∧ ScB ab sb (q + T.2) S w' ∧ Keeps (fun b => b ≠ ab) w w' := by
  have hb1 := below_allocJ w (.cells #[.int .i64 0, .int .i64 0, .string ⟨#[]⟩] 28)
  have hT1 := TkB.new w 0 0 ⟨#[]⟩
  obtain ⟨D, hD⟩ : ∃ D, D = w.heap.size := ⟨_, rfl⟩
  obtain ⟨w1, hw1⟩ : ∃ w1, w1 = w.alloc (.cells #[.int .i64 0, .int .i64 0, .string ⟨#[]⟩] 28) := ⟨_, rfl⟩
  rw [← hw1] at hb1 hT1
  rw [← hD] at hT1
  have h1 := h.step hb1
  have HW := Lib.hid hw1
  have HD := Lib.hid hD
  have HQ := Lib.hid hq
  have HT := Lib.hid hT
  have c0 := h1.ca
  have c1 := h1.cs
  have f0 := h1.fz
  have HH := Lib.hid h1
  obtain ⟨n, hn⟩ : ∃ n, n = pre isBl (S.data.toList.drop p) := ⟨_, rfl⟩
  have A0 : Hid (∀ W, Calls Tryd.prog 25 #[.string (bts (S.data.toList.drop p)), .func (.func 26) #[] #[]] W fun e w' => e = .returned (.int .i64 (n : Int)) ∧ w' = W) := Lib.hid fun W => by
    have := run_isBlank (bts (S.data.toList.drop p)) (by rw [bts_size]; simp; omega) W
    rw [bts_list, ← hn] at this
    exact this
  have S0 := sl_drop S hp
  obtain ⟨S1, hS1⟩ : ∃ S1, S1 = bts (S.data.toList.drop p) := ⟨_, rfl⟩
  rw [← hS1] at S0 A0
  have hnl : n ≤ S.size := by
    have := pre_le isBl (S.data.toList.drop p)
    simp at this
    omega
  have HN := Lib.hid hn
  have HQL : Hid (q ≤ S.size) := Lib.hid (by
    have := pre_le isBl (S.data.toList.drop p)
    simp at this
    omega)
  have HAL := Lib.hid h.la
  have HDS : Hid (sb ≠ D) := Lib.hid (by have := h.ls; omega)
  clear hw1 hD hq hT h h1 hb1 hS1 hn
  go_enter Tryd.func24, Tryd.ntmps24
  go_upto_region 1 with fail
  rw [← HW.out, ← HD.out]
  have hw : IntKind.i64.wrap ((p : Int) + (n : Int)) = (q : Int) := by
    have e : (p : Int) + (n : Int) = (q : Int) := by rw [HQ.out, ← HN.out]; omega
    rw [e]
    exact IntWalk.i64_in _ (by have := HQL.out; omega)
  go_cut [11] from 6 to 12 (fun v wx => v = .int .i64 (q : Int) ∧ wx = (w1.setCell ⟨ab, 0, none⟩ (.int .i64 (q : Int))).drew)
  case first =>
    go_region_with (go_at_call 25; refine (A0.out _).mono ?_; rintro e w5 ⟨rfl, rfl⟩)
    all_goals
      go_wp2_with fail
      go_meet
      case rel => exact ⟨rfl, rfl⟩
  case rest =>
    obtain ⟨rfl, hwc⟩ := hcut
    have h2 : ScB ab sb q S wc := by
      rw [hwc]
      exact (HH.out.set q).drew
    have hk2 : Keeps (fun b => b ≠ ab) w wc := by
      rw [hwc, HW.out]
      exact (((Keeps.refl _ _).alloc _).setCell (q := ⟨ab, 0, none⟩) (fun _ h => h rfl) _).drew
    have hD2 : TkB D 0 0 ⟨#[]⟩ wc := by
      rw [hwc]
      show ((w1.setCell ⟨ab, 0, none⟩ _).drew).heap[D]? = _
      exact (Below.heap_setCell _ _ _ _ (fun e => by have := HAL.out; have := HD.out; have e2 : D = ab := e; omega)).trans hT1
    have A1 : Hid (∀ W, Calls Tryd.prog 27 #[.string (bts (S.data.toList.drop q))] W fun e w' => e = .returned (.tuple #[.int .i64 ((T.1 : Nat) : Int), .int .i64 ((T.2 : Nat) : Int)]) ∧ w' = W) := Lib.hid fun W => by
      have := first_any (bts (S.data.toList.drop q)) (by rw [bts_size]; simp; omega) W
      rw [bts_list, ← HT.out] at this
      exact this
    have hql := HQL.out
    have hTl : T.2 ≤ S.size - q := by
      have := tokAt_le (S.data.toList.drop q)
      rw [← HT.out] at this
      simpa using this
    have S2 := sl_drop S hql
    have S3 := sl_mid S (a := q) (n := T.2) (by omega)
    have hw3 : IntKind.i64.wrap ((q : Int) + ((T.2 : Nat) : Int)) = (q : Int) + ((T.2 : Nat) : Int) := IntWalk.i64_in _ (by omega)
    obtain ⟨S4, hS4⟩ : ∃ S4, S4 = bts (S.data.toList.drop q) := ⟨_, rfl⟩
    rw [← hS4] at S2 A1
    obtain ⟨S5, hS5⟩ : ∃ S5, S5 = bts ((S.data.toList.drop q).take T.2) := ⟨_, rfl⟩
    rw [← hS5] at S3
    have HS5 := Lib.hid hS5
    obtain ⟨K, M⟩ := T
    dsimp only at A1 S3 hTl HS5 hw3
    replace c0 := h2.ca
    replace c1 := h2.cs
    replace f0 := h2.fz
    have HH2 := Lib.hid h2
    have HK2 := Lib.hid hk2
    have HD2 := Lib.hid hD2
    clear hwc h2 hk2 hD2 hT1 hS4 hS5 S0 A0 hw
    go_upto_region 2 with fail
    go_wp2_with fail
    refine (A1.out _).mono ?_
    rintro e w5 ⟨rfl, rfl⟩
    clear S2
    go_upto_region 3 with fail
    have hal := HH2.out.la
    have hsl := HH2.out.ls
    have hn0 := Nat.le_refl w5.heap.size
    go_region_held3 (HeldSc ab sb q S w5.heap.size)
      (first
        | (go_split_ands; refine ⟨?_, ?_, ?_⟩ <;> with_reducible assumption)
        | (go_split_ands; with_reducible exact HeldSc.set3 (by omega) (by omega) ⟨‹_›, ‹_›, ‹_›⟩)
        | (go_split_ands; with_reducible exact HeldSc.drew ⟨‹_›, ‹_›, ‹_›⟩)
        | (go_split_ands; with_reducible exact HeldSc.alloc ⟨‹_›, ‹_›, ‹_›⟩ _)
        | (go_split_ands; with_reducible exact HeldSc.drew (HeldSc.alloc ⟨‹_›, ‹_›, ‹_›⟩ _)))
      (fail)
    clear ‹HeldSc _ _ _ _ _ _›
    have hbl := (below_allocJ w5 (.cells #[.int .i64 (K : Int), .int .i64 (q : Int), .string S5] 28)).drew
    have hT6 : TkB w5.heap.size (K : Int) (q : Int) S5 (w5.alloc (.cells #[.int .i64 (K : Int), .int .i64 (q : Int), .string S5] 28)).drew := TkB.new w5 _ _ _
    have h6 := HH2.out.step hbl
    have hk6 := HK2.out.trans (Keeps.of_below (p := fun b => b ≠ ab) hbl (fun k hk _ => hk))
    have hD6 := HD2.out.step hbl
    have hDlt := HD2.out.lt
    obtain ⟨E, hE⟩ : ∃ E, E = w5.heap.size := ⟨_, rfl⟩
    obtain ⟨w6, hw6⟩ : ∃ w6, w6 = (w5.alloc (.cells #[.int .i64 (K : Int), .int .i64 (q : Int), .string S5] 28)).drew := ⟨_, rfl⟩
    rw [← hw6] at hbl hT6 h6 hk6 hD6 ⊢
    rw [← hE] at hal hsl hDlt hT6 ⊢
    have hEa : ab ≠ E := by omega
    have hED : D ≠ E := by omega
    have hDa : D ≠ ab := by have := HAL.out; have := HD.out; omega
    have c6 := h6.ca
    have f6 := h6.fz
    have HH6 := Lib.hid h6
    have HK6 := Lib.hid hk6
    have HD6 := Lib.hid hD6
    have HT6 := Lib.hid hT6
    clear c0 c1 f0 hn0 hbl hw6 hE h6 hk6 hD6 hT6 hal hsl hDlt
    go_upto_region 5 with fail
    have h7 : ScB ab sb (q + M) S (w6.setCell ⟨ab, 0, none⟩ (.int .i64 ((q : Int) + (M : Int)))) := by
      have := HH6.out.set (q + M)
      rw [show (((q + M : Nat) : Nat) : Int) = (q : Int) + (M : Int) by omega] at this
      exact this
    have hk7 := HK6.out.setCell (q := ⟨ab, 0, none⟩) (fun _ h => h rfl) (.int .i64 ((q : Int) + (M : Int)))
    have hD7 : TkB D 0 0 ⟨#[]⟩ (w6.setCell ⟨ab, 0, none⟩ (.int .i64 ((q : Int) + (M : Int)))) := (Below.heap_setCell _ _ _ _ hDa).trans HD6.out
    have hT7 : TkB E (K : Int) (q : Int) S5 (w6.setCell ⟨ab, 0, none⟩ (.int .i64 ((q : Int) + (M : Int)))) := (Below.heap_setCell _ _ _ _ (Ne.symm hEa)).trans HT6.out
    obtain ⟨w7, hw7⟩ : ∃ w7, w7 = w6.setCell ⟨ab, 0, none⟩ (.int .i64 ((q : Int) + (M : Int))) := ⟨_, rfl⟩
    rw [← hw7] at h7 hk7 hD7 hT7 ⊢
    obtain ⟨d0, d1, d2⟩ := hD7.cells
    obtain ⟨e0, e1, e2⟩ := hT7.cells
    have hf : ∀ i, w7.frozen? ⟨D, i, none⟩ = false := fun i => by
      unfold World.frozen?
      dsimp only
      rw [show w7.heap[D]? = _ from hD7]
      simp
    have f0 := hf 0
    have f1 := hf 1
    have f2 := hf 2
    have P := Lib.hid (tk_put hD7 (K : Int) (q : Int) S5)
    have HN7 : Hid (ScB ab sb (q + M) S (((w7.setCell ⟨D, 0, none⟩ (.int .i64 (K : Int))).setCell ⟨D, 1, none⟩ (.int .i64 (q : Int))).setCell ⟨D, 2, none⟩ (.string S5))) := Lib.hid ⟨by
      rw [Below.heap_setCell _ _ _ _ (Ne.symm hDa), Below.heap_setCell _ _ _ _ (Ne.symm hDa), Below.heap_setCell _ _ _ _ (Ne.symm hDa)]
      exact h7.a, by
      have hDs : sb ≠ D := HDS.out
      rw [Below.heap_setCell _ _ _ _ hDs, Below.heap_setCell _ _ _ _ hDs, Below.heap_setCell _ _ _ _ hDs]
      exact h7.s, h7.ne⟩
    have HK7 : Hid (Keeps (fun b => b ≠ ab) w (((w7.setCell ⟨D, 0, none⟩ (.int .i64 (K : Int))).setCell ⟨D, 1, none⟩ (.int .i64 (q : Int))).setCell ⟨D, 2, none⟩ (.string S5))) := Lib.hid (by
      have hn : ∀ i : Nat, (⟨D, i, none⟩ : Addr).block < w.heap.size → ¬ ((⟨D, i, none⟩ : Addr).block ≠ ab) := fun i h => by
        have := HD.out
        have e : (⟨D, i, none⟩ : Addr).block = D := rfl
        omega
      exact ((hk7.setCell (q := ⟨D, 0, none⟩) (hn 0) _).setCell (q := ⟨D, 1, none⟩) (hn 1) _).setCell (q := ⟨D, 2, none⟩) (hn 2) _)
    clear c6 f6 hw7 h7 hk7 hD7 hT7 hf
    go_wp2_with fail
    refine bodyPost_ret (results_cell_row rfl _ _ D 28 _ (0, 0) _ rfl P.out rfl rfl (by kernel_rfl)) rfl ?_
    exact ⟨by rw [HS5.out], HN7.out, HK7.out⟩
end Go.Proofs.YtfekcbkafiiieaaDoor
