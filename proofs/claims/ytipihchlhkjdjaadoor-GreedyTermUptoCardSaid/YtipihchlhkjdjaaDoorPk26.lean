/-
  The reader that counts up to one leaf too many.
  Contract of sp.Graph.
  Contract of sp.Graph where the leaves are not too many.
  Contract of the reference's DGraph.
-/
import Derived.Test.YtipihchlhkjdjaaDoorPk22
import Derived.Test.YtipihchlhkjdjaaDoorPk23
import Derived.Test.YtipihchlhkjdjaaDoorPk25
namespace Go.Proofs.YtipihchlhkjdjaaDoor
open Go.RowKit
set_option maxRecDepth 100000

def LimI (C : Nat) (w : World) : Prop := w.heap[C]? = some (.cells #[] 84 (0, 0))
theorem LimI.lt {C : Nat} {w : World} (h : LimI C w) : C < w.heap.size := (Array.getElem?_eq_some_iff.1 h).1
theorem LimI.alloc {C : Nat} {w : World} (h : LimI C w) (o : Obj) : LimI C (w.alloc o) := ((World.grownBy_alloc w o none).block C h.lt (by simp)).trans h

theorem byteOfZ {C : Nat} {w : World} (h : LimI C w) : (byteOf ⟨C, 0, none⟩).run Tryd.prog w = .ok 0 w := by
  have hs : w.shape? C = some (84, 0) := by simp [World.shape?, show w.heap[C]? = _ from h]
  have hc : Tryd.prog.cellsOf 84 = 0 := by kernel_rfl
  simp [byteOf, go_sem, hs, hc, noView, viewAt]

theorem meth_lim {C : Nat} {w : World} {F : FuncId} {nm : String} (h : LimI C w)
    (hi : (Tryd.prog.info? 80).map (fun i => i.methods.find? (fun x => x.name == nm)) = some (some ⟨nm, 113, #[⟨84, 0, true⟩], some (F, false)⟩)) (k : Nat) :
    (method (k + 8) 80 (.pointer (some ⟨C, 0, none⟩)) nm).run Tryd.prog w = .ok (F, .agg #[]) w := by
  obtain ⟨i, hi1, hi2⟩ := Option.map_eq_some_iff.1 hi
  have hb0 := byteOfZ h
  have hu : ∃ fs f, Tryd.prog.underlying 84 = some (.struct fs) ∧ fs[0]? = some f ∧ f.type = 82 ∧ f.offset = 0 ∧ f.byteOffset = 0 := ⟨_, _, Tryd.underlying84, rfl, rfl, rfl, rfl⟩
  obtain ⟨fs, f, hu, hf, h1, h2, h3⟩ := hu
  unfold method
  simp [typeInfo, go_sem, hi1, hi2, follow, fieldPlace, Place.get, asAddr, partAt, hb0, receiverAt, run_underlying hu, hf, h1, h2, h3, loadCellsFrom]

theorem lim_leaf (n : Nat) (a : Acc) (w : World) (hn : n < 1048576) :
    Calls Tryd.prog 101 #[.agg #[], .int .i64 n, accV a] w fun e w' => e = .returned (.bool (decide (n < 200))) ∧ w' = (w.alloc (.cells #[] 84)).alloc (.cells #[.int .i64 a.1, .bool a.2.1, .int .i64 a.2.2] 48) := by
  obtain ⟨c, x, l⟩ := a
  dsimp only [accV]
  by_cases h : n < 200
  · have h1 : (n : Int) < 200 := by omega
    rw [decide_eq_true h]
    go_enter Tryd.func101, Tryd.ntmps101
    go_wp2_with fail
    go_ret
    exact ⟨by simp, rfl⟩
  · have h1 : ¬ (n : Int) < 200 := by omega
    rw [decide_eq_false h]
    go_enter Tryd.func101, Tryd.ntmps101
    go_wp2_with fail
    go_ret
    exact ⟨by simp, rfl⟩

theorem limR (C : Nat) : Rdr (LimI C) (fun w (_ : Unit) _ => LimI C w) C 80 (.pointer (some ⟨C, 0, none⟩)) (fun s n _ => (s, decide (n < 200))) (fun s _ _ _ => s) (fun s _ _ _ => s) where
  drew := fun w s n h => h
  there := fun w s n h => h
  leaf := ⟨101, .agg #[], ⟨fun _ _ => by kernel_rfl, fun _ _ _ => by kernel_rfl, fun _ _ => by kernel_rfl⟩,
    fun w s n a h hn => (lim_leaf n a w hn).mono fun e w' ⟨h1, h2⟩ => ⟨h1, h2 ▸ (h.alloc _).alloc _, h2 ▸ ((Below.refl C w).alloc (Nat.le_of_lt h.lt) _).alloc (by have := h.lt; simp; omega) _⟩⟩
  ser := ⟨103, .agg #[], ⟨fun _ _ => by kernel_rfl, fun k w h => meth_lim h (by kernel_rfl) k, fun _ _ => by kernel_rfl⟩,
    fun w s x m t h _ _ _ => (patient_series x m t w).mono fun e w' ⟨h1, h2⟩ => ⟨h1, h2 ▸ h.alloc _, h2 ▸ (Below.refl C w).alloc (Nat.le_of_lt h.lt) _⟩⟩
  par := ⟨102, .agg #[], ⟨fun _ _ => by kernel_rfl, fun k w h => meth_lim h (by kernel_rfl) k, fun _ _ => by kernel_rfl⟩,
    fun w s x m t h _ _ _ => (patient_parallel x m t w).mono fun e w' ⟨h1, h2⟩ => ⟨h1, h2 ▸ h.alloc _, h2 ▸ (Below.refl C w).alloc (Nat.le_of_lt h.lt) _⟩⟩

theorem told_lim (T : Tm) : ∀ n, n ≤ 200 → (n + T.sz ≤ 200 → T.told (fun (s : Unit) n _ => (s, decide (n < 200))) (fun s _ _ _ => s) (fun s _ _ _ => s) () n = ((), n + T.sz, true)) ∧
    (200 < n + T.sz → T.told (fun (s : Unit) n _ => (s, decide (n < 200))) (fun s _ _ _ => s) (fun s _ _ _ => s) () n = ((), 201, false)) := by
  induction T with
  | nil => intro n hn; exact ⟨fun _ => rfl, fun h => by simp only [Tm.sz] at h; omega⟩
  | one a =>
    intro n hn
    refine ⟨fun h => ?_, fun h => ?_⟩
    · simp only [Tm.sz] at h
      simp only [Tm.told, Tm.sz]
      rw [decide_eq_true (show n < 200 by omega)]
    · simp only [Tm.sz] at h
      simp only [Tm.told]
      rw [decide_eq_false (show ¬ n < 200 by omega), show n = 200 by omega]
  | seq l r il ir =>
    intro n hn
    obtain ⟨p1, p2⟩ := il n hn
    refine ⟨fun h => ?_, fun h => ?_⟩
    · simp only [Tm.sz] at h
      have q := (ir (n + l.sz) (by omega)).1 (by omega)
      simp only [Tm.told, p1 (by omega), both2, q, Tm.sz]
      rw [Nat.add_assoc]
    · simp only [Tm.sz] at h
      by_cases h2 : n + l.sz ≤ 200
      · have q := (ir (n + l.sz) h2).2 (by omega)
        simp only [Tm.told, p1 h2, both2, q]
      · simp only [Tm.told, p2 (by omega), both2]
  | par l r il ir =>
    intro n hn
    obtain ⟨p1, p2⟩ := il n hn
    refine ⟨fun h => ?_, fun h => ?_⟩
    · simp only [Tm.sz] at h
      have q := (ir (n + l.sz) (by omega)).1 (by omega)
      simp only [Tm.told, p1 (by omega), both2, q, Tm.sz]
      rw [Nat.add_assoc]
    · simp only [Tm.sz] at h
      by_cases h2 : n + l.sz ≤ 200
      · have q := (ir (n + l.sz) h2).2 (by omega)
        simp only [Tm.told, p1 h2, both2, q]
      · simp only [Tm.told, p2 (by omega), both2]
end Go.Proofs.YtipihchlhkjdjaaDoor

namespace Go.Proofs.YtipihchlhkjdjaaDoor
open Go.RowKit
set_option maxRecDepth 100000

theorem results_gr {fn : Func} {p u : Tmp} (h : fn.results = #[.cell p 24, .tmp u]) (tmps : Array Value) (w : World) (g : Nat) (x : Int) (v : Value)
    (hp : tmps.getD p undef = .pointer (some ⟨g, 0, none⟩)) (hg : GrB w g x v) :
    (results fn tmps).run Tryd.prog w = .ok (.tuple #[.agg #[.int .i64 x, v], tmps.getD u undef]) w := by
  have hp' : tmps[p]?.getD undef = .pointer (some ⟨g, 0, none⟩) := by simpa using hp
  have hi : (Tryd.prog.info? 24).map (·.size) = some (#[Value.int .i64 x, v] : Array Value).size := by kernel_rfl
  simp [results, h, hp', asAddr, run_loadVar_row w g 24 24 #[.int .i64 x, v] (0, 0) _ hg Tryd.underlying24 rfl hi]

set_option maxHeartbeats 1000000 in
theorem graph_many (T : Tm) (h : Hd) (w : World) (hT : TIn w w.heap.size T h) (hs : T.sz ≤ 1048576) (hbig : 200 < T.sz) :
    Calls Tryd.prog 21 #[.agg h.cells] w fun e w' => e = .returned (.tuple #[.agg #[.int .i64 0, .slice none 0 0], .int .i64 2]) ∧ Below w.heap.size w w' := by
  have key : ∃ w1, w1 = (((w.alloc (.cells h.cells 51)).alloc (.cells #[.int .i64 0, .slice none 0 0] 24)).alloc (.cells #[] 84)) ∧ Below w.heap.size w w1 ∧ TB 51 w1 w.heap.size h ∧ GrB w1 (w.heap.size + 1) 0 (.slice none 0 0) ∧ LimI (w.heap.size + 1 + 1) w1 := by
    refine ⟨_, rfl, (((Below.refl _ _).alloc (Nat.le_refl _) _).alloc (by simp) _).alloc (by simp; omega) _, ((TB.new _ _ _).alloc _).alloc _, ?_, ?_⟩
    · have : GrB ((w.alloc (.cells h.cells 51)).alloc (.cells #[.int .i64 0, .slice none 0 0] 24)) (w.heap.size + 1) 0 (.slice none 0 0) := by
        have := World.alloc_heap_new (w.alloc (.cells h.cells 51)) (.cells #[.int .i64 0, .slice none 0 0] 24)
        rw [World.size_alloc] at this
        exact this
      exact this.alloc _
    · have := World.alloc_heap_new ((w.alloc (.cells h.cells 51)).alloc (.cells #[.int .i64 0, .slice none 0 0] 24)) (.cells #[] 84)
      rw [World.size_alloc, World.size_alloc] at this
      exact this
  obtain ⟨w1, hw1, hb1, ht1, hg1, hI1⟩ := key
  have hT1 : TIn w1 (w.heap.size + 1 + 1) T h := (hT.below hb1 (Nat.le_refl _)).more (by omega)
  have hc := read_any (limR (w.heap.size + 1 + 1)) T w1 w.heap.size 0 h () 0 ht1.at (by omega) hT1 hI1 (by omega)
  rw [(told_lim T 0 (by omega)).2 (by omega)] at hc
  dsimp only at hc
  have HC : Hid (Calls Tryd.prog 39 #[.pointer (some ⟨w.heap.size, 0, none⟩), .int .i64 0, .iface 80 (.pointer (some ⟨w.heap.size + 1 + 1, 0, none⟩))] w1 _) := Lib.hid hc
  obtain ⟨k, c, x, l, A, m, cap⟩ := h
  dsimp only [Hd.cells] at hw1 ⊢
  have hlt : w.heap.size + 1 < w.heap.size + 1 + 1 := by omega
  have HG := Lib.hid hg1
  clear hc hT1 hT ht1 hI1 hg1
  go_enter Tryd.func21, Tryd.ntmps21
  go_wp2_with (first
    | (rw [← hw1]; refine HC.out.mono ?_; rintro e w2 ⟨rfl, _, hb2⟩; have hg2 : GrB w2 (w.heap.size + 1) 0 (.slice none 0 0) := (hb2.block _ hlt).trans HG.out; have g0 := hg2.n; have g1 := hg2.e; have gf := hg2.frozen)
    | fail)
  have hg3 := (hg2.set0 0).set (.slice none 0 0)
  refine bodyPost_ret (results_gr rfl _ _ (w.heap.size + 1) _ _ rfl hg3) rfl ⟨rfl, ?_⟩
  exact (((hb1.trans (hb2.mono (by omega))).setCell (p := ⟨w.heap.size + 1, 0, none⟩) (by dsimp only; omega) _).setCell (p := ⟨w.heap.size + 1, 1, none⟩) (by dsimp only; omega) _)
end Go.Proofs.YtipihchlhkjdjaaDoor

namespace Go.Proofs.YtipihchlhkjdjaaDoor
open Go.RowKit
set_option maxRecDepth 100000

/-- block B holds a pair -/
def PB (w : World) (B : Nat) (x y : Int) : Prop := w.heap[B]? = some (.cells #[.int .i64 x, .int .i64 y] 88 (0, 0))
section
variable {w w' : World} {B : Nat} {x y : Int}
theorem PB.lt (h : PB w B x y) : B < w.heap.size := (Array.getElem?_eq_some_iff.1 h).1
theorem PB.cx (h : PB w B x y) : w.cell? ⟨B, 0, none⟩ = some (.int .i64 x) := by simp [World.cell?, show w.heap[B]? = _ from h]
theorem PB.cy (h : PB w B x y) : w.cell? ⟨B, 1, none⟩ = some (.int .i64 y) := by simp [World.cell?, show w.heap[B]? = _ from h]
theorem PB.kept {row : Option Nat} (h : PB w B x y) (hg : w.grownBy w' row) (hne : some B ≠ row) : PB w' B x y := (hg.block B h.lt hne).trans h
theorem PB.alloc (h : PB w B x y) (o : Obj) : PB (w.alloc o) B x y := h.kept (World.grownBy_alloc w o none) (by simp)
theorem PB.ne {B' i : Nat} (h : PB w B x y) (hne : B ≠ B') (u : Value) : PB (w.setCell ⟨B', i, none⟩ u) B x y := (Below.heap_setCell _ _ _ _ hne).trans h
theorem PB.new (w : World) (x y : Int) : PB (w.alloc (.cells #[.int .i64 x, .int .i64 y] 88)) w.heap.size x y := World.alloc_heap_new w _
theorem PB.not_row {e : TypeId} {base size k : Nat} {u : Value} {xs : List Value} (h : PB w B x y) (hte : 88 ≠ e) (hr : w.ownsRow base e size u k xs) : some B ≠ u.ownBlock := by
  rcases hr.2 with ⟨rfl, _⟩ | ⟨g, cap, cur, rfl, _, hgb, _⟩
  · simp [Value.ownBlock]
  · intro e'
    obtain rfl : B = g := by simpa [Value.ownBlock] using e'
    have := (show w.heap[B]? = _ from h).symm.trans hgb
    simp at this
    exact hte this.2
end

/-- the graph so far: nodes n, edges es, in block G -/
def GrI (G n : Nat) (w4 w : World) (es : List (Int × Int)) : Prop :=
  ∃ v, GrB w G n v ∧ w.ownsRow (G + 1) 36 2 v es.length (edV es) ∧ Below G w4 w

theorem GrI.alloc {G n : Nat} {w4 w : World} {es : List (Int × Int)} (h : GrI G n w4 w es) (hG : G < w4.heap.size) (o : Obj) : GrI G n w4 (w.alloc o) es := by
  obtain ⟨v, h1, h2, h3⟩ := h
  exact ⟨v, h1.alloc o, h2.alloc o, h3.alloc (by have := h3.size; omega) o⟩

/-- an edge is appended -/
theorem gr_step {G n : Nat} {w4 W w7 : World} {L : List (Int × Int)} {v v7 : Value} {x y : Int} {o1 o2 : Obj} (hgr : GrB W G n v) (hrow : W.ownsRow (G + 1) 36 2 v L.length (edV L)) (hbr : Below G w4 W)
    (hown7 : w7.ownsRow (G + 1) 36 2 v7 (L.length + 1) (edV L ++ [.int .i64 x, .int .i64 y])) (hgrow : ((W.alloc o1).alloc o2).grownBy w7 v.ownBlock) :
    GrI G n w4 (w7.setCell ⟨G, 1, none⟩ v7) (L ++ [(x, y)]) ∧ GrB w7 G n v ∧ (∀ B a b, PB W B a b → PB (w7.setCell ⟨G, 1, none⟩ v7) B a b) := by
  have h1 : GrB w7 G n v := ((hgr.alloc o1).alloc o2).kept hgrow (hgr.not_row (by decide) hrow)
  refine ⟨⟨v7, h1.set v7, ?_, ?_⟩, h1, fun B a b hp => ?_⟩
  · rw [edV_snoc, List.length_append, List.length_singleton]
    exact ownsRow_setCell_other hown7 (h1.not_row (by decide) hown7).symm v7
  · have hlt := hgr.lt
    exact ((((hbr.alloc (by omega) o1).alloc (by simp; omega) o2).grown hgrow (by simp; omega) fun j ej => by have := (hrow.lt j ej).1; omega).setCell (p := ⟨G, 1, none⟩) (Nat.le_refl _) v7)
  · have hne : B ≠ G := fun e => by
      subst e
      have := (show W.heap[B]? = _ from hp).symm.trans hgr
      simp at this
    exact (((hp.alloc o1).alloc o2).kept hgrow (hp.not_row (by decide) hrow)).ne hne _

set_option maxHeartbeats 1000000 in
theorem graph_few (T : Tm) (h : Hd) (w : World) (hT : TIn w w.heap.size T h) (hs : T.sz ≤ 200) :
    Calls Tryd.prog 21 #[.agg h.cells] w fun e w' => ∃ A c, e = .returned (.tuple #[.agg #[.int .i64 T.sz, .slice A T.eds.length c], .int .i64 0]) ∧ w'.ownsRow w.heap.size 36 2 (.slice A T.eds.length c) T.eds.length (edV T.eds) ∧ Below w.heap.size w w' := by
  have key : ∃ w1, w1 = (((w.alloc (.cells h.cells 51)).alloc (.cells #[.int .i64 0, .slice none 0 0] 24)).alloc (.cells #[] 84)) ∧ Below w.heap.size w w1 ∧ TB 51 w1 w.heap.size h ∧ GrB w1 (w.heap.size + 1) 0 (.slice none 0 0) ∧ LimI (w.heap.size + 1 + 1) w1 := by
    refine ⟨_, rfl, (((Below.refl _ _).alloc (Nat.le_refl _) _).alloc (by simp) _).alloc (by simp; omega) _, ((TB.new _ _ _).alloc _).alloc _, ?_, ?_⟩
    · have : GrB ((w.alloc (.cells h.cells 51)).alloc (.cells #[.int .i64 0, .slice none 0 0] 24)) (w.heap.size + 1) 0 (.slice none 0 0) := by
        have := World.alloc_heap_new (w.alloc (.cells h.cells 51)) (.cells #[.int .i64 0, .slice none 0 0] 24)
        rw [World.size_alloc] at this
        exact this
      exact this.alloc _
    · have := World.alloc_heap_new ((w.alloc (.cells h.cells 51)).alloc (.cells #[.int .i64 0, .slice none 0 0] 24)) (.cells #[] 84)
      rw [World.size_alloc, World.size_alloc] at this
      exact this
  obtain ⟨w1, hw1, hb1, ht1, hg1, hI1⟩ := key
  have hT1 : TIn w1 (w.heap.size + 1 + 1) T h := (hT.below hb1 (Nat.le_refl _)).more (by omega)
  have hc := read_any (limR (w.heap.size + 1 + 1)) T w1 w.heap.size 0 h () 0 ht1.at (by omega) hT1 hI1 (by omega)
  rw [(told_lim T 0 (by omega)).1 (by omega), Nat.zero_add] at hc
  dsimp only at hc
  have hsz1 : w.heap.size + 1 + 1 < w1.heap.size := hI1.lt
  obtain ⟨n, hn⟩ : ∃ n, n = T.sz := ⟨_, rfl⟩
  have HM : Hid (∀ w2, Below (w.heap.size + 1 + 1) w1 w2 → Calls Tryd.prog 40 #[.agg h.cells] w2 fun e w' => ∃ A c xs, e = .returned (.slice A n c) ∧ w'.ownsRow w2.heap.size 88 2 (.slice A n c) n xs ∧ Hid (Filled xs n T.posN) ∧ Below w2.heap.size w2 w') := Lib.hid fun w2 hb2 => by
    have hle : w.heap.size + 1 + 1 ≤ w2.heap.size := by have := hb2.size; omega
    have := marks_any T h w2 ((hT1.below hb2 (Nat.le_refl _)).more hle) (by omega)
    rw [hn]
    exact this.mono fun e w' ⟨A, c, xs, h1, h2, h3, h4⟩ => ⟨A, c, xs, h1, h2, Lib.hid h3, h4⟩
  have hlt : w.heap.size + 1 < w.heap.size + 1 + 1 := by omega
  have HT2 : Hid (∀ w2, Below (w.heap.size + 1 + 1) w1 w2 → TB 51 w2 w.heap.size h ∧ GrB w2 (w.heap.size + 1) 0 (.slice none 0 0)) := Lib.hid fun w2 hb2 => ⟨(hb2.block _ (by omega)).trans ht1, (hb2.block _ hlt).trans hg1⟩
  rw [← hn] at hc hs
  have HC : Hid (Calls Tryd.prog 39 #[.pointer (some ⟨w.heap.size, 0, none⟩), .int .i64 0, .iface 80 (.pointer (some ⟨w.heap.size + 1 + 1, 0, none⟩))] w1 _) := Lib.hid hc
  obtain ⟨k, c, x, l, A, m, cap⟩ := h
  dsimp only [Hd.cells] at hw1 HM ⊢
  obtain ⟨i0, hi, hz0, hz1, hz2⟩ := Tryd.infoEdP
  have HN := Lib.hid hn
  have HS1 := Lib.hid hsz1
  have HB1 := Lib.hid hb1
  clear hc hT1 hT ht1 hI1 hg1 hsz1 hb1 hn
  go_enter Tryd.func21, Tryd.ntmps21
  go_wp2_with (first
    | (rw [← hw1]; refine HC.out.mono ?_; rintro e w2 ⟨rfl, _, hb2⟩; obtain ⟨ht2, hg2⟩ := HT2.out w2 hb2; have k0 := ht2.c0; have k1 := ht2.c1; have k2 := ht2.c2; have k3 := ht2.c3; have k4 := ht2.c4; dsimp only at k0 k1 k2 k3 k4; have HMM := Lib.hid (HM.out w2 hb2))
    | (go_at_call 40; refine HMM.out.mono ?_; rintro e w3 ⟨Am, cm, xs, rfl, hom, hfm, hb3⟩)
    | fail)
  have hw2 : w.heap.size + 1 + 1 < w2.heap.size := Nat.lt_of_lt_of_le HS1.out hb2.size
  have hg3 : GrB w3 (w.heap.size + 1) 0 (.slice none 0 0) := (hb3.block _ (by omega)).trans hg2
  have hw3 : w2.heap.size ≤ w3.heap.size := hb3.size
  have hbw3 : Below w.heap.size w w3 := HB1.out.trans ((hb2.mono (by omega)).trans (hb3.mono (by omega)))
  obtain ⟨G, hG⟩ : ∃ G, G = w3.heap.size := ⟨_, rfl⟩
  obtain ⟨w4, hw4⟩ : ∃ w4, w4 = w3.alloc (.cells #[.int .i64 (n : Int), .slice none 0 0] 24) := ⟨_, rfl⟩
  have hgr4 : GrB w4 G n (.slice none 0 0) := by rw [hw4, hG]; exact World.alloc_heap_new w3 _
  have hbw4 : Below w.heap.size w w4 := by rw [hw4]; exact hbw3.alloc (by omega) _
  have hg4 : GrB w4 (w.heap.size + 1) 0 (.slice none 0 0) := by rw [hw4]; exact hg3.alloc _
  have hom4 := hom.alloc (.cells #[.int .i64 (n : Int), .slice none 0 0] 24)
  rw [← hw4] at hom4
  have hob : ∀ j, (Value.slice Am n cm).ownBlock = some j → j < G := fun j ej => by rw [hG]; exact (hom.lt j ej).2
  have HI4 : Hid (GrI G n w4 w4 (T.edK 0 0)) := Lib.hid ⟨_, hgr4, World.ownsRow_nil _ _ _ _, Below.refl _ _⟩
  have HG4L : Hid (G < w4.heap.size) := Lib.hid hgr4.lt
  have HGW : Hid (w.heap.size + 1 < G ∧ w.heap.size ≤ G) := Lib.hid ⟨by omega, by omega⟩
  rw [← hw4, ← hG]
  have HOM := Lib.hid hom4
  have HOB := Lib.hid hob
  have HBW4 := Lib.hid hbw4
  have HG4 := Lib.hid hg4
  clear hom hom4 hob hb2 hb3 hg2 hg3 hw2 hw3 hbw3 hG hw4 hgr4 hbw4 hg4 hw1 ht2 k0 k1 k2 k3 k4 HMM
  go_loopw [29] (fun i wr => ∃ k : Nat, k ≤ n ∧ i = .int .i64 k ∧ Hid (GrI G n w4 wr (T.edK k 0))) (fun i _ => n - (RowKit.intOf i).toNat)
  case atStart => exact ⟨0, Nat.zero_le _, rfl, HI4⟩
  case round =>
    obtain ⟨k, hk, rfl, hI⟩ := hrel
    by_cases hlt' : k < n
    · obtain ⟨v, hgr, hrow, hbr⟩ := hI.out
      obtain ⟨g, gcap, hAe, hgb, hgl⟩ := HOM.out.form (by omega)
      injection hAe with hA2 _ hc2
      subst hA2
      subst hc2
      have hpr := own_below HOM.out hbr HOB.out
      have hcap := hpr.2
      have hx0 : wr.cell? ⟨g, k * 2, none⟩ = some (.int .i64 (k : Int)) := by rw [hpr.cellAt (k * 2) (by omega)]; exact (hfm.out k hlt').1
      have hx1 : wr.cell? ⟨g, k * 2 + 1, none⟩ = some (.int .i64 (T.posN k)) := by rw [hpr.cellAt (k * 2 + 1) (by omega)]; exact (hfm.out k hlt').2
      have hncap : n ≤ cm := by
        rcases hpr.2 with ⟨h1, _⟩ | ⟨_, _, _, h1, _, _, h4, _⟩
        · cases h1
        · injection h1 with _ _ h5
          omega
      have n1 : (0 : Int) ≤ (k : Int) := by omega
      have n2 : (k : Int) < (n : Int) := by omega
      have n3 : (k : Int) + 1 ≤ (n : Int) := by omega
      have hIa := hI
      clear hcap hpr hgr hrow hbr hI
      by_cases hcm : k + 1 = cm
      · have hz : n - (k + 1) = 0 := by omega
        go_wp2_with fail
        have hI5 := hIa.out.alloc HG4L.out (.cells #[.int .i64 (k : Int), .int .i64 (T.posN k)] 88)
        have HI5 := Lib.hid hI5
        obtain ⟨w5, hw5⟩ : ∃ w5, w5 = wr.alloc (.cells #[.int .i64 (k : Int), .int .i64 (T.posN k)] 88) := ⟨_, rfl⟩
        rw [← hw5] at HI5 ⊢
        clear hI5 hw5 hIa
        go_loopw [39] (fun i wr' => i = .int .i64 0 ∧ Hid (GrI G n w4 wr' (T.edK k 0))) (fun _ _ => 0)
        case atStart => exact ⟨rfl, HI5⟩
        case round =>
          obtain ⟨rfl, hI6⟩ := hrel
          go_wp2_with fail
          go_roundw
          case rel => exact ⟨k + 1, by omega, by go_num, Lib.hid (by rw [T.edK_row, ← T.edK_low k (k + 1) (Nat.le_refl _), show k + 1 = T.sz by have := HN.out; omega] at *; exact hI6.out)⟩
          case measure => simp [RowKit.intOf]; omega
      · have hpc : ∀ W, Below G w4 W → ∀ q, q < n → W.cell? ⟨g, q * 2, none⟩ = some (.int .i64 (q : Int)) ∧ W.cell? ⟨g, q * 2 + 1, none⟩ = some (.int .i64 (T.posN q)) := fun W hW q hq => by
          have hr := own_below HOM.out hW HOB.out
          rw [hr.cellAt (q * 2) (by omega), hr.cellAt (q * 2 + 1) (by omega)]
          exact hfm.out q hq
        have HPC := Lib.hid hpc
        have hp5 := PB.new wr (k : Int) (T.posN k)
        have hI5 := hIa.out.alloc HG4L.out (.cells #[.int .i64 (k : Int), .int .i64 (T.posN k)] 88)
        rw [← T.edK_low k (k + 1) (Nat.le_refl _)] at hI5
        obtain ⟨M, hM⟩ : ∃ M, M = n - (k + 1) := ⟨_, rfl⟩
        have hM2 : M = n - (k + 1) := hM
        have HM2 := Lib.hid hM2
        have hMb : M ≤ 200 := by omega
        have hnk : n - (k + 1) = M := hM.symm
        clear hpc hM hM2
        go_wp2_with fail
        obtain ⟨w5, hw5⟩ : ∃ w5, w5 = wr.alloc (.cells #[.int .i64 (k : Int), .int .i64 (T.posN k)] 88) := ⟨_, rfl⟩
        obtain ⟨B5, hB5⟩ : ∃ B5, B5 = wr.heap.size := ⟨_, rfl⟩
        rw [← hw5, ← hB5] at hp5
        rw [← hw5] at hI5
        rw [← hw5, ← hB5]
        have HI5 := Lib.hid hI5
        have HP5 := Lib.hid hp5
        have HNK := Lib.hid hnk
        clear hI5 hp5 hw5 hB5 hIa hx0 hx1 hnk
        go_loopw [39] (fun i wr' => ∃ j : Nat, j ≤ M ∧ i = .int .i64 j ∧ Hid (GrI G n w4 wr' (T.edK k (k + 1 + j))) ∧ Hid (PB wr' B5 (k : Int) (T.posN k))) (fun i _ => M - (RowKit.intOf i).toNat)
        case atStart => exact ⟨0, Nat.zero_le _, rfl, HI5, HP5⟩
        case round =>
          obtain ⟨j, hj, rfl, hI6, hp6⟩ := hrel
          by_cases hjM : j < M
          · obtain ⟨q, hq⟩ : ∃ q, q = k + 1 + j := ⟨_, rfl⟩
            have hqn : q < n := by have := HM2.out; omega
            obtain ⟨v6, hgr6, hrow6, hbr6⟩ := hI6.out
            obtain ⟨hy0, hy1⟩ := HPC.out wr hbr6 q hqn
            have e0 : (k + 1) * 2 + j * 2 = q * 2 := by omega
            have n4 : (0 : Int) ≤ (j : Int) := by omega
            have n5 : (j : Int) < (M : Int) := by omega
            have hpx := hp6.out.cx
            have hpy := hp6.out.cy
            have hlt6 := hp6.out.lt
            have hbef := T.bef_pos (k : Int) (q : Int) (by omega) (by have := HN.out; omega) (by omega) (by have := HN.out; omega)
            rw [decide_eq_true (show (k : Int) < (q : Int) by omega), Bool.true_and] at hbef
            by_cases hpos : T.posN k < T.posN q
            · have hyes : T.edK k (q + 1) = T.edK k q ++ [((k : Int), (q : Int))] := T.edK_yes k q (by rw [hbef]; exact decide_eq_true hpos)
              have hlen := T.edK_len (by have := HN.out; omega) k q (by omega) (by omega)
              rw [← hq] at hrow6
              obtain ⟨L, hL⟩ : ∃ L, L = (T.edK k q).length := ⟨_, rfl⟩
              rw [← hL] at hrow6 hlen
              have hin1 : L + 1 ≤ maxLen := by unfold maxLen; omega
              have hin2 : (L + 1) * 16 ≤ 140737488355328 := by omega
              have hnew : ((wr.alloc (.cells #[.int .i64 (q : Int), .int .i64 (T.posN q)] 88)).alloc (.cells #[.int .i64 (k : Int), .int .i64 (q : Int)] 36)).heap[wr.heap.size + 1]? = some (.cells #[.int .i64 (k : Int), .int .i64 (q : Int)] 36 (0, 0)) := by
                have := World.alloc_heap_new (wr.alloc (.cells #[.int .i64 (q : Int), .int .i64 (T.posN q)] 88)) (.cells #[.int .i64 (k : Int), .int .i64 (q : Int)] 36)
                rw [World.size_alloc] at this
                exact this
              have HNW := Lib.hid hnew
              have hbs : G + 1 ≤ ((wr.alloc (.cells #[.int .i64 (q : Int), .int .i64 (T.posN q)] 88)).alloc (.cells #[.int .i64 (k : Int), .int .i64 (q : Int)] 36)).heap.size := by
                have := hgr6.lt
                simp
                omega
              have HBS := Lib.hid hbs
              have hge := hgr6.e
              have hglt := hgr6.lt
              have HROW := Lib.hid ((hrow6.alloc (.cells #[.int .i64 (q : Int), .int .i64 (T.posN q)] 88)).alloc (.cells #[.int .i64 (k : Int), .int .i64 (q : Int)] 36))
              have HST : Hid (∀ w7 v7, w7.ownsRow (G + 1) 36 2 v7 (L + 1) (edV (T.edK k q) ++ [.int .i64 (k : Int), .int .i64 (q : Int)]) → ((wr.alloc (.cells #[.int .i64 (q : Int), .int .i64 (T.posN q)] 88)).alloc (.cells #[.int .i64 (k : Int), .int .i64 (q : Int)] 36)).grownBy w7 v6.ownBlock →
                  Hid (GrI G n w4 (w7.setCell ⟨G, 1, none⟩ v7) (T.edK k (k + 1 + (j + 1))) ∧ PB (w7.setCell ⟨G, 1, none⟩ v7) B5 (k : Int) (T.posN k)) ∧ w7.cell? ⟨G, 1, none⟩ = some v6 ∧ w7.frozen? ⟨G, 1, none⟩ = false) := Lib.hid fun w7 v7 h1 h2 => by
                rw [hL] at h1
                obtain ⟨p1, p2, p3⟩ := gr_step hgr6 (by rw [← hL]; exact hrow6) hbr6 h1 h2
                rw [← hyes] at p1
                refine ⟨Lib.hid ⟨?_, p3 _ _ _ hp6.out⟩, p2.e, p2.frozen 1⟩
                rw [show k + 1 + (j + 1) = q + 1 by omega]
                exact p1
              have hrowV := own_form2 hrow6
              obtain ⟨A6, c6, rfl⟩ := hrowV
              clear hI6 hp6 hgr6 hrow6 hbr6 hyes hlen hL hnew hbs hbef hq hqn
              go_wp2_with (first
                | (at_builtin; refine wpList_append_lies _ rfl _ _ _ rfl (G + 1) 36 i0 _ 2 16 Tryd.underlying22 hi hz0 hz1 hz2 rfl (by omega) (.slice A6 L c6) L (edV (T.edK k q)) rfl HROW.out ⟨wr.heap.size + 1, 0, none⟩ 1 1 [.int .i64 (k : Int), .int .i64 (q : Int)] rfl rfl (World.news_of_block (cs := #[.int .i64 (k : Int), .int .i64 (q : Int)]) (t := 36) (fr := (0, 0)) HNW.out) (by simp [Value.oneCell']) (by omega) hin1 hin2 HBS.out _ rfl ?_; intro gg cap7 w7 hown7 hgrow7 hat7 hlt7; obtain ⟨hst, hc7, hf7⟩ := HST.out w7 _ hown7 hgrow7)
                | fail)
              go_roundw
              case rel => exact ⟨j + 1, by omega, by go_num, Lib.hid hst.out.1, Lib.hid hst.out.2⟩
              case measure => simp [RowKit.intOf]; omega
            · have hno : T.edK k (q + 1) = T.edK k q := T.edK_no k q (by rw [hbef]; exact decide_eq_false hpos)
              have hED : T.edK k (k + 1 + j) = T.edK k (k + 1 + (j + 1)) := by rw [← hq, show k + 1 + (j + 1) = q + 1 by omega, hno]
              have hI7a := hI6.out
              rw [hED] at hI7a
              have hI7 := hI7a.alloc HG4L.out (.cells #[.int .i64 (q : Int), .int .i64 (T.posN q)] 88)
              have HI7 := Lib.hid hI7
              have HP7 := Lib.hid (hp6.out.alloc (.cells #[.int .i64 (q : Int), .int .i64 (T.posN q)] 88))
              clear hI6 hp6 hgr6 hrow6 hbr6 hI7 hI7a hED hno hbef hq hqn
              go_wp2_with fail
              go_roundw
              case rel => exact ⟨j + 1, by omega, by go_num, HI7, HP7⟩
              case measure => simp [RowKit.intOf]; omega
          · obtain rfl : j = M := by omega
            have hI8 := hI6.out
            go_wp2_with fail
            go_roundw
            case rel =>
              refine ⟨k + 1, by omega, by go_num, Lib.hid ?_⟩
              rw [T.edK_row]
              have h1 := HM2.out
              have h2 := HN.out
              rw [show T.sz = k + 1 + j by omega]
              exact hI8
            case measure => simp [RowKit.intOf]; omega
    · obtain rfl : k = n := by omega
      obtain ⟨v, hgr, hrow, hbr⟩ := hI.out
      have h2 := HN.out
      have hn2 := hgr.n
      have he2 := hgr.e
      have hg5 : GrB wr (w.heap.size + 1) 0 (.slice none 0 0) := (hbr.block _ HGW.out.1).trans HG4.out
      have g0 := hg5.n
      have g1 := hg5.e
      have gf := hg5.frozen
      have hgne : G ≠ w.heap.size + 1 := by have := HGW.out.1; omega
      obtain ⟨A9, c9, rfl⟩ := own_form2 hrow
      have HROW := Lib.hid hrow
      have HBR := Lib.hid hbr
      have HG5 := Lib.hid hg5
      have HNN := Lib.hid h2
      obtain ⟨L, hL⟩ : ∃ L, L = (T.edK k 0).length := ⟨_, rfl⟩
      rw [← hL] at he2
      have HL := Lib.hid hL
      clear hI hgr hrow hbr hg5 h2 hL
      go_wp2_with fail
      have hg6 := (HG5.out.set0 (k : Int)).set (.slice A9 L c9)
      refine bodyPost_ret (results_gr rfl _ _ (w.heap.size + 1) _ _ rfl hg6) rfl ?_
      have hL2 := HL.out
      have hk2 := HNN.out
      unfold Tm.eds
      rw [← hk2, ← hL2]
      have hown := HROW.out
      rw [← hL2] at hown
      have hne1 : (Value.slice A9 L c9).ownBlock ≠ some (w.heap.size + 1) := fun e => by
        have := (hown.lt _ e).1
        have := HGW.out.1
        omega
      refine ⟨A9, c9, rfl, own_more (ownsRow_setCell_other (ownsRow_setCell_other hown hne1 _) hne1 _) (by have := HGW.out.2; omega), ?_⟩
      exact ((HBW4.out.trans (HBR.out.mono HGW.out.2)).setCell (p := ⟨w.heap.size + 1, 0, none⟩) (by dsimp only; omega) _).setCell (p := ⟨w.heap.size + 1, 1, none⟩) (by dsimp only; omega) _
end Go.Proofs.YtipihchlhkjdjaaDoor

namespace Go.Proofs.YtipihchlhkjdjaaDoor
open Go.RowKit Go.Deep
set_option maxRecDepth 100000

/-- an edge is appended -/
theorem gr_step1 {G n : Nat} {w4 W w7 : World} {L : List (Int × Int)} {v v7 : Value} {x y : Int} {o1 : Obj} (hgr : GrB W G n v) (hrow : W.ownsRow (G + 1) 36 2 v L.length (edV L)) (hbr : Below G w4 W)
    (hown7 : w7.ownsRow (G + 1) 36 2 v7 (L.length + 1) (edV L ++ [.int .i64 x, .int .i64 y])) (hgrow : (W.alloc o1).grownBy w7 v.ownBlock) :
    GrI G n w4 (w7.setCell ⟨G, 1, none⟩ v7) (L ++ [(x, y)]) ∧ GrB w7 G n v := by
  have h1 : GrB w7 G n v := (hgr.alloc o1).kept hgrow (hgr.not_row (by decide) hrow)
  refine ⟨⟨v7, h1.set v7, ?_, ?_⟩, h1⟩
  · rw [edV_snoc, List.length_append, List.length_singleton]
    exact ownsRow_setCell_other hown7 (h1.not_row (by decide) hown7).symm v7
  · have hlt := hgr.lt
    exact (((hbr.alloc (by omega) o1).grown hgrow (by simp; omega) fun j ej => by have := (hrow.lt j ej).1; omega).setCell (p := ⟨G, 1, none⟩) (Nat.le_refl _) v7)

/-- DGraph's opening -/
theorem dg_open (h : Hd) (w : World) : ∃ w1, w1 = (w.alloc (.cells h.cells 51)).alloc (.cells #[.int .i64 0, .slice none 0 0] 24) ∧ Below w.heap.size w w1 ∧ TB 51 w1 w.heap.size h ∧ GrB w1 (w.heap.size + 1) 0 (.slice none 0 0) ∧ w1.heap.size = w.heap.size + 1 + 1 := by
  refine ⟨_, rfl, ((Below.refl _ _).alloc (Nat.le_refl _) _).alloc (by simp) _, (TB.new _ _ _).alloc _, ?_, by simp⟩
  have := World.alloc_heap_new (w.alloc (.cells h.cells 51)) (.cells #[.int .i64 0, .slice none 0 0] 24)
  rw [World.size_alloc] at this
  exact this

end Go.Proofs.YtipihchlhkjdjaaDoor
