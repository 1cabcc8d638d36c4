/-
  slices.Equal over pairs.
  The law's own example, alive4, is alive.
  The law SpClosed, as a walk.
  slices.Equal over ints, for every two slices of ints.
-/
import Derived.Test.YtafdpimkfkddaaaDoorSpMs
import Derived.Deep.QuietTactic
import Derived.BigQuiet
import Derived.Test.YtafdpimkfkddaaaDoorSpCt
import Derived.Test.YtafdpimkfkddaaaDoorSpLawGr
import Derived.Test.YtafdpimkfkddaaaDoorBsOps
namespace Go.Proofs.YtafdpimkfkddaaaDoor
open Go.RowKit
set_option maxRecDepth 100000

theorem below_drawsP {B : Nat} {a w : World} (h : Below B a w) : ∀ n, Below B a (w.drewN n)
  | 0 => h
  | n + 1 => (below_drawsP h n).drew

/-- a slice of pairs -/
structure RdPr (w : World) (B : Nat) (A : Option Addr) (n : Nat) (f : Nat → Int) : Prop where
  rd : 0 < n → ∃ b off, A = some ⟨b, off, none⟩ ∧ b < B ∧ ∀ k, k < n → w.cell? ⟨b, off + k * 2, none⟩ = some (.int .i64 (k : Int)) ∧ w.cell? ⟨b, off + k * 2 + 1, none⟩ = some (.int .i64 (f k))
theorem own_rdPr {w : World} {base n c : Nat} {e : TypeId} {A : Option Addr} {xs : List Value} {f : Nat → Int} (h : w.ownsRow base e 2 (.slice A n c) n xs) (hf : Filled xs n f) : RdPr w w.heap.size A n f := by
  refine ⟨fun hn => ?_⟩
  rcases h.2 with ⟨_, h0⟩ | ⟨g, cap, cur, hv, hb, hg, _⟩
  · omega
  · injection hv with hA _ hc
    subst hA
    subst hc
    refine ⟨g, 0, rfl, (Array.getElem?_eq_some_iff.1 hg).1, fun k hk => ?_⟩
    rw [Nat.zero_add, h.cellAt (k * 2) (by omega), h.cellAt (k * 2 + 1) (by omega)]
    exact hf k hk

set_option maxHeartbeats 1000000 in
theorem equalPr_same (A A' : Option Addr) (c c' n : Nat) (f : Nat → Int) (w : World) (hn : n ≤ 1048576) (hx : RdPr w w.heap.size A n f) (hy : RdPr w w.heap.size A' n f) :
    Calls Tryd.prog 24 #[.slice A n c, .slice A' n c'] w fun e w' => e = .returned (.bool true) ∧ Below w.heap.size w w' := by
  have hl : ((n : Int) != (n : Int)) = false := by simp
  go_enter Tryd.func24, Tryd.ntmps24
  go_wp2
  go_loopw [13] (fun i wr => ∃ k q : Nat, k ≤ n ∧ i = .int .i64 k ∧ wr = w.drewN q) (fun i _ => n - (intOf i).toNat)
  case atStart => exact ⟨0, 0, Nat.zero_le _, rfl, rfl⟩
  case round =>
    obtain ⟨k, q, hk, rfl, rfl⟩ := hrel
    by_cases hlt : k < n
    · obtain ⟨b, off, rfl, _, hc⟩ := hx.rd (by omega)
      obtain ⟨b', off', rfl, _, hc'⟩ := hy.rd (by omega)
      obtain ⟨ha1, ha2⟩ := hc k hlt
      obtain ⟨hb1, hb2⟩ := hc' k hlt
      clear hc hc'
      go_wp2
      go_quiet (fail)
      go_wp2
      go_roundw
      case rel => exact ⟨k + 1, _, by omega, by go_num, rfl⟩
      case measure => simp [intOf]; omega
    · go_wp2
      go_ret
      exact ⟨rfl, below_drawsP (Below.refl _ _) q⟩
end Go.Proofs.YtafdpimkfkddaaaDoor

namespace Go.Proofs.YtafdpimkfkddaaaDoor
open Go.RowKit
set_option maxRecDepth 100000

theorem results_tm {fn : Func} {p : Tmp} (h : fn.results = #[.cell p 26]) (tmps : Array Value) (w : World) (g : Nat) (hd : Hd)
    (hp : tmps.getD p undef = .pointer (some ⟨g, 0, none⟩)) (hg : TB 26 w g hd) :
    (results fn tmps).run Tryd.prog w = .ok (.agg hd.cells) w := by
  have hp' : tmps[p]?.getD undef = .pointer (some ⟨g, 0, none⟩) := by simpa using hp
  simp [results, h, hp', asAddr, run_loadVar_row w g 26 26 hd.cells (0, 0) _ hg Tryd.underlying26 rfl Tryd.infoTm]

theorem leafK_any (n : Int) (w : World) :
    Calls Tryd.prog 22 #[.int .i64 n] w fun e w' => e = .returned (.agg #[.int .i64 1, .int .i64 n, .bool false, .int .i64 0, .slice none 0 0]) ∧ Below w.heap.size w w' := by
  go_enter Tryd.func22, Tryd.ntmps22
  go_wp2_with fail
  exact bodyPost_ret (results_tm rfl _ _ w.heap.size ⟨1, n, false, 0, none, 0, 0⟩ rfl (TB.new w 26 ⟨1, n, false, 0, none, 0, 0⟩)) rfl ⟨rfl, (Below.refl _ _).alloc (Nat.le_refl _) _⟩

/-- the example: two leaves side by side, a third one behind them -/
def T4 : Tm := .seq (.par (.one (1, false, 0)) (.one (2, false, 0))) (.one (3, false, 0))

/-- two headers in a row -/
def two5 (a b : Hd) : Array Value := #[.int .i64 a.k, .int .i64 a.c, .bool a.x, .int .i64 a.l, .slice a.A a.n a.cap, .int .i64 b.k, .int .i64 b.c, .bool b.x, .int .i64 b.l, .slice b.A b.n b.cap]
theorem two5_at {w : World} {B : Nat} {a b : Hd} {T : TypeId} (h : w.heap[B]? = some (.cells (two5 a b) T (0, 0))) : HdAt w B 0 a ∧ HdAt w B (0 + 5) b := by
  constructor
  · constructor <;> simp only [World.cell?, h] <;> rfl
  · constructor <;> simp only [World.cell?, h] <;> rfl

theorem RdPr.step {w w' : World} {B C : Nat} {A : Option Addr} {n : Nat} {f : Nat → Int} (h : RdPr w B A n f) (hb : Below C w w') (hc : B ≤ C) : RdPr w' B A n f := by
  refine ⟨fun hn => ?_⟩
  obtain ⟨b, off, h1, h2, h3⟩ := h.rd hn
  refine ⟨b, off, h1, h2, fun k hk => ?_⟩
  have e := hb.block b (by omega)
  have hcell : ∀ o, w'.cell? ⟨b, o, none⟩ = w.cell? ⟨b, o, none⟩ := fun o => by simp only [World.cell?, e]
  rw [hcell, hcell]
  exact h3 k hk
theorem RdPr.more {w : World} {B C : Nat} {A : Option Addr} {n : Nat} {f : Nat → Int} (h : RdPr w B A n f) (hc : B ≤ C) : RdPr w C A n f :=
  ⟨fun hn => by obtain ⟨b, off, h1, h2, h3⟩ := h.rd hn; exact ⟨b, off, h1, by omega, h3⟩⟩

theorem own_formA {w : World} {base size n : Nat} {e : TypeId} {v : Value} {xs : List Value} (h : w.ownsRow base e size v n xs) : ∃ A cap, v = .slice A n cap := by
  rcases h.2 with ⟨rfl, rfl⟩ | ⟨g, cap, cur, hv, _⟩
  · exact ⟨_, _, rfl⟩
  · exact ⟨_, _, hv⟩

def h1' : Hd := ⟨1, 1, false, 0, none, 0, 0⟩
def h2' : Hd := ⟨1, 2, false, 0, none, 0, 0⟩
def h3' : Hd := ⟨1, 3, false, 0, none, 0, 0⟩
def hPar (b : Nat) : Hd := ⟨3, 0, false, 0, some ⟨b, 0, none⟩, 2, 2⟩
def hTop (b : Nat) : Hd := ⟨2, 0, false, 0, some ⟨b, 0, none⟩, 2, 2⟩

theorem below_alc (w : World) (o : Obj) : Below w.heap.size w (w.alloc o) := (Below.refl _ w).alloc (Nat.le_refl _) _

theorem T4_in (w2 w3 : World) (hb : Below (w2.alloc (.cells (two5 h1' h2') 26)).heap.size (w2.alloc (.cells (two5 h1' h2') 26)) w3) :
    ∃ W, W = (w3.alloc (.cells (two5 (hPar w2.heap.size) h3') 26)).alloc (.cells (hTop w3.heap.size).cells 26) ∧ TIn W W.heap.size T4 (hTop w3.heap.size) ∧ TB 26 W (w3.heap.size + 1) (hTop w3.heap.size) ∧ Below w2.heap.size w2 W := by
  have hsz : (w2.alloc (.cells (two5 h1' h2') 26)).heap.size = w2.heap.size + 1 := by simp
  rw [hsz] at hb
  have hlt := hb.size
  rw [hsz] at hlt
  have hb3 : Below (w2.heap.size + 1) w3 ((w3.alloc (.cells (two5 (hPar w2.heap.size) h3') 26)).alloc (.cells (hTop w3.heap.size).cells 26)) :=
    ((Below.refl _ _).alloc hlt _).alloc (by simp; omega) _
  have e1 := (hb.trans hb3).block w2.heap.size (by omega)
  rw [World.alloc_heap_new] at e1
  have e2 : ((w3.alloc (.cells (two5 (hPar w2.heap.size) h3') 26)).alloc (.cells (hTop w3.heap.size).cells 26)).heap[w3.heap.size]? = some (.cells (two5 (hPar w2.heap.size) h3') 26 (0, 0)) := by
    have := (below_alc (w3.alloc (.cells (two5 (hPar w2.heap.size) h3') 26)) (.cells (hTop w3.heap.size).cells 26)).block w3.heap.size (by simp)
    rw [this, World.alloc_heap_new]
  have hsW : ((w3.alloc (.cells (two5 (hPar w2.heap.size) h3') 26)).alloc (.cells (hTop w3.heap.size).cells 26)).heap.size = w3.heap.size + 1 + 1 := by simp
  have a1 := two5_at e1
  have a2 := two5_at e2
  refine ⟨_, rfl, ?_, ?_, ((below_alc _ _).mono (Nat.le_refl _)).trans ((hb.trans hb3).mono (by omega))⟩
  · rw [hsW]
    exact ⟨rfl, Nat.le_refl 2, w3.heap.size, 0, hPar w2.heap.size, h3', rfl, by omega, a2.1, a2.2, ⟨rfl, Nat.le_refl 2, w2.heap.size, 0, h1', h2', rfl, by omega, a1.1, a1.2, ⟨rfl, rfl⟩, ⟨rfl, rfl⟩⟩, ⟨rfl, rfl⟩⟩
  · have := TB.new (w3.alloc (.cells (two5 (hPar w2.heap.size) h3') 26)) 26 (hTop w3.heap.size)
    rwa [World.size_alloc] at this

theorem T4_sz : T4.sz = 3 := rfl
theorem T4_lv : T4.lv.length = 3 := rfl
theorem T4_02 : T4.bef 0 2 = true := by decide
theorem T4_01 : T4.bef 0 1 = false := by decide
theorem T4_cnt : T4.cnt = 2 := by simp [T4, Tm.cnt, Tm.sz, ch]
theorem T4_pos0 : T4.posN 0 = 1 := by decide
theorem T4_pos1 : T4.posN 1 = 0 := by decide
theorem T4_pos2 : T4.posN 2 = 2 := by decide

theorem T4_pairs (w8 : World) {A : Option Addr} (h : RdPr w8 w8.heap.size A 3 T4.posN) :
    ∃ W, W = w8.alloc (.cells #[.int .i64 0, .int .i64 1, .int .i64 1, .int .i64 0, .int .i64 2, .int .i64 2] 54) ∧ Below w8.heap.size w8 W ∧ RdPr W W.heap.size (some ⟨w8.heap.size, 0, none⟩) 3 T4.posN ∧ RdPr W W.heap.size A 3 T4.posN := by
  have hb := below_alc w8 (.cells #[.int .i64 0, .int .i64 1, .int .i64 1, .int .i64 0, .int .i64 2, .int .i64 2] 54)
  have e := World.alloc_heap_new w8 (.cells #[.int .i64 0, .int .i64 1, .int .i64 1, .int .i64 0, .int .i64 2, .int .i64 2] 54)
  refine ⟨_, rfl, hb, ⟨fun _ => ⟨w8.heap.size, 0, rfl, by simp, fun k hk => ?_⟩⟩, (h.step hb (Nat.le_refl _)).more hb.size⟩
  simp only [World.cell?, e]
  match k, hk with
  | 0, _ => exact ⟨rfl, by rw [T4_pos0]; rfl⟩
  | 1, _ => exact ⟨rfl, by rw [T4_pos1]; rfl⟩
  | 2, _ => exact ⟨rfl, by rw [T4_pos2]; rfl⟩

set_option maxHeartbeats 4000000 in
theorem alive4_any (w : World) (hTab : Tab w) :
    Calls Tryd.prog 11 #[] w fun e w' => e = .returned (.bool true) ∧ Below w.heap.size w w' := by
  have HL := Lib.hid (fun n w => leafK_any n w)
  have HT := Lib.hid hTab
  clear hTab
  go_enter Tryd.func11, Tryd.ntmps11
  go_wp2_with (first
    | (go_at_call_of 22 (Value.int IntKind.i64 1); refine (HL.out _ _).mono ?_; rintro e w1 ⟨rfl, hb1⟩)
    | (go_at_call_of 22 (Value.int IntKind.i64 2); refine (HL.out _ _).mono ?_; rintro e w2 ⟨rfl, hb2⟩)
    | (go_at_call_of 22 (Value.int IntKind.i64 3); refine (HL.out _ _).mono ?_; rintro e w3 ⟨rfl, hb3⟩)
    | fail)
  obtain ⟨W, hW, hTi, hTb, hbW⟩ := T4_in w2 w3 hb3
  dsimp only [two5, hPar, hTop, h1', h2', h3', Hd.cells] at hW
  rw [← hW]
  have hb : Below w.heap.size w W := hb1.trans ((hb2.trans (hbW.mono hb2.size)).mono hb1.size)
  have hT := HT.out.step hb
  clear hb3 hW hbW hb1 hb2 HT HL
  have hs := T4_sz
  have t0 := hTb.c0
  have t1 := hTb.c1
  have t2 := hTb.c2
  have t3 := hTb.c3
  have t4 := hTb.c4
  refine (leaves_any T4 _ _ hTi (by rw [hs]; omega)).mono ?_
  rintro e w4 ⟨v, rfl, hown, hb4⟩
  obtain ⟨A4, c4, rfl⟩ := own_formA hown
  rw [T4_lv]
  clear hown
  replace hTi := (hTi.below hb4 (Nat.le_refl _)).more hb4.size
  replace hTb : TB 26 _ _ _ := (hb4.block _ hTb.lt).trans hTb
  replace hb := hb.trans (hb4.mono hb.size)
  replace hT := hT.step hb4
  clear t0 t1 t2 t3 t4 hb4
  have t0 := hTb.c0
  have t1 := hTb.c1
  have t2 := hTb.c2
  have t3 := hTb.c3
  have t4 := hTb.c4
  dsimp only [hTop] at t0 t1 t2 t3 t4
  go_wp2_with fail
  refine (before_any T4 _ 0 2 _ hTi (by rw [hs]; omega)).mono ?_
  rw [T4_02]
  rintro e w5 ⟨rfl, hb5⟩
  replace hTi := (hTi.below hb5 (Nat.le_refl _)).more hb5.size
  replace hTb : TB 26 _ _ _ := (hb5.block _ hTb.lt).trans hTb
  replace hb := hb.trans (hb5.mono hb.size)
  replace hT := hT.step hb5
  clear t0 t1 t2 t3 t4 hb5
  have t0 := hTb.c0
  have t1 := hTb.c1
  have t2 := hTb.c2
  have t3 := hTb.c3
  have t4 := hTb.c4
  dsimp only [hTop] at t0 t1 t2 t3 t4
  go_wp2_with fail
  refine (before_any T4 _ 0 1 _ hTi (by rw [hs]; omega)).mono ?_
  rw [T4_01]
  rintro e w6 ⟨rfl, hb6⟩
  replace hTi := (hTi.below hb6 (Nat.le_refl _)).more hb6.size
  replace hTb : TB 26 _ _ _ := (hb6.block _ hTb.lt).trans hTb
  replace hb := hb.trans (hb6.mono hb.size)
  replace hT := hT.step hb6
  clear t0 t1 t2 t3 t4 hb6
  have t0 := hTb.c0
  have t1 := hTb.c1
  have t2 := hTb.c2
  have t3 := hTb.c3
  have t4 := hTb.c4
  dsimp only [hTop] at t0 t1 t2 t3 t4
  go_wp2_with fail
  refine (count_any T4 _ _ hTi (by rw [hs]; omega) hT).mono ?_
  rw [T4_cnt]
  rintro e w7 ⟨rfl, hb7⟩
  replace hTi := (hTi.below hb7 (Nat.le_refl _)).more hb7.size
  replace hTb : TB 26 _ _ _ := (hb7.block _ hTb.lt).trans hTb
  replace hb := hb.trans (hb7.mono hb.size)
  replace hT := hT.step hb7
  clear t0 t1 t2 t3 t4 hb7
  have t0 := hTb.c0
  have t1 := hTb.c1
  have t2 := hTb.c2
  have t3 := hTb.c3
  have t4 := hTb.c4
  dsimp only [hTop] at t0 t1 t2 t3 t4
  go_wp2_with fail
  refine (marks_any T4 _ _ hTi (by rw [hs]; omega)).mono ?_
  rintro e w8 ⟨A8, c8, xs, rfl, hown, hfill, hb8⟩
  have hr8 := own_rdPr hown hfill
  rw [hs] at hr8 ⊢
  replace hb := hb.trans (hb8.mono hb.size)
  clear hb8 t0 t1 t2 t3 t4 hown hfill hT hTi hTb
  go_wp2_with fail
  obtain ⟨w9, hw9, hb9, hr9, hr8'⟩ := T4_pairs w8 hr8
  rw [← hw9]
  clear hw9 hr8
  refine (equalPr_same _ _ _ _ 3 T4.posN w9 (by omega) hr8' hr9).mono ?_
  rintro e w10 ⟨rfl, hb10⟩
  have hbf := hb.trans ((hb9.trans (hb10.mono hb9.size)).mono hb.size)
  go_wp2_with fail
  go_ret
  exact ⟨rfl, hbf⟩
end Go.Proofs.YtafdpimkfkddaaaDoor

namespace Go.Proofs.YtafdpimkfkddaaaDoor
open Go.RowKit
set_option maxRecDepth 100000

set_option maxHeartbeats 2000000 in
theorem spClosedLaw_many (T : Tm) (h : Hd) (w : World) (hT : TIn w w.heap.size T h) (hs : T.sz ≤ 1048576) (hTab : Tab w) (hbig : 200 < T.sz) :
    Calls Tryd.prog 4 #[.agg h.cells] w fun e w' => e = .returned (.bool true) ∧ Below w.heap.size w w' := by
  have key : ∃ w1, w1 = w.alloc (.cells h.cells 26) ∧ Below w.heap.size w w1 ∧ TB 26 w1 w.heap.size h := ⟨_, rfl, (Below.refl _ _).alloc (Nat.le_refl _) _, TB.new _ _ _⟩
  obtain ⟨w1, hw1, hb, ht⟩ := key
  have hs1 : w.heap.size + 1 = w1.heap.size := by rw [hw1]; simp
  have hTi := (hT.below hb (Nat.le_refl _)).more (show w.heap.size ≤ w1.heap.size by omega)
  have hTa : Tab w1 := hTab.step hb
  obtain ⟨k, c, x, l, A, q, cap⟩ := h
  dsimp only [Hd.cells] at hw1 ⊢
  clear hT hTab hs1
  go_enter Tryd.func4, Tryd.ntmps4
  go_wp2_with fail
  rw [← hw1]
  clear hw1
  refine (alive4_any w1 hTa).mono ?_
  rintro e w2 ⟨rfl, hb2⟩
  replace hTi := (hTi.below hb2 (Nat.le_refl _)).more hb2.size
  replace hTa := hTa.step hb2
  replace ht : TB 26 _ _ _ := (hb2.block _ ht.lt).trans ht
  replace hb := hb.trans (hb2.mono hb.size)
  clear hb2
  have t0 := ht.c0
  have t1 := ht.c1
  have t2 := ht.c2
  have t3 := ht.c3
  have t4 := ht.c4
  dsimp only at t0 t1 t2 t3 t4
  go_wp2_with fail
  refine (graph_many T _ _ hTi hs hbig).mono ?_
  rintro e w3 ⟨rfl, hb3⟩
  replace hTi := (hTi.below hb3 (Nat.le_refl _)).more hb3.size
  replace hTa := hTa.step hb3
  replace ht : TB 26 _ _ _ := (hb3.block _ ht.lt).trans ht
  replace hb := hb.trans (hb3.mono hb.size)
  clear hb3
  clear t0 t1 t2 t3 t4
  have t0 := ht.c0
  have t1 := ht.c1
  have t2 := ht.c2
  have t3 := ht.c3
  have t4 := ht.c4
  dsimp only at t0 t1 t2 t3 t4
  obtain ⟨w4, hw4⟩ : ∃ w4, w4 = w3.alloc (.cells #[.int .i64 0, .slice none 0 0] 29) := ⟨_, rfl⟩
  have hb4 : Below w3.heap.size w3 w4 := by rw [hw4]; exact (Below.refl _ _).alloc (Nat.le_refl _) _
  replace hTi := (hTi.below hb4 (Nat.le_refl _)).more hb4.size
  replace ht : TB 26 _ _ _ := (hb4.block _ ht.lt).trans ht
  replace hb := hb.trans (hb4.mono hb.size)
  clear hb4 t0 t1 t2 t3 t4
  have t0 := ht.c0
  have t1 := ht.c1
  have t2 := ht.c2
  have t3 := ht.c3
  have t4 := ht.c4
  dsimp only at t0 t1 t2 t3 t4
  rw [hw4] at t0 t1 t2 t3 t4
  go_wp2_with fail
  rw [← hw4]
  clear t0 t1 t2 t3 t4 hw4
  refine (leaves_any T _ _ hTi hs).mono ?_
  rintro e w5 ⟨v, rfl, hown, hb5⟩
  obtain ⟨A5, c5, rfl⟩ := own_formA hown
  rw [T.lv_len]
  have hbf := hb.trans (hb5.mono hb.size)
  have hlt : decide ((200 : Int) < (T.sz : Int)) = true := decide_eq_true (by omega)
  clear hown
  go_wp2_with fail
  go_ret
  exact ⟨rfl, hbf⟩

/-- what Closure answers on a term's graph -/
def ClosedS (N : Int) (es : List (Int × Int)) : Prop := ∀ (W : World) (A : Option Addr) (c : Nat), RdEg W W.heap.size A es → Tab W →
  Calls Tryd.prog 13 #[.agg #[.int .i64 N, .slice A es.length c]] W fun e w' => ∃ A1 c1, e = .returned (.tuple #[.agg #[.int .i64 N, .slice A1 es.length c1], .int .i64 0]) ∧ RdEg w' w'.heap.size A1 es ∧ Below W.heap.size W w'

set_option maxHeartbeats 2000000 in
theorem spClosedLaw_few (T : Tm) (h : Hd) (w : World) (hT : TIn w w.heap.size T h) (hs : T.sz ≤ 1048576) (hTab : Tab w) (hfew : T.sz ≤ 200) (HC : ClosedS T.sz T.eds) :
    Calls Tryd.prog 4 #[.agg h.cells] w fun e w' => e = .returned (.bool true) ∧ Below w.heap.size w w' := by
  have key : ∃ w1, w1 = w.alloc (.cells h.cells 26) ∧ Below w.heap.size w w1 ∧ TB 26 w1 w.heap.size h := ⟨_, rfl, (Below.refl _ _).alloc (Nat.le_refl _) _, TB.new _ _ _⟩
  obtain ⟨w1, hw1, hb, ht⟩ := key
  have hs1 : w.heap.size + 1 = w1.heap.size := by rw [hw1]; simp
  have hTi := (hT.below hb (Nat.le_refl _)).more (show w.heap.size ≤ w1.heap.size by omega)
  have hTa : Tab w1 := hTab.step hb
  obtain ⟨k, c, x, l, A, q, cap⟩ := h
  dsimp only [Hd.cells] at hw1 ⊢
  clear hT hTab hs1
  go_enter Tryd.func4, Tryd.ntmps4
  go_wp2_with fail
  rw [← hw1]
  clear hw1
  refine (alive4_any w1 hTa).mono ?_
  rintro e w2 ⟨rfl, hb2⟩
  replace hTi := (hTi.below hb2 (Nat.le_refl _)).more hb2.size
  replace hTa := hTa.step hb2
  replace ht : TB 26 _ _ _ := (hb2.block _ ht.lt).trans ht
  replace hb := hb.trans (hb2.mono hb.size)
  clear hb2
  have t0 := ht.c0
  have t1 := ht.c1
  have t2 := ht.c2
  have t3 := ht.c3
  have t4 := ht.c4
  dsimp only at t0 t1 t2 t3 t4
  go_wp2_with fail
  refine (graph_few T _ _ hTi hfew).mono ?_
  rintro e w3 ⟨A3, c3, rfl, hown, hb3⟩
  have hr3 := own_rdEg hown (eds_len T hfew)
  replace hTi := (hTi.below hb3 (Nat.le_refl _)).more hb3.size
  replace hTa := hTa.step hb3
  replace ht : TB 26 _ _ _ := (hb3.block _ ht.lt).trans ht
  replace hb := hb.trans (hb3.mono hb.size)
  clear hb3 hown t0 t1 t2 t3 t4
  go_wp2_with fail
  obtain ⟨w4, hw4⟩ : ∃ w4, w4 = w3.alloc (.cells #[.int .i64 (T.sz : Int), .slice A3 T.eds.length c3] 29) := ⟨_, rfl⟩
  have hb4 : Below w3.heap.size w3 w4 := by rw [hw4]; exact (Below.refl _ _).alloc (Nat.le_refl _) _
  have g4 : GrB w4 w3.heap.size (T.sz : Int) (.slice A3 T.eds.length c3) := by rw [hw4]; exact World.alloc_heap_new w3 _
  replace hTi := (hTi.below hb4 (Nat.le_refl _)).more hb4.size
  replace hTa := hTa.step hb4
  replace ht : TB 26 _ _ _ := (hb4.block _ ht.lt).trans ht
  replace hb := hb.trans (hb4.mono hb.size)
  replace hr3 := (hr3.below hb4).more hb4.size
  clear hb4
  rw [← hw4]
  clear hw4
  refine (HC w4 A3 c3 hr3 hTa).mono ?_
  rintro e w5 ⟨A5, c5, rfl, hr5, hb5⟩
  replace hTi := (hTi.below hb5 (Nat.le_refl _)).more hb5.size
  replace ht : TB 26 _ _ _ := (hb5.block _ ht.lt).trans ht
  replace g4 : GrB _ _ _ _ := (hb5.block _ g4.lt).trans g4
  replace hb := hb.trans (hb5.mono hb.size)
  replace hr3 := (hr3.below hb5).more hb5.size
  clear hb5 hTa
  obtain ⟨w6, hw6⟩ : ∃ w6, w6 = w5.alloc (.cells #[.int .i64 (T.sz : Int), .slice A5 T.eds.length c5] 29) := ⟨_, rfl⟩
  have hb6 : Below w5.heap.size w5 w6 := by rw [hw6]; exact (Below.refl _ _).alloc (Nat.le_refl _) _
  replace hTi := (hTi.below hb6 (Nat.le_refl _)).more hb6.size
  replace ht : TB 26 _ _ _ := (hb6.block _ ht.lt).trans ht
  replace g4 : GrB _ _ _ _ := (hb6.block _ g4.lt).trans g4
  replace hb := hb.trans (hb6.mono hb.size)
  replace hr3 := (hr3.below hb6).more hb6.size
  replace hr5 := (hr5.below hb6).more hb6.size
  clear hb6
  have g6 : GrB w6 w5.heap.size (T.sz : Int) (.slice A5 T.eds.length c5) := by rw [hw6]; exact World.alloc_heap_new w5 _
  have t0 := g4.n
  have t1 := g4.e
  rw [hw6] at t0 t1
  go_wp2_with fail
  rw [← hw6]
  clear t0 t1
  obtain ⟨D, hD⟩ : ∃ D, D = w6.heap.size := ⟨_, rfl⟩
  obtain ⟨B3, hB3⟩ : ∃ B3, B3 = w3.heap.size := ⟨_, rfl⟩
  obtain ⟨B5, hB5⟩ : ∃ B5, B5 = w5.heap.size := ⟨_, rfl⟩
  rw [← hB3] at g4
  rw [← hB5] at g6
  have HS : Hid (∀ W, Below D w6 W → SG w6 D w.heap.size B3 B5 ⟨k, c, x, l, A, q, cap⟩ (T.sz : Int) (.slice A3 T.eds.length c3) (.slice A5 T.eds.length c5) W) := Lib.hid fun W hW => SG.mk ht g4 g6 hD hW
  have hDw : ∀ W, Below D w6 W → D ≤ W.heap.size := fun W hW => by rw [hD]; exact hW.size
  rw [← hD] at hr3 hr5 hTi
  have HSG2 : Hid (∀ W, Below D w6 W → Calls Tryd.prog 8 #[.agg #[.int .i64 (T.sz : Int), .slice A5 T.eds.length c5], .agg #[.int .i64 (T.sz : Int), .slice A3 T.eds.length c3]] W fun e w' => e = .returned (.bool true) ∧ SG w6 D w.heap.size B3 B5 ⟨k, c, x, l, A, q, cap⟩ (T.sz : Int) (.slice A3 T.eds.length c3) (.slice A5 T.eds.length c5) w') := Lib.hid fun W hW =>
    (sameGraph_same (T.sz : Int) A5 A3 c5 c3 T.eds W ((hr5.below hW).more (hDw W hW)) ((hr3.below hW).more (hDw W hW))).mono fun e w' ⟨h1, h2⟩ => ⟨h1, HS.out w' (hW.trans (h2.mono (hDw W hW)))⟩
  have HL2 : Hid (∀ W, Below D w6 W → Calls Tryd.prog 12 #[.agg #[.int .i64 k, .int .i64 c, .bool x, .int .i64 l, .slice A q cap]] W fun e w' => (∃ A' c', e = .returned (.slice A' T.sz c')) ∧ SG w6 D w.heap.size B3 B5 ⟨k, c, x, l, A, q, cap⟩ (T.sz : Int) (.slice A3 T.eds.length c3) (.slice A5 T.eds.length c5) w') := Lib.hid fun W hW =>
    (leaves_any T ⟨k, c, x, l, A, q, cap⟩ W ((hTi.below hW (Nat.le_refl _)).more (hDw W hW)) hs).mono fun e w' ⟨v, h1, h2, h3⟩ => by
      obtain ⟨A', c', rfl⟩ := own_formA h2
      rw [T.lv_len] at h1
      exact ⟨⟨A', c', h1⟩, HS.out w' (hW.trans (h3.mono (hDw W hW)))⟩
  have HEND : Hid (∀ W, Below D w6 W → Below w.heap.size w W) := Lib.hid fun W hW => hb.trans (hW.mono (by have := hb.size; omega))
  obtain ⟨z0, z00, z1, z2, z3, z4, z5, z6, z7, z8, z9⟩ := HS.out w6 (Below.refl _ _)
  dsimp only at z1 z2 z3 z4 z5
  rw [← hB3, ← hB5]
  clear hDw hb hr3 hr5 hTi ht g4 g6 hD hw6 hB3 hB5 HC hfew hs
  go_region_held3 (SG w6 D w.heap.size B3 B5 ⟨k, c, x, l, A, q, cap⟩ (T.sz : Int) (.slice A3 T.eds.length c3) (.slice A5 T.eds.length c5))
    (first
      | (go_split_ands; refine ⟨?_, ?_, ?_, ?_, ?_, ?_, ?_, ?_, ?_, ?_, ?_⟩ <;> assumption)
      | (go_split_ands; exact HS.out _ (by first | assumption | (refine Below.drew ?_; assumption))))
    (first
      | (go_at_call 8; go_split_ands; refine (HSG2.out _ (by assumption)).mono ?_; rintro e w7 ⟨rfl, hS7⟩; obtain ⟨y0, y00, y1, y2, y3, y4, y5, y6, y7, y8, y9⟩ := hS7; dsimp only at y1 y2 y3 y4 y5)
      | (go_at_call 12; go_split_ands; refine (HL2.out _ (by assumption)).mono ?_; rintro e w8 ⟨⟨A8, c8, rfl⟩, hS8⟩; obtain ⟨t0, t00, t1, t2, t3, t4, t5, t6, t7, t8, t9⟩ := hS8; dsimp only at t1 t2 t3 t4 t5)
      | fail)
  all_goals
    go_wp2_with fail
    go_ret
    exact ⟨by simp, HEND.out _ t0⟩
end Go.Proofs.YtafdpimkfkddaaaDoor

namespace Go.Proofs.YtafdpimkfkddaaaDoor
open Go.RowKit
set_option maxRecDepth 100000

theorem ext_zd (xs ys : List Int) (hl : xs.length = ys.length) (h : ∀ k, k < xs.length → zd xs k = zd ys k) : xs = ys := by
  apply List.ext_getElem hl
  intro i h1 h2
  have := h i h1
  unfold zd at this
  simpa [List.getD, h1, h2] using this
theorem RdI.step {w w' : World} {A : Option Addr} {xs : List Int} (h : RdI w w.heap.size A xs) (hb : Below w.heap.size w w') : RdI w' w'.heap.size A xs := (h.below hb).more hb.size


end Go.Proofs.YtafdpimkfkddaaaDoor
