/-
  Contract of sp.Count.
  The example of two leaves side by side and a third one behind them: how it lies in memory; keep's leaf.
  The law's own example, alive4, is alive.
  The edges of a term's graph, in order. Plain mathematics; and rows of edges in memory.
-/
import Derived.Test.YtidgibkiacbgfaaDoorPk05
import Derived.Test.YtidgibkiacbgfaaDoorPk01
import Derived.Test.YtidgibkiacbgfaaDoorPk02
import Derived.Test.YtidgibkiacbgfaaDoorPk00
import Derived.Test.YtidgibkiacbgfaaDoorPk03
namespace Go.Proofs.YtidgibkiacbgfaaDoor
open Go.RowKit
set_option maxRecDepth 100000

/-- the number of orders of a term's leaves -/
def Tm.cnt : Tm → Nat
  | .nil => 1
  | .one _ => 1
  | .seq l r => l.cnt * r.cnt
  | .par l r => l.cnt * r.cnt * ch l.sz r.sz

/-- the counter's state -/
def CntI (C : Nat) (w : World) (s : Nat) : Prop := Boxed w C 70 (.int .u64 (s : Int)) ∧ Tab w ∧ 0 < C
def cntP (s x m t : Nat) : Nat := s * ch (m - x) (t - m) % 18446744073709551616

theorem cnt_par (C x m t s : Nat) (w : World) (h : CntI C w s) (hx : x ≤ m) (hm : m ≤ t) (ht : t ≤ 1048576) :
    Calls Tryd.prog 81 #[.pointer (some ⟨C, 0, none⟩), .int .i64 x, .int .i64 m, .int .i64 t] w fun e w' => e = .returned (.tuple #[]) ∧ CntI C w' (cntP s x m t) ∧ Below C w w' := by
  obtain ⟨hv, hT, hg⟩ := h
  have c0 := hv.cell
  have cf := hv.frozen
  have e1 : IntKind.i64.wrap ((m : Int) - (x : Int)) = ((m - x : Nat) : Int) := by rw [IntKind.wrap_i64]; omega
  have e2 : IntKind.i64.wrap ((t : Int) - (m : Int)) = ((t - m : Nat) : Int) := by rw [IntKind.wrap_i64]; omega
  obtain ⟨a, ha⟩ : ∃ a, a = m - x := ⟨_, rfl⟩
  obtain ⟨b, hb⟩ : ∃ b, b = t - m := ⟨_, rfl⟩
  have hab : a + b ≤ 1048576 := by omega
  rw [← ha] at e1
  rw [← hb] at e2
  have hTd : Tab w.drew := hT
  have HM := Lib.hid (merges_any a b w.drew hab hTd)
  obtain ⟨v, hvv⟩ : ∃ v, v = cntP s x m t := ⟨_, rfl⟩
  have hmul : IntKind.u64.wrap ((s : Int) * ((ch a b : Int) % 18446744073709551616)) = (v : Int) := by
    rw [hvv, cntP, ← ha, ← hb, u64_wrap, hM64, ← Int.natCast_emod, ← Int.natCast_mul, ← Int.natCast_emod, Nat.mul_mod_mod]
  rw [← hvv]
  have hfin : CntI C (w.setCell ⟨C, 0, none⟩ (.int .u64 (v : Int))).drew v ∧ Below C w (w.setCell ⟨C, 0, none⟩ (.int .u64 (v : Int))).drew := by
    have hB : Below C w (w.setCell ⟨C, 0, none⟩ (.int .u64 (v : Int))) := (Below.refl C w).setCell (p := ⟨C, 0, none⟩) (Nat.le_refl _) _
    exact ⟨⟨(hv.set (.int .u64 (v : Int)) : Boxed (w.setCell ⟨C, 0, none⟩ (.int .u64 (v : Int))) C 70 _), hT.below hg hB.drew, hg⟩, hB.drew⟩
  have HML := Lib.hid hmul
  have HF := Lib.hid hfin
  have HBe := Lib.hid (Below.refl C w)
  clear ha hb hvv hfin hT hv hTd
  go_enter Tryd.func81, Tryd.ntmps81
  go_wp2_with fail
  go_region_law
    (first
      | (go_simp; go_at_call 82; refine HM.out.mono ?_; rintro e w' ⟨rfl, rfl⟩))
  all_goals
    go_wp2_with fail
    go_end0
    refine ⟨rfl, ?_⟩
    first | exact HF.out | (rw [HML.out]; exact HF.out)

theorem CntI.alloc {C : Nat} {w : World} {s : Nat} (h : CntI C w s) (o : Obj) : CntI C (w.alloc o) s :=
  ⟨h.1.alloc o, h.2.1.step ((Below.refl _ _).alloc (Nat.le_refl _) o), h.2.2⟩
theorem CntI.lt {C : Nat} {w : World} {s : Nat} (h : CntI C w s) : C < w.heap.size := h.1.lt

theorem cntR (C : Nat) : Rdr (BoxT C 70) (fun w s _ => CntI C w s) C 71 (.pointer (some ⟨C, 0, none⟩)) (fun s _ _ => (s, true)) (fun s _ _ _ => s) cntP where
  drew := fun w s n h => h
  there := fun w s n h => ⟨_, h.1⟩
  leaf := ⟨80, .agg #[], Meth.emb (sg := 90) (by decide +kernel) (by kernel_rfl) (by kernel_rfl) Tryd.underlying70 rfl rfl rfl rfl (fun _ _ => by kernel_rfl) (fun _ _ => by kernel_rfl),
    fun w s n a h _ => (patient_leaf n a w).mono fun e w' ⟨h1, h2⟩ => ⟨h1, h2 ▸ (h.alloc _).alloc _, h2 ▸ ((Below.refl C w).alloc (Nat.le_of_lt h.lt) _).alloc (by have := h.lt; simp; omega) _⟩⟩
  ser := ⟨79, .agg #[], Meth.emb (sg := 92) (by decide +kernel) (by kernel_rfl) (by kernel_rfl) Tryd.underlying70 rfl rfl rfl rfl (fun _ _ => by kernel_rfl) (fun _ _ => by kernel_rfl),
    fun w s x m t h _ _ _ => (patient_series x m t w).mono fun e w' ⟨h1, h2⟩ => ⟨h1, h2 ▸ h.alloc _, h2 ▸ (Below.refl C w).alloc (Nat.le_of_lt h.lt) _⟩⟩
  par := ⟨81, .pointer (some ⟨C, 0, none⟩), Meth.direct (fun _ _ => by kernel_rfl) (fun _ _ => by kernel_rfl) (fun _ _ => by kernel_rfl), fun w s x m t h hx hm ht => cnt_par C x m t s w h hx hm ht⟩

theorem told_cnt (T : Tm) : ∀ (s n : Nat), s < 18446744073709551616 → T.told (fun (s : Nat) _ _ => (s, true)) (fun s _ _ _ => s) cntP s n = (s * T.cnt % 18446744073709551616, n + T.sz, true) := by
  induction T with
  | nil => intro s n hs; simp [Tm.told, Tm.cnt, Tm.sz, Nat.mod_eq_of_lt hs]
  | one a => intro s n hs; simp [Tm.told, Tm.cnt, Tm.sz, Nat.mod_eq_of_lt hs]
  | seq l r il ir =>
    intro s n hs
    simp only [Tm.told, il s n hs, both2, ir _ _ (Nat.mod_lt _ (by omega)), Tm.cnt, Tm.sz]
    rw [Nat.mod_mul_mod, Nat.mul_assoc, Nat.add_assoc]
  | par l r il ir =>
    intro s n hs
    simp only [Tm.told, il s n hs, both2, ir _ _ (Nat.mod_lt _ (by omega)), Tm.cnt, Tm.sz, cntP]
    rw [Nat.mod_mul_mod, Nat.mul_assoc (s * l.cnt % 18446744073709551616), Nat.mod_mul_mod, show n + l.sz - n = l.sz by omega, show n + l.sz + r.sz - (n + l.sz) = r.sz by omega, Nat.add_assoc, Nat.mul_assoc s, Nat.mul_assoc l.cnt]

theorem count_any (T : Tm) (h : Hd) (w : World) (hT : TIn w w.heap.size T h) (hs : T.sz ≤ 1048576) (hTab : Tab w) :
    Calls Tryd.prog 8 #[.agg h.cells] w fun e w' => e = .returned (.int .u64 ((T.cnt % 18446744073709551616 : Nat) : Int)) ∧ Below w.heap.size w w' := by
  have key : ∃ w1, w1 = (w.alloc (.cells h.cells 26)).alloc (.cells #[.int .u64 1] 70) ∧ Below w.heap.size w w1 ∧ TB 26 w1 w.heap.size h ∧ CntI (w.heap.size + 1) w1 1 := by
    have hB : Below w.heap.size w ((w.alloc (.cells h.cells 26)).alloc (.cells #[.int .u64 1] 70)) := ((Below.refl _ _).alloc (Nat.le_refl _) _).alloc (by simp) _
    refine ⟨_, rfl, hB, (TB.new _ _ _).alloc _, ?_, hTab.step hB, by have := hTab.pos; omega⟩
    have := Boxed.new (w.alloc (.cells h.cells 26)) 70 (.int .u64 1)
    rwa [World.size_alloc] at this
  obtain ⟨w1, hw1, hb1, ht1, hI1⟩ := key
  have hT1 : TIn w1 (w.heap.size + 1) T h := (hT.below hb1 (Nat.le_refl _)).more (by omega)
  have hc := read_any (cntR (w.heap.size + 1)) T w1 w.heap.size 0 h 1 0 ht1.at (by omega) hT1 hI1 (by omega)
  rw [told_cnt T 1 0 (by omega), Nat.one_mul] at hc
  dsimp only at hc
  have HC : Hid (Calls Tryd.prog 20 #[.pointer (some ⟨w.heap.size, 0, none⟩), .int .i64 0, .iface 71 (.pointer (some ⟨w.heap.size + 1, 0, none⟩))] w1 _) := Lib.hid hc
  obtain ⟨k, c, x, l, A, m, cap⟩ := h
  dsimp only [Hd.cells] at hw1 ⊢
  have HB1 := Lib.hid hb1
  clear hc hT1 hT ht1 hI1 hTab hb1
  go_enter Tryd.func8, Tryd.ntmps8
  go_wp2_with (first
    | (rw [← hw1]; refine HC.out.mono ?_; rintro e w2 ⟨rfl, hv, hb2⟩; have hc2 := hv.1.cell)
    | fail)
  go_ret
  exact ⟨rfl, HB1.out.trans (hb2.mono (by omega))⟩
end Go.Proofs.YtidgibkiacbgfaaDoor

namespace Go.Proofs.YtidgibkiacbgfaaDoor
open Go.RowKit
set_option maxRecDepth 100000

theorem results_tm {fn : Func} {p : Tmp} (h : fn.results = #[.cell p 26]) (tmps : Array Value) (w : World) (g : Nat) (hd : Hd)
    (hp : tmps.getD p undef = .pointer (some ⟨g, 0, none⟩)) (hg : TB 26 w g hd) :
    (results fn tmps).run Tryd.prog w = .ok (.agg hd.cells) w := by
  have hp' : tmps[p]?.getD undef = .pointer (some ⟨g, 0, none⟩) := by simpa using hp
  simp [results, h, hp', asAddr, run_loadVar_row w g 26 26 hd.cells (0, 0) _ hg Tryd.underlying26 rfl Tryd.infoTm]

theorem leafK_any (n : Int) (w : World) :
    Calls Tryd.prog 15 #[.int .i64 n] w fun e w' => e = .returned (.agg #[.int .i64 1, .int .i64 n, .bool false, .int .i64 0, .slice none 0 0]) ∧ Below w.heap.size w w' := by
  go_enter Tryd.func15, Tryd.ntmps15
  go_wp2_with fail
  exact bodyPost_ret (results_tm rfl _ _ w.heap.size ⟨1, n, false, 0, none, 0, 0⟩ rfl (TB.new w 26 ⟨1, n, false, 0, none, 0, 0⟩)) rfl ⟨rfl, (Below.refl _ _).alloc (Nat.le_refl _) _⟩

/-- the example: two leaves side by side, a third one behind them -/
def T4 : Tm := .seq (.par (.one (1, false, 0)) (.one (2, false, 0))) (.one (3, false, 0))

/-- two headers in a row -/
def two5 (a b : Hd) : Array Value := #[.int .i64 a.k, .int .i64 a.c, .bool a.x, .int .i64 a.l, .slice a.A a.n a.cap, .int .i64 b.k, .int .i64 b.c, .bool b.x, .int .i64 b.l, .slice b.A b.n b.cap]
theorem two5_at {w : World} {B : Nat} {a b : Hd} {T : TypeId} (h : w.heap[B]? = some (.cells (two5 a b) T (0, 0))) : HdAt w B 0 a ∧ HdAt w B (0 + 5) b := by
  constructor
  · constructor <;> simp only [World.cell?, h] <;> rfl
  · constructor <;> simp only [World.cell?, h] <;> rfl

def h1' : Hd := ⟨1, 1, false, 0, none, 0, 0⟩
def h2' : Hd := ⟨1, 2, false, 0, none, 0, 0⟩
def h3' : Hd := ⟨1, 3, false, 0, none, 0, 0⟩
def hPar (b : Nat) : Hd := ⟨3, 0, false, 0, some ⟨b, 0, none⟩, 2, 2⟩
def hTop (b : Nat) : Hd := ⟨2, 0, false, 0, some ⟨b, 0, none⟩, 2, 2⟩

theorem below_alc (w : World) (o : Obj) : Below w.heap.size w (w.alloc o) := (Below.refl _ w).alloc (Nat.le_refl _) _

theorem T4_in (w2 w3 : World) (hb : Below (w2.alloc (.cells (two5 h1' h2') 26)).heap.size (w2.alloc (.cells (two5 h1' h2') 26)) w3) :
    ∃ W, W = (w3.alloc (.cells (two5 (hPar w2.heap.size) h3') 26)).alloc (.cells (hTop w3.heap.size).cells 26) ∧ TIn W W.heap.size T4 (hTop w3.heap.size) ∧ TB 26 W (w3.heap.size + 1) (hTop w3.heap.size) ∧ Below w2.heap.size w2 W := by
  have hsz : (w2.alloc (.cells (two5 h1' h2') 26)).heap.size = w2.heap.size + 1 := by simp
  rw [hsz] at hb
  have hlt := hb.size
  rw [hsz] at hlt
  have hb3 : Below (w2.heap.size + 1) w3 ((w3.alloc (.cells (two5 (hPar w2.heap.size) h3') 26)).alloc (.cells (hTop w3.heap.size).cells 26)) :=
    ((Below.refl _ _).alloc hlt _).alloc (by simp; omega) _
  have e1 := (hb.trans hb3).block w2.heap.size (by omega)
  rw [World.alloc_heap_new] at e1
  have e2 : ((w3.alloc (.cells (two5 (hPar w2.heap.size) h3') 26)).alloc (.cells (hTop w3.heap.size).cells 26)).heap[w3.heap.size]? = some (.cells (two5 (hPar w2.heap.size) h3') 26 (0, 0)) := by
    have := (below_alc (w3.alloc (.cells (two5 (hPar w2.heap.size) h3') 26)) (.cells (hTop w3.heap.size).cells 26)).block w3.heap.size (by simp)
    rw [this, World.alloc_heap_new]
  have hsW : ((w3.alloc (.cells (two5 (hPar w2.heap.size) h3') 26)).alloc (.cells (hTop w3.heap.size).cells 26)).heap.size = w3.heap.size + 1 + 1 := by simp
  have a1 := two5_at e1
  have a2 := two5_at e2
  refine ⟨_, rfl, ?_, ?_, ((below_alc _ _).mono (Nat.le_refl _)).trans ((hb.trans hb3).mono (by omega))⟩
  · rw [hsW]
    exact ⟨rfl, Nat.le_refl 2, w3.heap.size, 0, hPar w2.heap.size, h3', rfl, by omega, a2.1, a2.2, ⟨rfl, Nat.le_refl 2, w2.heap.size, 0, h1', h2', rfl, by omega, a1.1, a1.2, ⟨rfl, rfl⟩, ⟨rfl, rfl⟩⟩, ⟨rfl, rfl⟩⟩
  · have := TB.new (w3.alloc (.cells (two5 (hPar w2.heap.size) h3') 26)) 26 (hTop w3.heap.size)
    rwa [World.size_alloc] at this

theorem T4_sz : T4.sz = 3 := rfl
end Go.Proofs.YtidgibkiacbgfaaDoor

namespace Go.Proofs.YtidgibkiacbgfaaDoor
open Go.RowKit
set_option maxRecDepth 100000

theorem RdPr.step {w w' : World} {B C : Nat} {A : Option Addr} {n : Nat} {f : Nat → Int} (h : RdPr w B A n f) (hb : Below C w w') (hc : B ≤ C) : RdPr w' B A n f := by
  refine ⟨fun hn => ?_⟩
  obtain ⟨b, off, h1, h2, h3⟩ := h.rd hn
  refine ⟨b, off, h1, h2, fun k hk => ?_⟩
  have e := hb.block b (by omega)
  have hcell : ∀ o, w'.cell? ⟨b, o, none⟩ = w.cell? ⟨b, o, none⟩ := fun o => by simp only [World.cell?, e]
  rw [hcell, hcell]
  exact h3 k hk
theorem RdPr.more {w : World} {B C : Nat} {A : Option Addr} {n : Nat} {f : Nat → Int} (h : RdPr w B A n f) (hc : B ≤ C) : RdPr w C A n f :=
  ⟨fun hn => by obtain ⟨b, off, h1, h2, h3⟩ := h.rd hn; exact ⟨b, off, h1, by omega, h3⟩⟩

theorem own_formA {w : World} {base size n : Nat} {e : TypeId} {v : Value} {xs : List Value} (h : w.ownsRow base e size v n xs) : ∃ A cap, v = .slice A n cap := by
  rcases h.2 with ⟨rfl, rfl⟩ | ⟨g, cap, cur, hv, _⟩
  · exact ⟨_, _, rfl⟩
  · exact ⟨_, _, hv⟩

theorem T4_lv : T4.lv.length = 3 := rfl
theorem T4_02 : T4.bef 0 2 = true := by decide
theorem T4_01 : T4.bef 0 1 = false := by decide
theorem T4_cnt : T4.cnt = 2 := by simp [T4, Tm.cnt, Tm.sz, ch]
theorem T4_pos0 : T4.posN 0 = 1 := by decide
theorem T4_pos1 : T4.posN 1 = 0 := by decide
theorem T4_pos2 : T4.posN 2 = 2 := by decide

theorem T4_pairs (w8 : World) {A : Option Addr} (h : RdPr w8 w8.heap.size A 3 T4.posN) :
    ∃ W, W = w8.alloc (.cells #[.int .i64 0, .int .i64 1, .int .i64 1, .int .i64 0, .int .i64 2, .int .i64 2] 52) ∧ Below w8.heap.size w8 W ∧ RdPr W W.heap.size (some ⟨w8.heap.size, 0, none⟩) 3 T4.posN ∧ RdPr W W.heap.size A 3 T4.posN := by
  have hb := below_alc w8 (.cells #[.int .i64 0, .int .i64 1, .int .i64 1, .int .i64 0, .int .i64 2, .int .i64 2] 52)
  have e := World.alloc_heap_new w8 (.cells #[.int .i64 0, .int .i64 1, .int .i64 1, .int .i64 0, .int .i64 2, .int .i64 2] 52)
  refine ⟨_, rfl, hb, ⟨fun _ => ⟨w8.heap.size, 0, rfl, by simp, fun k hk => ?_⟩⟩, (h.step hb (Nat.le_refl _)).more hb.size⟩
  simp only [World.cell?, e]
  match k, hk with
  | 0, _ => exact ⟨rfl, by rw [T4_pos0]; rfl⟩
  | 1, _ => exact ⟨rfl, by rw [T4_pos1]; rfl⟩
  | 2, _ => exact ⟨rfl, by rw [T4_pos2]; rfl⟩

set_option maxHeartbeats 4000000 in
theorem alive4_any (w : World) (hTab : Tab w) :
    Calls Tryd.prog 5 #[] w fun e w' => e = .returned (.bool true) ∧ Below w.heap.size w w' := by
  have HL := Lib.hid (fun n w => leafK_any n w)
  have HT := Lib.hid hTab
  clear hTab
  go_enter Tryd.func5, Tryd.ntmps5
  go_wp2_with (first
    | (go_at_call_of 15 (Value.int IntKind.i64 1); refine (HL.out _ _).mono ?_; rintro e w1 ⟨rfl, hb1⟩)
    | (go_at_call_of 15 (Value.int IntKind.i64 2); refine (HL.out _ _).mono ?_; rintro e w2 ⟨rfl, hb2⟩)
    | (go_at_call_of 15 (Value.int IntKind.i64 3); refine (HL.out _ _).mono ?_; rintro e w3 ⟨rfl, hb3⟩)
    | fail)
  obtain ⟨W, hW, hTi, hTb, hbW⟩ := T4_in w2 w3 hb3
  dsimp only [two5, hPar, hTop, h1', h2', h3', Hd.cells] at hW
  rw [← hW]
  have hb : Below w.heap.size w W := hb1.trans ((hb2.trans (hbW.mono hb2.size)).mono hb1.size)
  have hT := HT.out.step hb
  clear hb3 hW hbW hb1 hb2 HT HL
  have hs := T4_sz
  have t0 := hTb.c0
  have t1 := hTb.c1
  have t2 := hTb.c2
  have t3 := hTb.c3
  have t4 := hTb.c4
  refine (leaves_any T4 _ _ hTi (by rw [hs]; omega)).mono ?_
  rintro e w4 ⟨v, rfl, hown, hb4⟩
  obtain ⟨A4, c4, rfl⟩ := own_formA hown
  rw [T4_lv]
  clear hown
  replace hTi := (hTi.below hb4 (Nat.le_refl _)).more hb4.size
  replace hTb : TB 26 _ _ _ := (hb4.block _ hTb.lt).trans hTb
  replace hb := hb.trans (hb4.mono hb.size)
  replace hT := hT.step hb4
  clear t0 t1 t2 t3 t4 hb4
  have t0 := hTb.c0
  have t1 := hTb.c1
  have t2 := hTb.c2
  have t3 := hTb.c3
  have t4 := hTb.c4
  dsimp only [hTop] at t0 t1 t2 t3 t4
  go_wp2_with fail
  refine (before_any T4 _ 0 2 _ hTi (by rw [hs]; omega)).mono ?_
  rw [T4_02]
  rintro e w5 ⟨rfl, hb5⟩
  replace hTi := (hTi.below hb5 (Nat.le_refl _)).more hb5.size
  replace hTb : TB 26 _ _ _ := (hb5.block _ hTb.lt).trans hTb
  replace hb := hb.trans (hb5.mono hb.size)
  replace hT := hT.step hb5
  clear t0 t1 t2 t3 t4 hb5
  have t0 := hTb.c0
  have t1 := hTb.c1
  have t2 := hTb.c2
  have t3 := hTb.c3
  have t4 := hTb.c4
  dsimp only [hTop] at t0 t1 t2 t3 t4
  go_wp2_with fail
  refine (before_any T4 _ 0 1 _ hTi (by rw [hs]; omega)).mono ?_
  rw [T4_01]
  rintro e w6 ⟨rfl, hb6⟩
  replace hTi := (hTi.below hb6 (Nat.le_refl _)).more hb6.size
  replace hTb : TB 26 _ _ _ := (hb6.block _ hTb.lt).trans hTb
  replace hb := hb.trans (hb6.mono hb.size)
  replace hT := hT.step hb6
  clear t0 t1 t2 t3 t4 hb6
  have t0 := hTb.c0
  have t1 := hTb.c1
  have t2 := hTb.c2
  have t3 := hTb.c3
  have t4 := hTb.c4
  dsimp only [hTop] at t0 t1 t2 t3 t4
  go_wp2_with fail
  refine (count_any T4 _ _ hTi (by rw [hs]; omega) hT).mono ?_
  rw [T4_cnt]
  rintro e w7 ⟨rfl, hb7⟩
  replace hTi := (hTi.below hb7 (Nat.le_refl _)).more hb7.size
  replace hTb : TB 26 _ _ _ := (hb7.block _ hTb.lt).trans hTb
  replace hb := hb.trans (hb7.mono hb.size)
  replace hT := hT.step hb7
  clear t0 t1 t2 t3 t4 hb7
  have t0 := hTb.c0
  have t1 := hTb.c1
  have t2 := hTb.c2
  have t3 := hTb.c3
  have t4 := hTb.c4
  dsimp only [hTop] at t0 t1 t2 t3 t4
  go_wp2_with fail
  refine (marks_any T4 _ _ hTi (by rw [hs]; omega)).mono ?_
  rintro e w8 ⟨A8, c8, xs, rfl, hown, hfill, hb8⟩
  have hr8 := own_rdPr hown hfill
  rw [hs] at hr8 ⊢
  replace hb := hb.trans (hb8.mono hb.size)
  clear hb8 t0 t1 t2 t3 t4 hown hfill hT hTi hTb
  go_wp2_with fail
  obtain ⟨w9, hw9, hb9, hr9, hr8'⟩ := T4_pairs w8 hr8
  rw [← hw9]
  clear hw9 hr8
  refine (equalPr_same _ _ _ _ 3 T4.posN w9 (by omega) hr8' hr9).mono ?_
  rintro e w10 ⟨rfl, hb10⟩
  have hbf := hb.trans ((hb9.trans (hb10.mono hb9.size)).mono hb.size)
  go_wp2_with fail
  go_ret
  exact ⟨rfl, hbf⟩
end Go.Proofs.YtidgibkiacbgfaaDoor

namespace Go.Proofs.YtidgibkiacbgfaaDoor
open Go.RowKit
set_option maxRecDepth 100000

/-- the edges from leaf i to leaves below j -/
def Tm.edI (T : Tm) (i j : Nat) : List (Int × Int) := ((List.range j).filter fun (k : Nat) => T.bef (i : Int) (k : Int)).map fun (k : Nat) => ((i : Int), (k : Int))
/-- the edges from leaves below i, and those from i to leaves below j -/
def Tm.edK (T : Tm) (i j : Nat) : List (Int × Int) := ((List.range i).flatMap fun i' => T.edI i' T.sz) ++ T.edI i j
/-- all edges -/
def Tm.eds (T : Tm) : List (Int × Int) := T.edK T.sz 0
theorem Tm.edI_succ (T : Tm) (i j : Nat) : T.edI i (j + 1) = T.edI i j ++ (if T.bef (i : Int) (j : Int) then [((i : Int), (j : Int))] else []) := by
  unfold Tm.edI
  rw [List.range_succ, List.filter_append, List.map_append]
  congr 1
  by_cases h : T.bef (i : Int) (j : Int) = true <;> simp [h]
theorem Tm.edK_succ (T : Tm) (i j : Nat) : T.edK i (j + 1) = T.edK i j ++ (if T.bef (i : Int) (j : Int) then [((i : Int), (j : Int))] else []) := by
  unfold Tm.edK
  rw [Tm.edI_succ, List.append_assoc]
theorem Tm.edK_yes (T : Tm) (i j : Nat) (h : T.bef (i : Int) (j : Int) = true) : T.edK i (j + 1) = T.edK i j ++ [((i : Int), (j : Int))] := by rw [Tm.edK_succ, if_pos h]
theorem Tm.edK_no (T : Tm) (i j : Nat) (h : T.bef (i : Int) (j : Int) = false) : T.edK i (j + 1) = T.edK i j := by rw [Tm.edK_succ, if_neg (by rw [h]; decide), List.append_nil]
theorem Tm.edI_low (T : Tm) (i : Nat) : ∀ j, j ≤ i + 1 → T.edI i j = []
  | 0, _ => rfl
  | j + 1, h => by
    rw [Tm.edI_succ, Tm.edI_low T i j (by omega), T.bef_out (i : Int) (j : Int) (by omega)]
    rfl
theorem Tm.edK_low (T : Tm) (i j : Nat) (h : j ≤ i + 1) : T.edK i j = T.edK i 0 := by
  unfold Tm.edK
  rw [Tm.edI_low T i j h, Tm.edI_low T i 0 (by omega)]
theorem Tm.edK_row (T : Tm) (i : Nat) : T.edK (i + 1) 0 = T.edK i T.sz := by
  unfold Tm.edK
  rw [List.range_succ, List.flatMap_append, Tm.edI_low T (i + 1) 0 (by omega), List.append_nil]
  simp
theorem Tm.edK_zero (T : Tm) : T.edK 0 0 = [] := rfl
theorem Tm.edI_len (T : Tm) (i : Nat) : ∀ j, (T.edI i j).length ≤ j
  | 0 => by simp [Tm.edI]
  | j + 1 => by
    rw [Tm.edI_succ, List.length_append]
    have := Tm.edI_len T i j
    split <;> simp <;> omega
theorem Tm.edK_len (T : Tm) (h : T.sz ≤ 200) : ∀ i j, i ≤ 200 → j ≤ 200 → (T.edK i j).length ≤ i * 200 + j := by
  intro i
  induction i with
  | zero =>
    intro j _ hj
    have := Tm.edI_len T 0 j
    unfold Tm.edK
    simp
    omega
  | succ i ih =>
    intro j hi hj
    have h1 := ih T.sz (by omega) h
    have h2 := Tm.edI_len T (i + 1) j
    have h3 : (T.edK (i + 1) j).length = (T.edK (i + 1) 0).length + (T.edI (i + 1) j).length := by
      unfold Tm.edK
      rw [List.length_append, List.length_append, Tm.edI_low T (i + 1) 0 (by omega)]
      simp
    rw [h3, Tm.edK_row]
    omega

theorem own_form2 {w : World} {base size n : Nat} {e : TypeId} {v : Value} {xs : List Value} (h : w.ownsRow base e size v n xs) : ∃ A cap, v = .slice A n cap := by
  rcases h.2 with ⟨rfl, rfl⟩ | ⟨g, cap, cur, hv, _⟩
  · exact ⟨_, _, rfl⟩
  · exact ⟨_, _, hv⟩

/-- the cells of a list of edges -/
def edV (l : List (Int × Int)) : List Value := l.flatMap fun e => [.int .i64 e.1, .int .i64 e.2]
theorem edV_snoc (l : List (Int × Int)) (x y : Int) : edV (l ++ [(x, y)]) = edV l ++ [.int .i64 x, .int .i64 y] := by simp [edV]

theorem Tryd.infoEdP : ∃ i0, Tryd.prog.info? 63 = some i0 ∧ i0.zero = some (.agg #[.int .i64 0, .int .i64 0]) ∧ i0.size = 2 ∧ i0.bytes = 16 := by
  have h : (Tryd.prog.info? 63).map (fun i => (i.zero, i.size, i.bytes)) = some (some (.agg #[.int .i64 0, .int .i64 0]), 2, 16) := by kernel_rfl
  obtain ⟨i0, hi, hii⟩ := Option.map_eq_some_iff.1 h
  simp only [Prod.mk.injEq] at hii
  exact ⟨i0, hi, hii⟩

/-- block B holds a graph: its nodes, its edges -/
def GrB (w : World) (B : Nat) (x : Int) (v : Value) : Prop := w.heap[B]? = some (.cells #[.int .i64 x, v] 30 (0, 0))
section
variable {w w' : World} {B : Nat} {x : Int} {v : Value}
theorem GrB.lt (h : GrB w B x v) : B < w.heap.size := (Array.getElem?_eq_some_iff.1 h).1
theorem GrB.n (h : GrB w B x v) : w.cell? ⟨B, 0, none⟩ = some (.int .i64 x) := by simp [World.cell?, show w.heap[B]? = _ from h]
theorem GrB.e (h : GrB w B x v) : w.cell? ⟨B, 1, none⟩ = some v := by simp [World.cell?, show w.heap[B]? = _ from h]
theorem GrB.frozen (h : GrB w B x v) (o : Nat) : w.frozen? ⟨B, o, none⟩ = false := by simp [World.frozen?, show w.heap[B]? = _ from h]
theorem GrB.kept {row : Option Nat} (h : GrB w B x v) (hg : w.grownBy w' row) (hne : some B ≠ row) : GrB w' B x v := (hg.block B h.lt hne).trans h
theorem GrB.alloc (h : GrB w B x v) (o : Obj) : GrB (w.alloc o) B x v := h.kept (World.grownBy_alloc w o none) (by simp)
theorem GrB.set (v' : Value) (h : GrB w B x v) : GrB (w.setCell ⟨B, 1, none⟩ v') B x v' := heap_set_in h v'
theorem GrB.set0 (x' : Int) (h : GrB w B x v) : GrB (w.setCell ⟨B, 0, none⟩ (.int .i64 x')) B x' v := heap_set_in h _
theorem GrB.ne {B' i : Nat} (h : GrB w B x v) (hne : B ≠ B') (u : Value) : GrB (w.setCell ⟨B', i, none⟩ u) B x v := (Below.heap_setCell _ _ _ _ hne).trans h
theorem GrB.not_row {e : TypeId} {base size k : Nat} {u : Value} {xs : List Value} (h : GrB w B x v) (hte : 30 ≠ e) (hr : w.ownsRow base e size u k xs) : some B ≠ u.ownBlock := by
  rcases hr.2 with ⟨rfl, _⟩ | ⟨g, cap, cur, rfl, _, hgb, _⟩
  · simp [Value.ownBlock]
  · intro e'
    obtain rfl : B = g := by simpa [Value.ownBlock] using e'
    have := (show w.heap[B]? = _ from h).symm.trans hgb
    simp at this
    exact hte this.2
end
end Go.Proofs.YtidgibkiacbgfaaDoor
