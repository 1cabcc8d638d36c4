/-
  Contract of sp.Count.
-/
import Derived.Test.YtafdpimkfkddaaaDoorSpDc
import Derived.Test.YtafdpimkfkddaaaDoorSpL
import Derived.Test.YtafdpimkfkddaaaDoorSpA
namespace Go.Proofs.YtafdpimkfkddaaaDoor
open Go.RowKit
set_option maxRecDepth 100000

/-- the number of orders of a term's leaves -/
def Tm.cnt : Tm → Nat
  | .nil => 1
  | .one _ => 1
  | .seq l r => l.cnt * r.cnt
  | .par l r => l.cnt * r.cnt * ch l.sz r.sz

/-- the counter's state -/
def CntI (C : Nat) (w : World) (s : Nat) : Prop := Boxed w C 62 (.int .u64 (s : Int)) ∧ Tab w ∧ 0 < C
def cntP (s x m t : Nat) : Nat := s * ch (m - x) (t - m) % 18446744073709551616

theorem cnt_par (C x m t s : Nat) (w : World) (h : CntI C w s) (hx : x ≤ m) (hm : m ≤ t) (ht : t ≤ 1048576) :
    Calls Tryd.prog 75 #[.pointer (some ⟨C, 0, none⟩), .int .i64 x, .int .i64 m, .int .i64 t] w fun e w' => e = .returned (.tuple #[]) ∧ CntI C w' (cntP s x m t) ∧ Below C w w' := by
  obtain ⟨hv, hT, hg⟩ := h
  have c0 := hv.cell
  have cf := hv.frozen
  have e1 : IntKind.i64.wrap ((m : Int) - (x : Int)) = ((m - x : Nat) : Int) := by rw [IntKind.wrap_i64]; omega
  have e2 : IntKind.i64.wrap ((t : Int) - (m : Int)) = ((t - m : Nat) : Int) := by rw [IntKind.wrap_i64]; omega
  obtain ⟨a, ha⟩ : ∃ a, a = m - x := ⟨_, rfl⟩
  obtain ⟨b, hb⟩ : ∃ b, b = t - m := ⟨_, rfl⟩
  have hab : a + b ≤ 1048576 := by omega
  rw [← ha] at e1
  rw [← hb] at e2
  have hTd : Tab w.drew := hT
  have HM := Lib.hid (merges_any a b w.drew hab hTd)
  obtain ⟨v, hvv⟩ : ∃ v, v = cntP s x m t := ⟨_, rfl⟩
  have hmul : IntKind.u64.wrap ((s : Int) * ((ch a b : Int) % 18446744073709551616)) = (v : Int) := by
    rw [hvv, cntP, ← ha, ← hb, u64_wrap, hM64, ← Int.natCast_emod, ← Int.natCast_mul, ← Int.natCast_emod, Nat.mul_mod_mod]
  rw [← hvv]
  have hfin : CntI C (w.setCell ⟨C, 0, none⟩ (.int .u64 (v : Int))).drew v ∧ Below C w (w.setCell ⟨C, 0, none⟩ (.int .u64 (v : Int))).drew := by
    have hB : Below C w (w.setCell ⟨C, 0, none⟩ (.int .u64 (v : Int))) := (Below.refl C w).setCell (p := ⟨C, 0, none⟩) (Nat.le_refl _) _
    exact ⟨⟨(hv.set (.int .u64 (v : Int)) : Boxed (w.setCell ⟨C, 0, none⟩ (.int .u64 (v : Int))) C 62 _), hT.below hg hB.drew, hg⟩, hB.drew⟩
  have HML := Lib.hid hmul
  have HF := Lib.hid hfin
  have HBe := Lib.hid (Below.refl C w)
  clear ha hb hvv hfin hT hv hTd
  go_enter Tryd.func75, Tryd.ntmps75
  go_wp2_with fail
  go_region_law
    (first
      | (go_simp; go_at_call 76; refine HM.out.mono ?_; rintro e w' ⟨rfl, rfl⟩))
  all_goals
    go_wp2_with fail
    go_end0
    refine ⟨rfl, ?_⟩
    first | exact HF.out | (rw [HML.out]; exact HF.out)

theorem CntI.alloc {C : Nat} {w : World} {s : Nat} (h : CntI C w s) (o : Obj) : CntI C (w.alloc o) s :=
  ⟨h.1.alloc o, h.2.1.step ((Below.refl _ _).alloc (Nat.le_refl _) o), h.2.2⟩
theorem CntI.lt {C : Nat} {w : World} {s : Nat} (h : CntI C w s) : C < w.heap.size := h.1.lt

theorem cntR (C : Nat) : Rdr (BoxT C 62) (fun w s _ => CntI C w s) C 63 (.pointer (some ⟨C, 0, none⟩)) (fun s _ _ => (s, true)) (fun s _ _ _ => s) cntP where
  drew := fun w s n h => h
  there := fun w s n h => ⟨_, h.1⟩
  leaf := ⟨74, .agg #[], Meth.emb (sg := 81) (by decide +kernel) (by kernel_rfl) (by kernel_rfl) Tryd.underlying62 rfl rfl rfl rfl (fun _ _ => by kernel_rfl) (fun _ _ => by kernel_rfl),
    fun w s n a h _ => (patient_leaf n a w).mono fun e w' ⟨h1, h2⟩ => ⟨h1, h2 ▸ (h.alloc _).alloc _, h2 ▸ ((Below.refl C w).alloc (Nat.le_of_lt h.lt) _).alloc (by have := h.lt; simp; omega) _⟩⟩
  ser := ⟨73, .agg #[], Meth.emb (sg := 83) (by decide +kernel) (by kernel_rfl) (by kernel_rfl) Tryd.underlying62 rfl rfl rfl rfl (fun _ _ => by kernel_rfl) (fun _ _ => by kernel_rfl),
    fun w s x m t h _ _ _ => (patient_series x m t w).mono fun e w' ⟨h1, h2⟩ => ⟨h1, h2 ▸ h.alloc _, h2 ▸ (Below.refl C w).alloc (Nat.le_of_lt h.lt) _⟩⟩
  par := ⟨75, .pointer (some ⟨C, 0, none⟩), Meth.direct (fun _ _ => by kernel_rfl) (fun _ _ => by kernel_rfl) (fun _ _ => by kernel_rfl), fun w s x m t h hx hm ht => cnt_par C x m t s w h hx hm ht⟩

theorem told_cnt (T : Tm) : ∀ (s n : Nat), s < 18446744073709551616 → T.told (fun (s : Nat) _ _ => (s, true)) (fun s _ _ _ => s) cntP s n = (s * T.cnt % 18446744073709551616, n + T.sz, true) := by
  induction T with
  | nil => intro s n hs; simp [Tm.told, Tm.cnt, Tm.sz, Nat.mod_eq_of_lt hs]
  | one a => intro s n hs; simp [Tm.told, Tm.cnt, Tm.sz, Nat.mod_eq_of_lt hs]
  | seq l r il ir =>
    intro s n hs
    simp only [Tm.told, il s n hs, both2, ir _ _ (Nat.mod_lt _ (by omega)), Tm.cnt, Tm.sz]
    rw [Nat.mod_mul_mod, Nat.mul_assoc, Nat.add_assoc]
  | par l r il ir =>
    intro s n hs
    simp only [Tm.told, il s n hs, both2, ir _ _ (Nat.mod_lt _ (by omega)), Tm.cnt, Tm.sz, cntP]
    rw [Nat.mod_mul_mod, Nat.mul_assoc (s * l.cnt % 18446744073709551616), Nat.mod_mul_mod, show n + l.sz - n = l.sz by omega, show n + l.sz + r.sz - (n + l.sz) = r.sz by omega, Nat.add_assoc, Nat.mul_assoc s, Nat.mul_assoc l.cnt]

theorem count_any (T : Tm) (h : Hd) (w : World) (hT : TIn w w.heap.size T h) (hs : T.sz ≤ 1048576) (hTab : Tab w) :
    Calls Tryd.prog 9 #[.agg h.cells] w fun e w' => e = .returned (.int .u64 ((T.cnt % 18446744073709551616 : Nat) : Int)) ∧ Below w.heap.size w w' := by
  have key : ∃ w1, w1 = (w.alloc (.cells h.cells 26)).alloc (.cells #[.int .u64 1] 62) ∧ Below w.heap.size w w1 ∧ TB 26 w1 w.heap.size h ∧ CntI (w.heap.size + 1) w1 1 := by
    have hB : Below w.heap.size w ((w.alloc (.cells h.cells 26)).alloc (.cells #[.int .u64 1] 62)) := ((Below.refl _ _).alloc (Nat.le_refl _) _).alloc (by simp) _
    refine ⟨_, rfl, hB, (TB.new _ _ _).alloc _, ?_, hTab.step hB, by have := hTab.pos; omega⟩
    have := Boxed.new (w.alloc (.cells h.cells 26)) 62 (.int .u64 1)
    rwa [World.size_alloc] at this
  obtain ⟨w1, hw1, hb1, ht1, hI1⟩ := key
  have hT1 : TIn w1 (w.heap.size + 1) T h := (hT.below hb1 (Nat.le_refl _)).more (by omega)
  have hc := read_any (cntR (w.heap.size + 1)) T w1 w.heap.size 0 h 1 0 ht1.at (by omega) hT1 hI1 (by omega)
  rw [told_cnt T 1 0 (by omega), Nat.one_mul] at hc
  dsimp only at hc
  have HC : Hid (Calls Tryd.prog 15 #[.pointer (some ⟨w.heap.size, 0, none⟩), .int .i64 0, .iface 63 (.pointer (some ⟨w.heap.size + 1, 0, none⟩))] w1 _) := Lib.hid hc
  obtain ⟨k, c, x, l, A, m, cap⟩ := h
  dsimp only [Hd.cells] at hw1 ⊢
  have HB1 := Lib.hid hb1
  clear hc hT1 hT ht1 hI1 hTab hb1
  go_enter Tryd.func9, Tryd.ntmps9
  go_wp2_with (first
    | (rw [← hw1]; refine HC.out.mono ?_; rintro e w2 ⟨rfl, hv, hb2⟩; have hc2 := hv.1.cell)
    | fail)
  go_ret
  exact ⟨rfl, HB1.out.trans (hb2.mono (by omega))⟩
end Go.Proofs.YtafdpimkfkddaaaDoor
