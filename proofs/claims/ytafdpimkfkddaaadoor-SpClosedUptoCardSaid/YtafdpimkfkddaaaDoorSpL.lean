/-
  Contract of sp.Leaves: the accesses of a term's leaves.
-/
import Derived.Test.YtafdpimkfkddaaaDoorSpC
namespace Go.Proofs.YtafdpimkfkddaaaDoor
open Go.RowKit
set_option maxRecDepth 100000

/-- block C is a reader's box -/
def BoxT (C : Nat) (T : TypeId) (w : World) : Prop := ∃ cs, w.heap[C]? = some (.cells cs T (0, 0))

theorem Meth.direct {C : Nat} {T tp : TypeId} {nm : String} {F : FuncId} (h1 : ∀ k w, (nilAhead (k + 8) tp (.pointer (some ⟨C, 0, none⟩)) nm).run Tryd.prog w = .ok (some false) w)
    (h2 : ∀ k w, (method (k + 8) tp (.pointer (some ⟨C, 0, none⟩)) nm).run Tryd.prog w = .ok (F, .pointer (some ⟨C, 0, none⟩)) w) (h3 : ∀ args w, (callFunc F args).run Tryd.prog w = .ok (.enter F args) w) :
    Meth Tryd.prog (BoxT C T) tp (.pointer (some ⟨C, 0, none⟩)) nm F (.pointer (some ⟨C, 0, none⟩)) := ⟨h1, fun k w _ => h2 k w, h3⟩

theorem Meth.emb {C : Nat} {T tp : TypeId} {F : FuncId} {nm : String} {sg : TypeId} {fs : Array Field} {f : Field} (hc : Tryd.prog.cellsOf T ≠ 0)
    (hb : byteOfCell Tryd.prog Tryd.prog.depth T 0 = some 0)
    (hi : (Tryd.prog.info? tp).map (fun i => i.methods.find? (fun x => x.name == nm)) = some (some ⟨nm, sg, #[⟨T, 0, true⟩], some (F, false)⟩))
    (hu : Tryd.prog.underlying T = some (.struct fs)) (hf : fs[0]? = some f) (h1 : f.type = 48) (h2 : f.offset = 0) (h3 : f.byteOffset = 0)
    (hna : ∀ k w, (nilAhead (k + 8) tp (.pointer (some ⟨C, 0, none⟩)) nm).run Tryd.prog w = .ok (some false) w) (hen : ∀ args w, (callFunc F args).run Tryd.prog w = .ok (.enter F args) w) :
    Meth Tryd.prog (BoxT C T) tp (.pointer (some ⟨C, 0, none⟩)) nm F (.agg #[]) :=
  ⟨hna, fun k _ ⟨_, h⟩ => meth_emb h hc hb hi hu hf h1 h2 h3 k, hen⟩

theorem CollI.alloc {C n : Nat} {w : World} {xs : List Acc} (h : CollI C w xs n) (o : Obj) : CollI C (w.alloc o) xs n := by
  obtain ⟨v, h1, h2, h3⟩ := h
  exact ⟨v, h1.alloc o, h2.alloc o, h3⟩
theorem CollI.lt {C n : Nat} {w : World} {xs : List Acc} (h : CollI C w xs n) : C < w.heap.size := by
  obtain ⟨v, h1, _⟩ := h
  exact h1.lt

theorem collR (C : Nat) : Rdr (BoxT C 71) (CollI C) C 72 (.pointer (some ⟨C, 0, none⟩)) (fun s _ a => (s ++ [a], true)) (fun s _ _ _ => s) (fun s _ _ _ => s) where
  drew := fun w s n h => h
  there := fun w s n ⟨v, h, _⟩ => ⟨_, h⟩
  leaf := ⟨78, .pointer (some ⟨C, 0, none⟩), Meth.direct (fun _ _ => by kernel_rfl) (fun _ _ => by kernel_rfl) (fun _ _ => by kernel_rfl), fun w s n a h hn => coll_leaf C n a s w h hn⟩
  ser := ⟨73, .agg #[], Meth.emb (sg := 83) (by decide +kernel) (by kernel_rfl) (by kernel_rfl) Tryd.underlying71 rfl rfl rfl rfl (fun _ _ => by kernel_rfl) (fun _ _ => by kernel_rfl),
    fun w s x m t h _ _ _ => (patient_series x m t w).mono fun e w' ⟨h1, h2⟩ => ⟨h1, h2 ▸ h.alloc _, h2 ▸ (Below.refl C w).alloc (Nat.le_of_lt h.lt) _⟩⟩
  par := ⟨72, .agg #[], Meth.emb (sg := 83) (by decide +kernel) (by kernel_rfl) (by kernel_rfl) Tryd.underlying71 rfl rfl rfl rfl (fun _ _ => by kernel_rfl) (fun _ _ => by kernel_rfl),
    fun w s x m t h _ _ _ => (patient_parallel x m t w).mono fun e w' ⟨h1, h2⟩ => ⟨h1, h2 ▸ h.alloc _, h2 ▸ (Below.refl C w).alloc (Nat.le_of_lt h.lt) _⟩⟩

theorem told_coll (T : Tm) : ∀ (s : List Acc) (n : Nat), T.told (fun (s : List Acc) _ a => (s ++ [a], true)) (fun s _ _ _ => s) (fun s _ _ _ => s) s n = (s ++ T.lv, n + T.sz, true) := by
  induction T with
  | nil => intro s n; simp [Tm.told, Tm.lv, Tm.sz]
  | one a => intro s n; simp [Tm.told, Tm.lv, Tm.sz]
  | seq l r il ir => intro s n; simp only [Tm.told, il, both2, ir, Tm.lv, Tm.sz, List.append_assoc, Nat.add_assoc]
  | par l r il ir => intro s n; simp only [Tm.told, il, both2, ir, Tm.lv, Tm.sz, List.append_assoc, Nat.add_assoc]

theorem leaves_any (T : Tm) (h : Hd) (w : World) (hT : TIn w w.heap.size T h) (hs : T.sz ≤ 1048576) :
    Calls Tryd.prog 12 #[.agg h.cells] w fun e w' => ∃ v, e = .returned v ∧ w'.ownsRow w.heap.size 23 3 v T.lv.length (accs T.lv) ∧ Below w.heap.size w w' := by
  obtain ⟨B, hB⟩ : ∃ B, B = w.heap.size := ⟨_, rfl⟩
  have key : ∃ w1, w1 = (w.alloc (.cells h.cells 26)).alloc (.cells #[.slice none 0 0] 71) ∧ Below B w w1 ∧ TB 26 w1 B h ∧ CollI (B + 1) w1 [] 0 := by
    subst hB
    refine ⟨_, rfl, ((Below.refl _ _).alloc (Nat.le_refl _) _).alloc (by simp) _, (TB.new _ _ _).alloc _, ⟨.slice none 0 0, ?_, World.ownsRow_nil _ _ _ _, Nat.le_refl _⟩⟩
    have := Boxed.new (w.alloc (.cells h.cells 26)) 71 (.slice none 0 0)
    rwa [World.size_alloc] at this
  obtain ⟨w1, hw1, hb1, ht1, hI1⟩ := key
  have hT1 : TIn w1 (B + 1) T h := (hT.below (hB ▸ hb1) (Nat.le_refl _)).more (by omega)
  have hc := read_any (collR (B + 1)) T w1 B 0 h [] 0 ht1.at (by omega) hT1 hI1 (by omega)
  rw [told_coll] at hc
  dsimp only at hc
  have HC : Hid (Calls Tryd.prog 15 #[.pointer (some ⟨B, 0, none⟩), .int .i64 0, .iface 72 (.pointer (some ⟨B + 1, 0, none⟩))] w1 _) := Lib.hid hc
  obtain ⟨k, c, x, l, A, m, cap⟩ := h
  dsimp only [Hd.cells] at hw1 ⊢
  clear hc hT1 hT ht1 hI1
  subst hB
  go_enter Tryd.func12, Tryd.ntmps12
  go_wp2_with (first
    | (rw [← hw1]; refine HC.out.mono ?_; rintro e w2 ⟨rfl, ⟨v, hv, hown, _⟩, hb2⟩; have hc2 := hv.cell)
    | fail)
  go_ret
  rw [List.nil_append] at hown
  refine ⟨_, rfl, ⟨hown.1, ?_⟩, hb1.trans (hb2.mono (by omega))⟩
  rcases hown.2 with h0 | ⟨g, cap', cur, h1, h2, h3⟩
  · exact .inl h0
  · exact .inr ⟨g, cap', cur, h1, by omega, h3⟩
end Go.Proofs.YtafdpimkfkddaaaDoor
