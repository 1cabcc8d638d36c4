/-
  Contract of sp.Marks.
-/
import Derived.Test.YtafdpimkfkddaaaDoorSpMk
import Derived.Test.YtafdpimkfkddaaaDoorSpDl
import Derived.OwnWalk
namespace Go.Proofs.YtafdpimkfkddaaaDoor
open Go.RowKit
set_option maxRecDepth 100000

/-- the first k pairs hold their number and f of it -/
def Filled (xs : List Value) (k : Nat) (f : Nat → Int) : Prop := ∀ j, j < k → xs[j * 2]? = some (.int .i64 (j : Int)) ∧ xs[j * 2 + 1]? = some (.int .i64 (f j))
theorem Filled.next {xs : List Value} {k n : Nat} {f : Nat → Int} (h : Filled xs k f) (hl : xs.length = n * 2) (hk : k < n) : Filled ((xs.set (k * 2) (.int .i64 (k : Int))).set (k * 2 + 1) (.int .i64 (f k))) (k + 1) f := by
  intro j hj
  simp only [List.getElem?_set]
  by_cases h1 : j = k
  · subst h1
    simp
    omega
  · obtain ⟨h2, h3⟩ := h j (by omega)
    rw [if_neg (by omega), if_neg (by omega), if_neg (by omega), if_neg (by omega)]
    exact ⟨h2, h3⟩

theorem Tryd.infoPairP : ∃ i0, Tryd.prog.info? 54 = some i0 ∧ i0.zero = some (.agg #[.int .i64 0, .int .i64 0]) ∧ i0.size = 2 ∧ i0.bytes = 16 := by
  have h : (Tryd.prog.info? 54).map (fun i => (i.zero, i.size, i.bytes)) = some (some (.agg #[.int .i64 0, .int .i64 0]), 2, 16) := by kernel_rfl
  obtain ⟨i0, hi, hii⟩ := Option.map_eq_some_iff.1 h
  simp only [Prod.mk.injEq] at hii
  exact ⟨i0, hi, hii⟩

theorem markR (M C : Nat) : Rdr (BoxT C 86) (MarkI M C) M 87 (.pointer (some ⟨C, 0, none⟩)) (fun s _ _ => (s ++ [0], true)) (fun s _ _ _ => s) mkP where
  drew := fun w s n h => h
  there := fun w s n ⟨_, g, cap, h, _⟩ => ⟨_, h⟩
  leaf := ⟨79, .pointer (some ⟨C, 0, none⟩), Meth.direct (fun _ _ => by kernel_rfl) (fun _ _ => by kernel_rfl) (fun _ _ => by kernel_rfl), fun w s n a h hn => mark_leaf M C n a s w h hn⟩
  ser := ⟨73, .agg #[], Meth.emb (sg := 83) (by decide +kernel) (by kernel_rfl) (by kernel_rfl) Tryd.underlying86 rfl rfl rfl rfl (fun _ _ => by kernel_rfl) (fun _ _ => by kernel_rfl),
    fun w s x m t h _ _ _ => (patient_series x m t w).mono fun e w' ⟨h1, h2⟩ => ⟨h1, h2 ▸ h.alloc _, h2 ▸ (Below.refl M w).alloc (by have := h.lt; have := h.1; omega) _⟩⟩
  par := ⟨80, .pointer (some ⟨C, 0, none⟩), Meth.direct (fun _ _ => by kernel_rfl) (fun _ _ => by kernel_rfl) (fun _ _ => by kernel_rfl), fun w s x m t h hx hm ht => mark_par M C x m t s w h hx hm ht⟩

/-- the second numbering of leaf k -/
def Tm.posN (T : Tm) (k : Nat) : Int := T.pos (k : Int)

theorem own_below {w w' : World} {base size m M : Nat} {e : TypeId} {x : Value} {news : List Value} (h : w.ownsRow base e size x m news) (hb : Below M w w') (hM : ∀ j, x.ownBlock = some j → j < M) : w'.ownsRow base e size x m news := by
  refine ⟨h.1, ?_⟩
  rcases h.2 with h0 | ⟨g, cap, cur, h1, h2, h3, h4⟩
  · exact .inl h0
  · refine .inr ⟨g, cap, cur, h1, h2, ?_, h4⟩
    rw [hb.block g (hM g (by rw [h1]; rfl))]
    exact h3

set_option maxHeartbeats 1000000 in
theorem marks_any (T : Tm) (h : Hd) (w : World) (hT : TIn w w.heap.size T h) (hs : T.sz ≤ 1048576) :
    Calls Tryd.prog 16 #[.agg h.cells] w fun e w' => ∃ A c xs, e = .returned (.slice A T.sz c) ∧ w'.ownsRow w.heap.size 54 2 (.slice A T.sz c) T.sz xs ∧ Filled xs T.sz T.posN ∧ Below w.heap.size w w' := by
  have key : ∃ w1, w1 = (((w.alloc (.cells h.cells 26)).alloc (.cells #[.int .i64 0] 3)).alloc (.cells #[.slice (some ⟨w.heap.size + 1, 0, none⟩) 1 1] 86)) ∧ Below w.heap.size w w1 ∧ TB 26 w1 w.heap.size h ∧ MarkI (w.heap.size + 1) (w.heap.size + 1 + 1) w1 [0] 0 := by
    refine ⟨_, rfl, (((Below.refl _ _).alloc (Nat.le_refl _) _).alloc (by simp) _).alloc (by simp; omega) _, ((TB.new _ _ _).alloc _).alloc _, ⟨by omega, w.heap.size + 1, 1, ?_, ?_, rfl⟩⟩
    · have := Boxed.new ((w.alloc (.cells h.cells 26)).alloc (.cells #[.int .i64 0] 3)) 86 (.slice (some ⟨w.heap.size + 1, 0, none⟩) 1 1)
      rw [World.size_alloc, World.size_alloc] at this
      exact this
    · refine World.ownsRow.alloc ?_ _
      exact own_row1 (.cells #[.int .i64 0] 3) rfl (by simp) ⟨by simp, rfl, by simp [maxLen]⟩
  obtain ⟨w1, hw1, hb1, ht1, hI1⟩ := key
  have hT1 : TIn w1 (w.heap.size + 1) T h := (hT.below hb1 (Nat.le_refl _)).more (by omega)
  have hc := read_any (markR (w.heap.size + 1) (w.heap.size + 1 + 1)) T w1 w.heap.size 0 h [0] 0 ht1.at (by omega) hT1 hI1 (by omega)
  obtain ⟨Z', he, hmk⟩ := markT_ok T [0] 0 rfl
  unfold markT at he
  rw [he] at hc
  dsimp only at hc
  have HC : Hid (Calls Tryd.prog 15 #[.pointer (some ⟨w.heap.size, 0, none⟩), .int .i64 0, .iface 87 (.pointer (some ⟨w.heap.size + 1 + 1, 0, none⟩))] w1 _) := Lib.hid hc
  obtain ⟨k, c, x, l, A, m, cap⟩ := h
  dsimp only [Hd.cells] at hw1 ⊢
  obtain ⟨i0, hi, hz0, hz1, hz2⟩ := Tryd.infoPairP
  obtain ⟨n, hn⟩ : ∃ n, n = T.sz := ⟨_, rfl⟩
  have hlen : Z'.length = n + 1 := by rw [hmk.len, hn]; omega
  have hpos : ∀ k, k < n → ∀ y, Cg y (ps Z' (k + 1)) → IntKind.i64.wrap ((k : Int) + y) = T.posN k := fun k hk y hy => mark_pos T Z' hmk k (by omega) hs y hy
  rw [← hn] at hs
  rw [← hn] at HC ⊢
  have HP := Lib.hid hpos
  have HLEN := Lib.hid hlen
  have HB1 := Lib.hid hb1
  have hsz1 : w.heap.size + 1 + 1 < w1.heap.size := by rw [hw1]; simp
  have HS1 := Lib.hid hsz1
  have hmw : IntKind.i64.wrap (((n + 1 : Nat) : Int) - 1) = (n : Int) := by rw [IntKind.wrap_i64]; omega
  clear hc hT1 hT ht1 hI1 he hmk hlen hpos hb1 hsz1 hn
  go_enter Tryd.func16, Tryd.ntmps16
  go_wp2_with (first
    | (rw [← hw1]; refine HC.out.mono ?_; rintro e w2 ⟨rfl, ⟨_, g, gcap, hv, hown, _⟩, hb2⟩; have hc2 := hv.cell; rw [HLEN.out] at hc2)
    | (at_make; refine wpList_make_full _ rfl _ _ 51 rfl w2.heap.size 54 i0 _ 2 Tryd.underlying51 hi hz0 hz1 .i64 .i64 _ _ n rfl rfl (by first | rfl | omega) (by first | rfl | omega) (by rw [hz2]; omega) (by unfold maxLen; omega) (Nat.le_refl _) ?_; intro w3 hown3 hgrow3)
    | fail)
  have hlt2 : w.heap.size + 1 + 1 < w2.heap.size := hv.lt
  have hb23 : Below w2.heap.size w2 w3 := (Below.refl _ _).grown hgrow3 (Nat.le_refl _) fun j ej => by cases ej
  have hb3 : Below w.heap.size w w3 := HB1.out.trans ((hb2.trans (hb23.mono (by omega))).mono (by omega))
  obtain ⟨G, hG⟩ : ∃ G, G = w2.heap.size := ⟨_, rfl⟩
  rw [← hG] at hown3 hb23 hlt2 ⊢
  have hv3 : Boxed w3 (w.heap.size + 1 + 1) 86 (.slice (some ⟨g, 0, none⟩) Z'.length gcap) := hv.kept hgrow3 (by simp)
  have hr3 := hown.kept hgrow3 (.inr (by simp [Value.ownBlock]))
  rw [HLEN.out] at hv3 hr3
  have hgG : g < G := by rw [hG]; exact (hown.lt g rfl).2
  have HGC : Hid (w.heap.size ≤ G) := Lib.hid (by omega)
  have HW3 := Lib.hid (Below.refl G w3)
  have HV3 := Lib.hid hv3
  have HR3 := Lib.hid hr3
  have HO3 := Lib.hid hown3
  have HB3 := Lib.hid hb3
  have HLT := Lib.hid hlt2
  have HGG := Lib.hid hgG
  clear hv hown hb2 hc2 hgrow3 hb23 hG hv3 hr3 hown3 hb3 hlt2 hgG hw1 hmw
  go_loopw [5, 18] (fun sh i wr => ∃ (k : Nat) (s : Int) (xs : List Value), k ≤ n ∧ i = .int .i64 k ∧ sh = .int .i64 s ∧ Hid (Cg s (ps Z' k)) ∧ Hid (wr.ownsRow G 54 2 (.slice (some ⟨G, 0, none⟩) n n) n xs) ∧ Hid (Filled xs k T.posN) ∧ Hid (Below G w3 wr)) (fun _ i _ => n - (intOf i).toNat)
  case atStart => exact ⟨0, 0, _, Nat.zero_le _, rfl, rfl, Lib.hid (Cg.refl _), HO3, Lib.hid (fun j hj => by omega), HW3⟩
  case round =>
    obtain ⟨k, s, xs, hk, rfl, rfl, hcg, hrow, hfill, hbr⟩ := hrel
    by_cases hlt : k < n
    · have hvr : Boxed wr (w.heap.size + 1 + 1) 86 (.slice (some ⟨g, 0, none⟩) (n + 1) gcap) := (hbr.out.block _ HLT.out).trans HV3.out
      have hrr := own_below HR3.out hbr.out (fun j ej => by have : g = j := by simpa [Value.ownBlock] using ej
                                                            subst this; exact HGG.out)
      have hc := hvr.cell
      have hz := own_cell1 hrr k (by omega)
      have hfz := own_frozen hrow.out
      have hsz := hrow.out.1
      have hx0 : wr.cell? ⟨G, k * 2, none⟩ = some (xs[k * 2]'(by omega)) := by rw [hrow.out.cellAt (k * 2) (by omega)]; exact List.getElem?_eq_getElem _
      have hx1 : wr.cell? ⟨G, k * 2 + 1, none⟩ = some (xs[k * 2 + 1]'(by omega)) := by rw [hrow.out.cellAt (k * 2 + 1) (by omega)]; exact List.getElem?_eq_getElem _
      generalize xs[k * 2]'(by omega) = y0 at hx0
      generalize xs[k * 2 + 1]'(by omega) = y1 at hx1
      have hcg2 : Cg (IntKind.i64.wrap (s + z0 Z' k)) (ps Z' (k + 1)) := by
        have h1 := cg_wrap (s + z0 Z' k)
        have h2 := hcg.out
        simp only [ps]
        unfold Cg at *
        omega
      have hpk := HP.out k hlt _ hcg2
      obtain ⟨s', hs'⟩ : ∃ s', IntKind.i64.wrap (s + z0 Z' k) = s' := ⟨_, rfl⟩
      rw [hs'] at hcg2 hpk
      have HCG := Lib.hid hcg2
      have HX := Lib.hid (hfill.out.next hsz hlt)
      have HRW : Hid (((wr.setCell ⟨G, k * 2, none⟩ (.int .i64 (k : Int))).setCell ⟨G, k * 2 + 1, none⟩ (.int .i64 (T.posN k))).ownsRow G 54 2 (.slice (some ⟨G, 0, none⟩) n n) n _) := Lib.hid (own_set (own_set hrow.out _) _)
      have HBW : Hid (Below G w3 ((wr.setCell ⟨G, k * 2, none⟩ (.int .i64 (k : Int))).setCell ⟨G, k * 2 + 1, none⟩ (.int .i64 (T.posN k)))) := Lib.hid ((hbr.out.setCell (p := ⟨G, k * 2, none⟩) (Nat.le_refl _) _).setCell (p := ⟨G, k * 2 + 1, none⟩) (Nat.le_refl _) _)
      have n1 : (0 : Int) ≤ (k : Int) := by omega
      have n2 : (k : Int) < (n : Int) := by omega
      have n3 : (k : Int) < ((n + 1 : Nat) : Int) := by omega
      clear hvr hrr hcg hfill hsz hcg2
      go_wp2_with fail
      go_roundw
      case rel => exact ⟨k + 1, s', _, by omega, by go_num, rfl, HCG, HRW, HX, HBW⟩
      case measure => simp [intOf]; omega
    · obtain rfl : k = n := by omega
      go_wp2_with fail
      go_ret
      exact ⟨_, _, xs, rfl, own_more hrow.out HGC.out, hfill.out, HB3.out.trans (hbr.out.mono HGC.out)⟩
end Go.Proofs.YtafdpimkfkddaaaDoor
