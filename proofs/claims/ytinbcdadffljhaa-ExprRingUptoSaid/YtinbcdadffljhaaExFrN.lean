/-
  Contract of the program's from on makers of nothing: the names are laid down as they are met.
-/
import Derived.Test.YtinbcdadffljhaaExVm
import Derived.Test.YtinbcdadffljhaaExNm
import Derived.Deep.RegionHeld3
import Derived.Deep.CutRange
namespace Go.Proofs.Ytinbcdadffljhaa
open Go.RowKit Go.Maps Go.WideMaps
set_option maxRecDepth 100000

/-- what is held while from works: the maker's box, the header of the expression -/
abbrev HeldG (D b o : Nat) (f0 f1 f2 : Value) (h : Eh) (n0 : Nat) (W : World) : Prop :=
  W.cell? ⟨D, 0, none⟩ = some f0 ∧ W.cell? ⟨D, 1, none⟩ = some f1 ∧ W.cell? ⟨D, 2, none⟩ = some f2 ∧
  W.cell? ⟨b, o, none⟩ = some (.int .i64 h.k) ∧ W.cell? ⟨b, o + 1, none⟩ = some (.int .i64 h.n) ∧ W.cell? ⟨b, o + 2, none⟩ = some (.string h.s) ∧ W.cell? ⟨b, o + 3, none⟩ = some (.slice h.A h.m h.cap) ∧ n0 ≤ W.heap.size
section
variable {D b o n0 : Nat} {f0 f1 f2 : Value} {h : Eh} {W W2 : World}
theorem HeldG.drew (hh : HeldG D b o f0 f1 f2 h n0 W) : HeldG D b o f0 f1 f2 h n0 W.drew := hh
theorem HeldG.keep (hh : HeldG D b o f0 f1 f2 h n0 W) {q : Nat → Prop} (hD : D < n0 ∧ q D) (hb : b < n0 ∧ q b) (hk : Keeps q W W2) : HeldG D b o f0 f1 f2 h n0 W2 := by
  obtain ⟨a1, a2, a3, a4, a5, a6, a7, a8⟩ := hh
  have cD : ∀ x, W2.cell? ⟨D, x, none⟩ = W.cell? ⟨D, x, none⟩ := fun x => hk.cell (q := ⟨D, x, none⟩) (by show D < _; omega) hD.2 rfl
  have cb : ∀ x, W2.cell? ⟨b, x, none⟩ = W.cell? ⟨b, x, none⟩ := fun x => hk.cell (q := ⟨b, x, none⟩) (by show b < _; omega) hb.2 rfl
  exact ⟨(cD _).trans a1, (cD _).trans a2, (cD _).trans a3, (cb _).trans a4, (cb _).trans a5, (cb _).trans a6, (cb _).trans a7, Nat.le_trans a8 hk.size⟩
theorem HeldG.alloc (hh : HeldG D b o f0 f1 f2 h n0 W) (u : Obj) : HeldG D b o f0 f1 f2 h n0 (W.alloc u) := by
  obtain ⟨a1, a2, a3, a4, a5, a6, a7, a8⟩ := hh
  have c : ∀ {a : Addr} {v : Value}, W.cell? a = some v → (W.alloc u).cell? a = some v := fun {a v} h => (World.cell?_alloc_lt _ _ _ (World.block_lt_of_cell? _ _ h)).trans h
  exact ⟨c a1, c a2, c a3, c a4, c a5, c a6, c a7, by simp; omega⟩
end
theorem NS.below {base f g p : Nat} {l : List ByteArray} {O : Nat → Prop} {W W' : World} (h : NS base f g p l O W) (hb : Below W.heap.size W W') : NS base f g p l O W' ∧ StepO O O W W' :=
  ⟨h.step hb, ⟨Keeps.of_below hb (fun k hk _ => hk), fun k hk => .inl hk, fun k hk => by have := h.top hk; have := hb.size; omega⟩⟩

/-- from lays down T's names -/
def FrN (base f g p : Nat) (T : Xp) : Prop :=
  ∀ (h : Eh) (b o : Nat) (l : List ByteArray) (O : Nat → Prop) (W : World), EhAt W b o h → b < base → EIn W base T h → base ≤ W.heap.size → NS base f g p l O W → l.length + T.nl ≤ 4194304 →
    Calls Try.prog 37 #[.agg #[.func (.func 34) #[] #[], .func (.func 35) #[] #[.pointer (some ⟨p, 0, none⟩), .pointer (some ⟨f, 0, none⟩)], .func (.func 36) #[] #[]], .pointer (some ⟨b, o, none⟩)] W
      fun e W' => e = .returned (.agg #[]) ∧ ∃ O', NS base f g p (mrgN l T.names) O' W' ∧ StepO O O' W W'

set_option maxHeartbeats 8000000 in
theorem frn_num {base f g p : Nat} (z : Int) : FrN base f g p (.num z) := by
  intro h b o l O W hh hb hT hB hW hl
  have htwo := hT.two
  obtain ⟨k, n, s, A, m, cap⟩ := h
  have key : ∃ w1, w1 = (W.alloc (.cells #[.func (.func 34) #[] #[], .func (.func 35) #[] #[.pointer (some ⟨p, 0, none⟩), .pointer (some ⟨f, 0, none⟩)], .func (.func 36) #[] #[]] 65)).alloc (.cells #[] 59) ∧ Below W.heap.size W w1 ∧ w1.heap.size = W.heap.size + 2 ∧ w1.heap[W.heap.size]? = some (.cells #[.func (.func 34) #[] #[], .func (.func 35) #[] #[.pointer (some ⟨p, 0, none⟩), .pointer (some ⟨f, 0, none⟩)], .func (.func 36) #[] #[]] 65 (0, 0)) ∧ w1.heap[W.heap.size + 1]? = some (.cells #[] 59 (0, 0)) := by
    refine ⟨_, rfl, ((Below.refl _ _).alloc (Nat.le_refl _) _).alloc (by simp) _, by simp, ((World.grownBy_alloc _ _ none).block _ (by simp) (by simp)).trans (World.alloc_heap_new _ _), ?_⟩
    have := World.alloc_heap_new (W.alloc (.cells #[.func (.func 34) #[] #[], .func (.func 35) #[] #[.pointer (some ⟨p, 0, none⟩), .pointer (some ⟨f, 0, none⟩)], .func (.func 36) #[] #[]] 65)) (.cells #[] 59)
    simpa using this
  obtain ⟨w1, hw1, hb1, hs1, e, er⟩ := key
  have d0 : w1.cell? ⟨W.heap.size, 0, none⟩ = some (.func (.func 34) #[] #[]) := by simp only [World.cell?, e]; rfl
  have d1 : w1.cell? ⟨W.heap.size, 1, none⟩ = some (.func (.func 35) #[] #[.pointer (some ⟨p, 0, none⟩), .pointer (some ⟨f, 0, none⟩)]) := by simp only [World.cell?, e]; rfl
  have d2 : w1.cell? ⟨W.heap.size, 2, none⟩ = some (.func (.func 36) #[] #[]) := by simp only [World.cell?, e]; rfl
  have hbs : b < W.heap.size := by omega
  have hh1 := hh.below hb1 hbs
  have hx : HeldG W.heap.size b o (.func (.func 34) #[] #[]) (.func (.func 35) #[] #[.pointer (some ⟨p, 0, none⟩), .pointer (some ⟨f, 0, none⟩)]) (.func (.func 36) #[] #[]) ⟨k, n, s, A, m, cap⟩ w1.heap.size w1 := ⟨d0, d1, d2, hh1.h0, hh1.h1, hh1.h2, hh1.h3, Nat.le_refl _⟩
  obtain ⟨hW1, hk1⟩ := hW.below hb1
  have hD : W.heap.size < w1.heap.size ∧ ¬ O W.heap.size := ⟨by omega, fun hO => by have := hW.top hO; omega⟩
  have hR : W.heap.size + 1 < w1.heap.size ∧ ¬ O (W.heap.size + 1) := ⟨by omega, fun hO => by have := hW.top hO; omega⟩
  have hbO : b < w1.heap.size ∧ ¬ O b := ⟨by omega, fun hO => by have := hW.low' hO; omega⟩
  have HW := Lib.hid hw1
  obtain ⟨rfl, rfl, _⟩ := hT
  have A0 : Hid (∀ V, HeldG W.heap.size b o (.func (.func 34) #[] #[]) (.func (.func 35) #[] #[.pointer (some ⟨p, 0, none⟩), .pointer (some ⟨f, 0, none⟩)]) (.func (.func 36) #[] #[]) ⟨1, n, s, A, m, cap⟩ w1.heap.size V → Below w1.heap.size w1 V → Calls Try.prog 34 #[.int .i64 n] V fun e w' => e = .returned (.agg #[]) ∧ HeldG W.heap.size b o (.func (.func 34) #[] #[]) (.func (.func 35) #[] #[.pointer (some ⟨p, 0, none⟩), .pointer (some ⟨f, 0, none⟩)]) (.func (.func 36) #[] #[]) ⟨1, n, s, A, m, cap⟩ w1.heap.size w' ∧ Below w1.heap.size w1 w') := Lib.hid fun V hV hBV => by
    refine (nnum_any _ V).mono ?_
    rintro e w' ⟨rfl, h1⟩
    exact ⟨rfl, hV.keep (q := fun _ => True) ⟨hD.1, trivial⟩ ⟨hbO.1, trivial⟩ (Keeps.of_below h1 (fun k hk _ => hk)), below_step hBV hBV.size h1⟩
  have HK := Lib.hid hk1
  have HW1 := Lib.hid hW1
  have HR := Lib.hid (And.intro hR er)
  obtain ⟨a1, a2, a3, a4, a5, a6, a7, a8⟩ := hx
  dsimp only at a4 a5 a6 a7
  clear hw1 e er d0 d1 d2 hh hh1 hk1 hW hW1 hb1 hD hbO hR hs1 htwo hB
  go_enter Try.func37, Try.ntmps37
  go_upto_region 1 with fail
  rw [← HW.out]
  go_wp2_with fail
  go_region_held3 (HeldG W.heap.size b o (.func (.func 34) #[] #[]) (.func (.func 35) #[] #[.pointer (some ⟨p, 0, none⟩), .pointer (some ⟨f, 0, none⟩)]) (.func (.func 36) #[] #[]) ⟨1, n, s, A, m, cap⟩ w1.heap.size)
    (first
      | (go_split_ands; refine ⟨?_, ?_, ?_, ?_, ?_, ?_, ?_, ?_⟩ <;> assumption)
      | (go_split_ands; exact HeldG.drew ⟨‹_›, ‹_›, ‹_›, ‹_›, ‹_›, ‹_›, ‹_›, ‹_›⟩)
      | (go_split_ands; exact HeldG.alloc ⟨‹_›, ‹_›, ‹_›, ‹_›, ‹_›, ‹_›, ‹_›, ‹_›⟩ _))
    (first
      | (go_at_call 34; with_reducible refine (A0.out _ (by assumption) (by first | exact (Below.refl _ _).drew | exact ((Below.refl _ _).drew).alloc (Nat.le_refl _) _ | exact ((Below.refl _ _).alloc (Nat.le_refl _) _).drew)).mono ?_; rintro e w5 ⟨rfl, hq5, hb5⟩))
  all_goals
    go_wp2_with fail
    refine bodyPost_ret (results_cell_row rfl _ _ (W.heap.size + 1) 59 _ (0, 0) _ rfl ((hb5.block _ HR.out.1.1).trans HR.out.2) rfl rfl Try.infoNo) rfl ?_
    obtain ⟨h8, h9⟩ := HW1.out.below hb5
    exact ⟨rfl, O, h8, HK.out.trans h9⟩

set_option maxHeartbeats 8000000 in
theorem frn_nam {base f g p : Nat} (z : ByteArray) : FrN base f g p (.nam z) := by
  intro h b o l O W hh hb hT hB hW hl
  have htwo := hT.two
  obtain ⟨k, n, s, A, m, cap⟩ := h
  have key : ∃ w1, w1 = (W.alloc (.cells #[.func (.func 34) #[] #[], .func (.func 35) #[] #[.pointer (some ⟨p, 0, none⟩), .pointer (some ⟨f, 0, none⟩)], .func (.func 36) #[] #[]] 65)).alloc (.cells #[] 59) ∧ Below W.heap.size W w1 ∧ w1.heap.size = W.heap.size + 2 ∧ w1.heap[W.heap.size]? = some (.cells #[.func (.func 34) #[] #[], .func (.func 35) #[] #[.pointer (some ⟨p, 0, none⟩), .pointer (some ⟨f, 0, none⟩)], .func (.func 36) #[] #[]] 65 (0, 0)) ∧ w1.heap[W.heap.size + 1]? = some (.cells #[] 59 (0, 0)) := by
    refine ⟨_, rfl, ((Below.refl _ _).alloc (Nat.le_refl _) _).alloc (by simp) _, by simp, ((World.grownBy_alloc _ _ none).block _ (by simp) (by simp)).trans (World.alloc_heap_new _ _), ?_⟩
    have := World.alloc_heap_new (W.alloc (.cells #[.func (.func 34) #[] #[], .func (.func 35) #[] #[.pointer (some ⟨p, 0, none⟩), .pointer (some ⟨f, 0, none⟩)], .func (.func 36) #[] #[]] 65)) (.cells #[] 59)
    simpa using this
  obtain ⟨w1, hw1, hb1, hs1, e, er⟩ := key
  have d0 : w1.cell? ⟨W.heap.size, 0, none⟩ = some (.func (.func 34) #[] #[]) := by simp only [World.cell?, e]; rfl
  have d1 : w1.cell? ⟨W.heap.size, 1, none⟩ = some (.func (.func 35) #[] #[.pointer (some ⟨p, 0, none⟩), .pointer (some ⟨f, 0, none⟩)]) := by simp only [World.cell?, e]; rfl
  have d2 : w1.cell? ⟨W.heap.size, 2, none⟩ = some (.func (.func 36) #[] #[]) := by simp only [World.cell?, e]; rfl
  have hbs : b < W.heap.size := by omega
  have hh1 := hh.below hb1 hbs
  have hx : HeldG W.heap.size b o (.func (.func 34) #[] #[]) (.func (.func 35) #[] #[.pointer (some ⟨p, 0, none⟩), .pointer (some ⟨f, 0, none⟩)]) (.func (.func 36) #[] #[]) ⟨k, n, s, A, m, cap⟩ w1.heap.size w1 := ⟨d0, d1, d2, hh1.h0, hh1.h1, hh1.h2, hh1.h3, Nat.le_refl _⟩
  obtain ⟨hW1, hk1⟩ := hW.below hb1
  have hD : W.heap.size < w1.heap.size ∧ ¬ O W.heap.size := ⟨by omega, fun hO => by have := hW.top hO; omega⟩
  have hR : W.heap.size + 1 < w1.heap.size ∧ ¬ O (W.heap.size + 1) := ⟨by omega, fun hO => by have := hW.top hO; omega⟩
  have hbO : b < w1.heap.size ∧ ¬ O b := ⟨by omega, fun hO => by have := hW.low' hO; omega⟩
  have HW := Lib.hid hw1
  obtain ⟨rfl, rfl, hsz⟩ := hT
  have hl2 : l.length ≤ 4194304 := by omega
  have A0 : Hid (∀ V, HeldG W.heap.size b o (.func (.func 34) #[] #[]) (.func (.func 35) #[] #[.pointer (some ⟨p, 0, none⟩), .pointer (some ⟨f, 0, none⟩)]) (.func (.func 36) #[] #[]) ⟨2, n, s, A, m, cap⟩ w1.heap.size V → Below w1.heap.size w1 V → Calls Try.prog 35 #[.string s, .pointer (some ⟨p, 0, none⟩), .pointer (some ⟨f, 0, none⟩)] V fun e w' => e = .returned (.agg #[]) ∧ HeldG W.heap.size b o (.func (.func 34) #[] #[]) (.func (.func 35) #[] #[.pointer (some ⟨p, 0, none⟩), .pointer (some ⟨f, 0, none⟩)]) (.func (.func 36) #[] #[]) ⟨2, n, s, A, m, cap⟩ w1.heap.size w' ∧ (∃ O', NS base f g p (addN l s) O' w' ∧ StepO O O' w1 w')) := Lib.hid fun V hV hBV => by
    obtain ⟨h8, h9⟩ := hW1.below hBV
    refine (nname_any s V hsz hl2 h8).mono ?_
    rintro e w' ⟨rfl, O', h1, h2⟩
    exact ⟨rfl, hV.keep ⟨hD.1, hD.2⟩ ⟨hbO.1, hbO.2⟩ h2.keeps, O', h1, h9.trans h2⟩
  have HK := Lib.hid hk1
  have HW1 := Lib.hid hW1
  have HR := Lib.hid (And.intro hR er)
  obtain ⟨a1, a2, a3, a4, a5, a6, a7, a8⟩ := hx
  dsimp only at a4 a5 a6 a7
  clear hw1 e er d0 d1 d2 hh hh1 hk1 hW hW1 hb1 hD hbO hR hs1 htwo hB
  clear hsz hl hl2
  go_enter Try.func37, Try.ntmps37
  go_upto_region 1 with fail
  rw [← HW.out]
  go_wp2_with fail
  go_region_held3 (HeldG W.heap.size b o (.func (.func 34) #[] #[]) (.func (.func 35) #[] #[.pointer (some ⟨p, 0, none⟩), .pointer (some ⟨f, 0, none⟩)]) (.func (.func 36) #[] #[]) ⟨2, n, s, A, m, cap⟩ w1.heap.size)
    (first
      | (go_split_ands; refine ⟨?_, ?_, ?_, ?_, ?_, ?_, ?_, ?_⟩ <;> assumption)
      | (go_split_ands; exact HeldG.drew ⟨‹_›, ‹_›, ‹_›, ‹_›, ‹_›, ‹_›, ‹_›, ‹_›⟩)
      | (go_split_ands; exact HeldG.alloc ⟨‹_›, ‹_›, ‹_›, ‹_›, ‹_›, ‹_›, ‹_›, ‹_›⟩ _))
    (first
      | (go_at_call 35; with_reducible refine (A0.out _ (by assumption) (by first | exact (Below.refl _ _).drew | exact ((Below.refl _ _).drew).alloc (Nat.le_refl _) _ | exact ((Below.refl _ _).alloc (Nat.le_refl _) _).drew)).mono ?_; rintro e w5 ⟨rfl, hq5, hn5⟩))
  all_goals
    obtain ⟨O5, h5, k5⟩ := hn5
    have H5 := Lib.hid (And.intro h5 k5)
    clear h5 k5
    go_wp2_with fail
    refine bodyPost_ret (results_cell_row rfl _ _ (W.heap.size + 1) 59 _ (0, 0) _ rfl ((H5.out.2.keeps.block _ HR.out.1.1 HR.out.1.2).trans HR.out.2) rfl rfl Try.infoNo) rfl ?_
    exact ⟨rfl, O5, H5.out.1, HK.out.trans H5.out.2⟩

set_option maxHeartbeats 8000000 in
theorem frn_nul {base f g p : Nat} : FrN base f g p .nul := by
  intro h b o l O W hh hb hT hB hW hl
  have htwo := hT.two
  obtain ⟨k, n, s, A, m, cap⟩ := h
  have key : ∃ w1, w1 = (W.alloc (.cells #[.func (.func 34) #[] #[], .func (.func 35) #[] #[.pointer (some ⟨p, 0, none⟩), .pointer (some ⟨f, 0, none⟩)], .func (.func 36) #[] #[]] 65)).alloc (.cells #[] 59) ∧ Below W.heap.size W w1 ∧ w1.heap.size = W.heap.size + 2 ∧ w1.heap[W.heap.size]? = some (.cells #[.func (.func 34) #[] #[], .func (.func 35) #[] #[.pointer (some ⟨p, 0, none⟩), .pointer (some ⟨f, 0, none⟩)], .func (.func 36) #[] #[]] 65 (0, 0)) ∧ w1.heap[W.heap.size + 1]? = some (.cells #[] 59 (0, 0)) := by
    refine ⟨_, rfl, ((Below.refl _ _).alloc (Nat.le_refl _) _).alloc (by simp) _, by simp, ((World.grownBy_alloc _ _ none).block _ (by simp) (by simp)).trans (World.alloc_heap_new _ _), ?_⟩
    have := World.alloc_heap_new (W.alloc (.cells #[.func (.func 34) #[] #[], .func (.func 35) #[] #[.pointer (some ⟨p, 0, none⟩), .pointer (some ⟨f, 0, none⟩)], .func (.func 36) #[] #[]] 65)) (.cells #[] 59)
    simpa using this
  obtain ⟨w1, hw1, hb1, hs1, e, er⟩ := key
  have d0 : w1.cell? ⟨W.heap.size, 0, none⟩ = some (.func (.func 34) #[] #[]) := by simp only [World.cell?, e]; rfl
  have d1 : w1.cell? ⟨W.heap.size, 1, none⟩ = some (.func (.func 35) #[] #[.pointer (some ⟨p, 0, none⟩), .pointer (some ⟨f, 0, none⟩)]) := by simp only [World.cell?, e]; rfl
  have d2 : w1.cell? ⟨W.heap.size, 2, none⟩ = some (.func (.func 36) #[] #[]) := by simp only [World.cell?, e]; rfl
  have hbs : b < W.heap.size := by omega
  have hh1 := hh.below hb1 hbs
  have hx : HeldG W.heap.size b o (.func (.func 34) #[] #[]) (.func (.func 35) #[] #[.pointer (some ⟨p, 0, none⟩), .pointer (some ⟨f, 0, none⟩)]) (.func (.func 36) #[] #[]) ⟨k, n, s, A, m, cap⟩ w1.heap.size w1 := ⟨d0, d1, d2, hh1.h0, hh1.h1, hh1.h2, hh1.h3, Nat.le_refl _⟩
  obtain ⟨hW1, hk1⟩ := hW.below hb1
  have hD : W.heap.size < w1.heap.size ∧ ¬ O W.heap.size := ⟨by omega, fun hO => by have := hW.top hO; omega⟩
  have hR : W.heap.size + 1 < w1.heap.size ∧ ¬ O (W.heap.size + 1) := ⟨by omega, fun hO => by have := hW.top hO; omega⟩
  have hbO : b < w1.heap.size ∧ ¬ O b := ⟨by omega, fun hO => by have := hW.low' hO; omega⟩
  have HW := Lib.hid hw1
  obtain ⟨k1, k2, _⟩ := hT
  unfold Eh.two at htwo
  dsimp only at k1 k2 htwo
  have k11 : (k == 1) = false := by simpa using k1
  have k22 : (k == 2) = false := by simpa using k2
  have A0 : Hid (∀ V, Calls Try.prog 34 #[.int .i64 0] V fun e w' => e = .returned (.agg #[]) ∧ Below V.heap.size V w') := Lib.hid fun V => nnum_any 0 V
  have HK := Lib.hid hk1
  have HW1 := Lib.hid hW1
  have HR := Lib.hid (And.intro hR er)
  obtain ⟨a1, a2, a3, a4, a5, a6, a7, a8⟩ := hx
  dsimp only at a4 a5 a6 a7
  obtain ⟨q, hq⟩ : ∃ q, q = (decide (3 ≤ k) && decide (k ≤ 9)) := ⟨_, rfl⟩
  rw [← hq] at htwo
  have B5 : Hid ((decide (3 ≤ k) && decide (k ≤ 9)) = q) := Lib.hid hq.symm
  have hm : q = true → decide ((2 : Int) ≤ (m : Int)) = false := fun h => by rw [h] at htwo; simp at htwo ⊢; omega
  clear hq
  clear hw1 e er d0 d1 d2 hh hh1 hk1 hW hW1 hb1 hD hbO hR hs1 htwo hB
  clear k1 k2
  cases q with
  | false =>
    clear hm
    go_enter Try.func37, Try.ntmps37
    go_upto_region 1 with fail
    rw [← HW.out]
    go_wp2_with fail
    refine (isop_any k w1).mono ?_
    rintro e w5 ⟨rfl, rfl⟩
    rw [B5.out]
    go_wp2_with fail
    refine (A0.out w5).mono ?_
    rintro e w6 ⟨rfl, hb6⟩
    go_wp2_with fail
    refine bodyPost_ret (results_cell_row rfl _ _ (W.heap.size + 1) 59 _ (0, 0) _ rfl ((hb6.block _ HR.out.1.1).trans HR.out.2) rfl rfl Try.infoNo) rfl ?_
    obtain ⟨h8, h9⟩ := HW1.out.below hb6
    exact ⟨rfl, O, h8, HK.out.trans h9⟩
  | true =>
    have hm2 := hm rfl
    clear hm
    go_enter Try.func37, Try.ntmps37
    go_upto_region 1 with fail
    rw [← HW.out]
    go_wp2_with fail
    refine (isop_any k w1).mono ?_
    rintro e w5 ⟨rfl, rfl⟩
    rw [B5.out]
    go_wp2_with fail
    refine (A0.out w5).mono ?_
    rintro e w6 ⟨rfl, hb6⟩
    go_wp2_with fail
    refine bodyPost_ret (results_cell_row rfl _ _ (W.heap.size + 1) 59 _ (0, 0) _ rfl ((hb6.block _ HR.out.1.1).trans HR.out.2) rfl rfl Try.infoNo) rfl ?_
    obtain ⟨h8, h9⟩ := HW1.out.below hb6
    exact ⟨rfl, O, h8, HK.out.trans h9⟩

set_option maxHeartbeats 8000000 in
theorem frn_op {base f g p : Nat} {k0 : Int} {L R : Xp} (hL : FrN base f g p L) (hR0 : FrN base f g p R) : FrN base f g p (.op k0 L R) := by
  intro h b o l O W hh hb hT hB hW hl
  have htwo := hT.two
  obtain ⟨k, n, s, A, m, cap⟩ := h
  have key : ∃ w1, w1 = (W.alloc (.cells #[.func (.func 34) #[] #[], .func (.func 35) #[] #[.pointer (some ⟨p, 0, none⟩), .pointer (some ⟨f, 0, none⟩)], .func (.func 36) #[] #[]] 65)).alloc (.cells #[] 59) ∧ Below W.heap.size W w1 ∧ w1.heap.size = W.heap.size + 2 ∧ w1.heap[W.heap.size]? = some (.cells #[.func (.func 34) #[] #[], .func (.func 35) #[] #[.pointer (some ⟨p, 0, none⟩), .pointer (some ⟨f, 0, none⟩)], .func (.func 36) #[] #[]] 65 (0, 0)) ∧ w1.heap[W.heap.size + 1]? = some (.cells #[] 59 (0, 0)) := by
    refine ⟨_, rfl, ((Below.refl _ _).alloc (Nat.le_refl _) _).alloc (by simp) _, by simp, ((World.grownBy_alloc _ _ none).block _ (by simp) (by simp)).trans (World.alloc_heap_new _ _), ?_⟩
    have := World.alloc_heap_new (W.alloc (.cells #[.func (.func 34) #[] #[], .func (.func 35) #[] #[.pointer (some ⟨p, 0, none⟩), .pointer (some ⟨f, 0, none⟩)], .func (.func 36) #[] #[]] 65)) (.cells #[] 59)
    simpa using this
  obtain ⟨w1, hw1, hb1, hs1, e, er⟩ := key
  have d0 : w1.cell? ⟨W.heap.size, 0, none⟩ = some (.func (.func 34) #[] #[]) := by simp only [World.cell?, e]; rfl
  have d1 : w1.cell? ⟨W.heap.size, 1, none⟩ = some (.func (.func 35) #[] #[.pointer (some ⟨p, 0, none⟩), .pointer (some ⟨f, 0, none⟩)]) := by simp only [World.cell?, e]; rfl
  have d2 : w1.cell? ⟨W.heap.size, 2, none⟩ = some (.func (.func 36) #[] #[]) := by simp only [World.cell?, e]; rfl
  have hbs : b < W.heap.size := by omega
  have hh1 := hh.below hb1 hbs
  have hx : HeldG W.heap.size b o (.func (.func 34) #[] #[]) (.func (.func 35) #[] #[.pointer (some ⟨p, 0, none⟩), .pointer (some ⟨f, 0, none⟩)]) (.func (.func 36) #[] #[]) ⟨k, n, s, A, m, cap⟩ w1.heap.size w1 := ⟨d0, d1, d2, hh1.h0, hh1.h1, hh1.h2, hh1.h3, Nat.le_refl _⟩
  obtain ⟨hW1, hk1⟩ := hW.below hb1
  have hD : W.heap.size < w1.heap.size ∧ ¬ O W.heap.size := ⟨by omega, fun hO => by have := hW.top hO; omega⟩
  have hR : W.heap.size + 1 < w1.heap.size ∧ ¬ O (W.heap.size + 1) := ⟨by omega, fun hO => by have := hW.top hO; omega⟩
  have hbO : b < w1.heap.size ∧ ¬ O b := ⟨by omega, fun hO => by have := hW.low' hO; omega⟩
  have HW := Lib.hid hw1
  obtain ⟨rfl, k3, k9, m2, b1, o1, gl, gr, hA, e6, e7, e8, e9, e10⟩ := hT
  dsimp only at hA m2 k3 k9 hl
  subst hA
  have hnl : L.nl + R.nl = (Xp.op k L R).nl := rfl
  have hlen := mrgN_len l L.names
  have hLn := L.names_nl
  have A6 : Hid (∀ V O6, HeldG W.heap.size b o (.func (.func 34) #[] #[]) (.func (.func 35) #[] #[.pointer (some ⟨p, 0, none⟩), .pointer (some ⟨f, 0, none⟩)]) (.func (.func 36) #[] #[]) ⟨k, n, s, some ⟨b1, o1, none⟩, m, cap⟩ w1.heap.size V → NS base f g p (l) O6 V → StepO O O6 w1 V → Calls Try.prog 37 #[.agg #[.func (.func 34) #[] #[], .func (.func 35) #[] #[.pointer (some ⟨p, 0, none⟩), .pointer (some ⟨f, 0, none⟩)], .func (.func 36) #[] #[]], .pointer (some ⟨b1, o1, none⟩)] V fun e w' => e = .returned (.agg #[]) ∧ HeldG W.heap.size b o (.func (.func 34) #[] #[]) (.func (.func 35) #[] #[.pointer (some ⟨p, 0, none⟩), .pointer (some ⟨f, 0, none⟩)]) (.func (.func 36) #[] #[]) ⟨k, n, s, some ⟨b1, o1, none⟩, m, cap⟩ w1.heap.size w' ∧ (∃ O', NS base f g p (mrgN l L.names) O' w' ∧ StepO O O' w1 w' ∧ StepO O6 O' V w')) := Lib.hid fun V O6 hV hNV hSV => by
    have hz := hSV.keeps.size
    have hbV := (hk1.keeps.trans hSV.keeps).below hB (fun k hk hO => by have := hW.low' hO; omega)
    have nD := hSV.not hD.1 hD.2
    have nb := hSV.not hbO.1 hbO.2
    refine (hL gl b1 (o1) (l) O6 V (e7.below hbV e6) e6 (e9.below hbV (Nat.le_refl _)) (by omega) hNV (by omega)).mono ?_
    rintro e w' ⟨rfl, O', h1, h2⟩
    exact ⟨rfl, hV.keep ⟨hD.1, nD⟩ ⟨hbO.1, nb⟩ h2.keeps, O', h1, hSV.trans h2, h2⟩
  have A7 : Hid (∀ V O6, HeldG W.heap.size b o (.func (.func 34) #[] #[]) (.func (.func 35) #[] #[.pointer (some ⟨p, 0, none⟩), .pointer (some ⟨f, 0, none⟩)]) (.func (.func 36) #[] #[]) ⟨k, n, s, some ⟨b1, o1, none⟩, m, cap⟩ w1.heap.size V → NS base f g p (mrgN l L.names) O6 V → StepO O O6 w1 V → Calls Try.prog 37 #[.agg #[.func (.func 34) #[] #[], .func (.func 35) #[] #[.pointer (some ⟨p, 0, none⟩), .pointer (some ⟨f, 0, none⟩)], .func (.func 36) #[] #[]], .pointer (some ⟨b1, o1 + 4, none⟩)] V fun e w' => e = .returned (.agg #[]) ∧ HeldG W.heap.size b o (.func (.func 34) #[] #[]) (.func (.func 35) #[] #[.pointer (some ⟨p, 0, none⟩), .pointer (some ⟨f, 0, none⟩)]) (.func (.func 36) #[] #[]) ⟨k, n, s, some ⟨b1, o1, none⟩, m, cap⟩ w1.heap.size w' ∧ (∃ O', NS base f g p (mrgN (mrgN l L.names) R.names) O' w' ∧ StepO O O' w1 w' ∧ StepO O6 O' V w')) := Lib.hid fun V O6 hV hNV hSV => by
    have hz := hSV.keeps.size
    have hbV := (hk1.keeps.trans hSV.keeps).below hB (fun k hk hO => by have := hW.low' hO; omega)
    have nD := hSV.not hD.1 hD.2
    have nb := hSV.not hbO.1 hbO.2
    refine (hR0 gr b1 (o1 + 4) (mrgN l L.names) O6 V (e8.below hbV e6) e6 (e10.below hbV (Nat.le_refl _)) (by omega) hNV (by omega)).mono ?_
    rintro e w' ⟨rfl, O', h1, h2⟩
    exact ⟨rfl, hV.keep ⟨hD.1, nD⟩ ⟨hbO.1, nb⟩ h2.keeps, O', h1, hSV.trans h2, h2⟩
  have A8 : Hid (∀ V, HeldG W.heap.size b o (.func (.func 34) #[] #[]) (.func (.func 35) #[] #[.pointer (some ⟨p, 0, none⟩), .pointer (some ⟨f, 0, none⟩)]) (.func (.func 36) #[] #[]) ⟨k, n, s, some ⟨b1, o1, none⟩, m, cap⟩ w1.heap.size V → Calls Try.prog 36 #[.int .i64 k, .agg #[], .agg #[]] V fun e w' => e = .returned (.agg #[]) ∧ HeldG W.heap.size b o (.func (.func 34) #[] #[]) (.func (.func 35) #[] #[.pointer (some ⟨p, 0, none⟩), .pointer (some ⟨f, 0, none⟩)]) (.func (.func 36) #[] #[]) ⟨k, n, s, some ⟨b1, o1, none⟩, m, cap⟩ w1.heap.size w' ∧ Below V.heap.size V w') := Lib.hid fun V hV => by
    refine (nop_any _ V).mono ?_
    rintro e w' ⟨rfl, h1⟩
    exact ⟨rfl, hV.keep (q := fun _ => True) ⟨hD.1, trivial⟩ ⟨hbO.1, trivial⟩ (Keeps.of_below h1 (fun k hk _ => hk)), h1⟩
  have hfin : mrgN l (Xp.op k L R).names = mrgN (mrgN l L.names) R.names := mrg_assoc l R.names L.names
  have HFI := Lib.hid hfin
  have B5 : Hid ((decide (3 ≤ k) && decide (k ≤ 9)) = true) := Lib.hid (by simp [k3, k9])
  have k11 : (k == 1) = false := by simp; omega
  have k22 : (k == 2) = false := by simp; omega
  have m0 : 0 < m := by omega
  have m1 : 1 < m := by omega
  have m3 : (1 : Int) < (m : Int) := by omega
  have m4 : (0 : Int) < (m : Int) := by omega
  have m5 : ¬ m ≤ 1 := by omega
  have m6 : decide ((2 : Int) ≤ (m : Int)) = true := by simp; omega
  have HK := Lib.hid hk1
  have HW1 := Lib.hid hW1
  have HR := Lib.hid (And.intro hR er)
  obtain ⟨a1, a2, a3, a4, a5, a6, a7, a8⟩ := hx
  dsimp only at a4 a5 a6 a7
  clear hw1 e er d0 d1 d2 hh hh1 hk1 hW hW1 hb1 hD hbO hR hs1 htwo hB
  clear hL hR0 e6 e7 e8 e9 e10 k3 k9 hnl hlen hLn hl hfin
  go_enter Try.func37, Try.ntmps37
  go_upto_region 1 with fail
  rw [← HW.out]
  go_wp2_with fail
  refine (isop_any k w1).mono ?_
  rintro e w5 ⟨rfl, rfl⟩
  rw [B5.out]
  go_upto_region 6 with fail
  go_cut [5] from 47 to 53 (fun t wx => ∃ ba, t = .pointer (some ⟨ba, 0, none⟩) ∧ wx.heap[ba]? = some (.cells #[] 59 (0, 0)) ∧ HeldG W.heap.size b o (.func (.func 34) #[] #[]) (.func (.func 35) #[] #[.pointer (some ⟨p, 0, none⟩), .pointer (some ⟨f, 0, none⟩)]) (.func (.func 36) #[] #[]) ⟨k, n, s, some ⟨b1, o1, none⟩, m, cap⟩ w5.heap.size wx ∧ ∃ O', NS base f g p (mrgN l L.names) O' wx ∧ StepO O O' w5 wx)
  case first =>
    go_region_held3 (HeldG W.heap.size b o (.func (.func 34) #[] #[]) (.func (.func 35) #[] #[.pointer (some ⟨p, 0, none⟩), .pointer (some ⟨f, 0, none⟩)]) (.func (.func 36) #[] #[]) ⟨k, n, s, some ⟨b1, o1, none⟩, m, cap⟩ w5.heap.size)
      (first
        | (go_split_ands; refine ⟨?_, ?_, ?_, ?_, ?_, ?_, ?_, ?_⟩ <;> assumption)
        | (go_split_ands; exact HeldG.drew ⟨‹_›, ‹_›, ‹_›, ‹_›, ‹_›, ‹_›, ‹_›, ‹_›⟩)
        | (go_split_ands; exact HeldG.alloc ⟨‹_›, ‹_›, ‹_›, ‹_›, ‹_›, ‹_›, ‹_›, ‹_›⟩ _))
      (first
        | (go_at_call 37; with_reducible refine (A6.out _ _ (by assumption) (HW1.out.below (by first | exact (Below.refl _ _).drew | exact ((Below.refl _ _).drew).alloc (Nat.le_refl _) _ | exact ((Below.refl _ _).alloc (Nat.le_refl _) _).drew)).1 ((HW1.out.below (by first | exact (Below.refl _ _).drew | exact ((Below.refl _ _).drew).alloc (Nat.le_refl _) _ | exact ((Below.refl _ _).alloc (Nat.le_refl _) _).drew)).2)).mono ?_; rintro e w6 ⟨rfl, hq6, hn6⟩))
    all_goals
      obtain ⟨O8, h8, k8, k88⟩ := hn6
      have H8 := Lib.hid (And.intro h8 (And.intro k8 k88))
      clear h8 k8 k88
      go_wp2_with fail
      go_meet
      case rel =>
        first
          | exact ⟨w6.heap.size, rfl, World.alloc_heap_new _ _, hq6.alloc _, O8, (H8.out.1.below ((Below.refl _ _).alloc (Nat.le_refl _) _)).1, H8.out.2.1.trans (H8.out.1.below ((Below.refl _ _).alloc (Nat.le_refl _) _)).2⟩
          | exact ⟨w5.heap.size, rfl, (H8.out.2.2.keeps.block w5.heap.size (by simp [World.drew]) (fun hO => by have := HW1.out.top hO; omega)).trans (World.alloc_heap_new w5.drew _), hq6, O8, H8.out.1, H8.out.2.1⟩
  case rest =>
    obtain ⟨ba6, rfl, hba, hq, O6, h6, k6⟩ := hcut
    clear hba
    have H6 := Lib.hid (And.intro h6 k6)
    clear h6 k6 a1 a2 a3 a4 a5 a6 a7 a8
    obtain ⟨a1, a2, a3, a4, a5, a6, a7, a8⟩ := hq
    dsimp only at a4 a5 a6 a7
    go_upto_region 7 with fail
    go_cut [6] from 54 to 60 (fun t wx => ∃ ba, t = .pointer (some ⟨ba, 0, none⟩) ∧ wx.heap[ba]? = some (.cells #[] 59 (0, 0)) ∧ HeldG W.heap.size b o (.func (.func 34) #[] #[]) (.func (.func 35) #[] #[.pointer (some ⟨p, 0, none⟩), .pointer (some ⟨f, 0, none⟩)]) (.func (.func 36) #[] #[]) ⟨k, n, s, some ⟨b1, o1, none⟩, m, cap⟩ w5.heap.size wx ∧ ∃ O', NS base f g p (mrgN (mrgN l L.names) R.names) O' wx ∧ StepO O O' w5 wx)
    case first =>
      go_region_held3 (HeldG W.heap.size b o (.func (.func 34) #[] #[]) (.func (.func 35) #[] #[.pointer (some ⟨p, 0, none⟩), .pointer (some ⟨f, 0, none⟩)]) (.func (.func 36) #[] #[]) ⟨k, n, s, some ⟨b1, o1, none⟩, m, cap⟩ w5.heap.size)
        (first
          | (go_split_ands; refine ⟨?_, ?_, ?_, ?_, ?_, ?_, ?_, ?_⟩ <;> assumption)
          | (go_split_ands; exact HeldG.drew ⟨‹_›, ‹_›, ‹_›, ‹_›, ‹_›, ‹_›, ‹_›, ‹_›⟩)
          | (go_split_ands; exact HeldG.alloc ⟨‹_›, ‹_›, ‹_›, ‹_›, ‹_›, ‹_›, ‹_›, ‹_›⟩ _))
        (first
          | (go_at_call 37; with_reducible refine (A7.out _ _ (by assumption) (H6.out.1.below (by first | exact (Below.refl _ _).drew | exact ((Below.refl _ _).drew).alloc (Nat.le_refl _) _ | exact ((Below.refl _ _).alloc (Nat.le_refl _) _).drew)).1 (H6.out.2.trans (H6.out.1.below (by first | exact (Below.refl _ _).drew | exact ((Below.refl _ _).drew).alloc (Nat.le_refl _) _ | exact ((Below.refl _ _).alloc (Nat.le_refl _) _).drew)).2)).mono ?_; rintro e w6 ⟨rfl, hq6, hn6⟩))
      all_goals
        obtain ⟨O8, h8, k8, k88⟩ := hn6
        have H8 := Lib.hid (And.intro h8 (And.intro k8 k88))
        clear h8 k8 k88
        go_wp2_with fail
        go_meet
        case rel =>
          first
            | exact ⟨w6.heap.size, rfl, World.alloc_heap_new _ _, hq6.alloc _, O8, (H8.out.1.below ((Below.refl _ _).alloc (Nat.le_refl _) _)).1, H8.out.2.1.trans (H8.out.1.below ((Below.refl _ _).alloc (Nat.le_refl _) _)).2⟩
            | exact ⟨wc.heap.size, rfl, (H8.out.2.2.keeps.block wc.heap.size (by simp [World.drew]) (fun hO => by have := H6.out.1.top hO; omega)).trans (World.alloc_heap_new wc.drew _), hq6, O8, H8.out.1, H8.out.2.1⟩
    case rest =>
      obtain ⟨ba7, rfl, hba, hq, O7, h6, k6⟩ := hcut
      clear hba
      have H7 := Lib.hid (And.intro h6 k6)
      clear h6 k6 a1 a2 a3 a4 a5 a6 a7 a8
      obtain ⟨a1, a2, a3, a4, a5, a6, a7, a8⟩ := hq
      dsimp only at a4 a5 a6 a7
      go_wp2_with fail
      go_region_held3 (HeldG W.heap.size b o (.func (.func 34) #[] #[]) (.func (.func 35) #[] #[.pointer (some ⟨p, 0, none⟩), .pointer (some ⟨f, 0, none⟩)]) (.func (.func 36) #[] #[]) ⟨k, n, s, some ⟨b1, o1, none⟩, m, cap⟩ w5.heap.size)
        (first
        | (go_split_ands; refine ⟨?_, ?_, ?_, ?_, ?_, ?_, ?_, ?_⟩ <;> assumption)
        | (go_split_ands; exact HeldG.drew ⟨‹_›, ‹_›, ‹_›, ‹_›, ‹_›, ‹_›, ‹_›, ‹_›⟩)
        | (go_split_ands; exact HeldG.alloc ⟨‹_›, ‹_›, ‹_›, ‹_›, ‹_›, ‹_›, ‹_›, ‹_›⟩ _))
        (first
          | (go_at_call 36; with_reducible refine (A8.out _ (by assumption)).mono ?_; rintro e w8 ⟨rfl, hq8, hb8⟩))
      all_goals
        have H8 := Lib.hid ((H7.out.1.below (Below.refl _ _).drew).1.below hb8)
        have HB8 := Lib.hid hb8
        clear hb8 hq8
        go_wp2_with fail
        refine bodyPost_ret (results_cell_row rfl _ _ (W.heap.size + 1) 59 _ (0, 0) _ rfl ((HB8.out.block (W.heap.size + 1) (Nat.lt_of_lt_of_le HR.out.1.1 H7.out.2.keeps.size)).trans ((H7.out.2.keeps.block (W.heap.size + 1) HR.out.1.1 HR.out.1.2).trans HR.out.2)) rfl rfl Try.infoNo) rfl ?_
        rw [HFI.out]
        exact ⟨rfl, _, H8.out.1, (HK.out.trans H7.out.2).trans ((H7.out.1.below (Below.refl _ _).drew).2.trans H8.out.2)⟩

theorem frn {base f g p : Nat} : ∀ T : Xp, FrN base f g p T
  | .num z => frn_num z
  | .nam z => frn_nam z
  | .op _ L R => frn_op (frn L) (frn R)
  | .nul => frn_nul
end Go.Proofs.Ytinbcdadffljhaa
