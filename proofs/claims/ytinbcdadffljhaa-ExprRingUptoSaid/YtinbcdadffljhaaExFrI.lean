/-
  Contract of the program's from on makers of numbers: number and operation as Eval lays them, name any that tells a name's number.
-/
import Derived.Test.YtinbcdadffljhaaExEv
import Derived.Test.YtinbcdadffljhaaExDp
import Derived.Test.YtinbcdadffljhaaItO
import Derived.Deep.RegionHeld3
import Derived.Deep.CutRange
namespace Go.Proofs.Ytinbcdadffljhaa
open Go.RowKit
set_option maxRecDepth 100000

theorem evnum_any (n : Int) (w : World) : Calls Try.prog 28 #[.int .i64 n] w fun e w' => e = .returned (.int .i64 n) ∧ w' = w := by
  go_enter Try.func28, Try.ntmps28
  go_wp2_with fail
  go_ret
  exact ⟨rfl, rfl⟩

/-- an invariant of what a maker's closures keep: its blocks O lie from base on, and it bears all that leaves them as they are -/
structure Inv (base : Nat) (O : Nat → Prop) (I : World → Prop) : Prop where
  low : ∀ k, O k → base ≤ k
  top : ∀ W, I W → ∀ k, O k → k < W.heap.size
  step : ∀ W W', I W → Below W.heap.size W W' → I W'
/-- what is held while from works: the maker's box, the header of the expression -/
abbrev HeldF (O : Nat → Prop) (D b o : Nat) (f0 f1 f2 : Value) (h : Eh) (w W : World) : Prop :=
  W.cell? ⟨D, 0, none⟩ = some f0 ∧ W.cell? ⟨D, 1, none⟩ = some f1 ∧ W.cell? ⟨D, 2, none⟩ = some f2 ∧
  W.cell? ⟨b, o, none⟩ = some (.int .i64 h.k) ∧ W.cell? ⟨b, o + 1, none⟩ = some (.int .i64 h.n) ∧ W.cell? ⟨b, o + 2, none⟩ = some (.string h.s) ∧ W.cell? ⟨b, o + 3, none⟩ = some (.slice h.A h.m h.cap) ∧ Keeps (fun k => ¬ O k) w W
section
variable {O : Nat → Prop} {D b o : Nat} {f0 f1 f2 : Value} {h : Eh} {w W W2 : World}
theorem HeldF.drew (hh : HeldF O D b o f0 f1 f2 h w W) : HeldF O D b o f0 f1 f2 h w W.drew :=
  ⟨hh.1, hh.2.1, hh.2.2.1, hh.2.2.2.1, hh.2.2.2.2.1, hh.2.2.2.2.2.1, hh.2.2.2.2.2.2.1, hh.2.2.2.2.2.2.2.drew⟩
theorem Keeps.cell {p : Nat → Prop} {A B : World} (hk : Keeps p A B) {q : Addr} (hq : q.block < A.heap.size) (hp : p q.block) (h0 : q.spot = none) : B.cell? q = A.cell? q := by
  obtain ⟨b, o, s⟩ := q
  subst h0
  simp only [World.cell?]
  rw [hk.block b hq hp]
theorem HeldF.step (hh : HeldF O D b o f0 f1 f2 h w W) (hD : D < W.heap.size ∧ ¬ O D) (hb : b < W.heap.size ∧ ¬ O b) (hk : Keeps (fun k => ¬ O k) W W2) : HeldF O D b o f0 f1 f2 h w W2 := by
  have cD : ∀ x, W2.cell? ⟨D, x, none⟩ = W.cell? ⟨D, x, none⟩ := fun x => hk.cell (q := ⟨D, x, none⟩) hD.1 hD.2 rfl
  have cb : ∀ x, W2.cell? ⟨b, x, none⟩ = W.cell? ⟨b, x, none⟩ := fun x => hk.cell (q := ⟨b, x, none⟩) hb.1 hb.2 rfl
  obtain ⟨a1, a2, a3, a4, a5, a6, a7, a8⟩ := hh
  exact ⟨(cD _).trans a1, (cD _).trans a2, (cD _).trans a3, (cb _).trans a4, (cb _).trans a5, (cb _).trans a6, (cb _).trans a7, a8.trans hk⟩
end
theorem EhAt.keepsF {w w' : World} {p : Nat → Prop} {b o : Nat} {h : Eh} (hh : EhAt w b o h) (hk : Keeps p w w') (hb : b < w.heap.size) (hp : p b) : EhAt w' b o h :=
  ⟨(hk.cell (q := ⟨b, o, none⟩) hb hp rfl).trans hh.h0, (hk.cell (q := ⟨b, o + 1, none⟩) hb hp rfl).trans hh.h1, (hk.cell (q := ⟨b, o + 2, none⟩) hb hp rfl).trans hh.h2, (hk.cell (q := ⟨b, o + 3, none⟩) hb hp rfl).trans hh.h3⟩

/-- from answers T's worth -/
def FrI (p1 p2 : Value) (base : Nat) (O : Nat → Prop) (I : World → Prop) (env : List (ByteArray × Int)) (T : Xp) : Prop :=
  ∀ (h : Eh) (b o : Nat) (W : World), EhAt W b o h → b < base → EIn W base T h → base ≤ W.heap.size → I W →
    Calls Try.prog 31 #[.agg #[.func (.func 28) #[] #[], .func (.func 47) #[] #[p1, p2], .func (.func 30) #[] #[]], .pointer (some ⟨b, o, none⟩)] W
      fun e W' => e = .returned (.int .i64 (T.ev env)) ∧ I W' ∧ Keeps (fun k => ¬ O k) W W'

-- GEN
set_option maxHeartbeats 8000000 in
theorem fri_num {p1 p2 : Value} {base : Nat} {O : Nat → Prop} {I : World → Prop} (hI : Inv base O I) (env : List (ByteArray × Int)) (z : Int) : FrI p1 p2 base O I env (.num z) := by
  intro h b o W hh hb hT hB hW
  have htwo := hT.two
  obtain ⟨k, n, s, A, m, cap⟩ := h
  have key : ∃ w1, w1 = W.alloc (.cells #[.func (.func 28) #[] #[], .func (.func 47) #[] #[p1, p2], .func (.func 30) #[] #[]] 53) ∧ Below W.heap.size W w1 := ⟨_, rfl, (Below.refl _ _).alloc (Nat.le_refl _) _⟩
  obtain ⟨w1, hw1, hb1⟩ := key
  have e := World.alloc_heap_new W (.cells #[.func (.func 28) #[] #[], .func (.func 47) #[] #[p1, p2], .func (.func 30) #[] #[]] 53)
  have hs1 : w1.heap.size = W.heap.size + 1 := by rw [hw1]; simp
  rw [← hw1] at e
  have d0 : w1.cell? ⟨W.heap.size, 0, none⟩ = some (.func (.func 28) #[] #[]) := by simp only [World.cell?, e]; rfl
  have d1 : w1.cell? ⟨W.heap.size, 1, none⟩ = some (.func (.func 47) #[] #[p1, p2]) := by simp only [World.cell?, e]; rfl
  have d2 : w1.cell? ⟨W.heap.size, 2, none⟩ = some (.func (.func 30) #[] #[]) := by simp only [World.cell?, e]; rfl
  have hbs : b < W.heap.size := by omega
  have hh1 := hh.below hb1 hbs
  have hx : HeldF O W.heap.size b o (.func (.func 28) #[] #[]) (.func (.func 47) #[] #[p1, p2]) (.func (.func 30) #[] #[]) ⟨k, n, s, A, m, cap⟩ w1 w1 := ⟨d0, d1, d2, hh1.h0, hh1.h1, hh1.h2, hh1.h3, Keeps.refl _ _⟩
  have hk1 : Keeps (fun k => ¬ O k) W w1 := Keeps.of_below hb1 (fun k hk _ => hk)
  have hW1 := hI.step _ _ hW hb1
  have hD : W.heap.size < w1.heap.size ∧ ¬ O W.heap.size := ⟨by omega, fun hO => by have := hI.top _ hW _ hO; omega⟩
  have hbO : b < w1.heap.size ∧ ¬ O b := ⟨by omega, fun hO => by have := hI.low _ hO; omega⟩
  have HW := Lib.hid hw1
  obtain ⟨rfl, rfl, _⟩ := hT
  have A0 : Hid (∀ V, HeldF O W.heap.size b o (.func (.func 28) #[] #[]) (.func (.func 47) #[] #[p1, p2]) (.func (.func 30) #[] #[]) ⟨1, n, s, A, m, cap⟩ w1 V → Calls Try.prog 28 #[.int .i64 n] V fun e w' => e = .returned (.int .i64 n) ∧ w' = V) := Lib.hid fun V _ => evnum_any n V
  have HI := Lib.hid hI
  have HK := Lib.hid hk1
  have HW1 := Lib.hid hW1
  show Calls _ _ _ _ fun e W' => e = .returned (.int .i64 n) ∧ I W' ∧ Keeps (fun k => ¬ O k) W W'
  obtain ⟨a1, a2, a3, a4, a5, a6, a7, a8⟩ := hx
  dsimp only at a4 a5 a6 a7
  clear hw1 e d0 d1 d2 hh hh1 hk1 hI hW hW1 hb1 hD hbO hs1 htwo
  go_enter Try.func31, Try.ntmps31
  go_upto_region 1 with fail
  rw [show W.alloc _ = w1 from HW.out.symm]
  go_wp2_with fail
  go_region_held3 (HeldF O W.heap.size b o (.func (.func 28) #[] #[]) (.func (.func 47) #[] #[p1, p2]) (.func (.func 30) #[] #[]) ⟨1, n, s, A, m, cap⟩ w1)
    (first
      | (go_split_ands; refine ⟨?_, ?_, ?_, ?_, ?_, ?_, ?_, ?_⟩ <;> assumption)
      | (go_split_ands; exact HeldF.drew ⟨‹_›, ‹_›, ‹_›, ‹_›, ‹_›, ‹_›, ‹_›, ‹_›⟩))
    (first
      | (go_at_call 28; with_reducible refine (A0.out _ (by assumption)).mono ?_; rintro e w5 ⟨rfl, rfl⟩))
  all_goals
    go_wp2_with fail
    go_ret
    exact ⟨rfl, HI.out.step _ _ HW1.out (Below.refl _ _).drew, HK.out.drew⟩

set_option maxHeartbeats 8000000 in
theorem fri_nam {p1 p2 : Value} {base : Nat} {O : Nat → Prop} {I : World → Prop} (hI : Inv base O I) (env : List (ByteArray × Int)) (hF : ∀ (s : ByteArray) (W : World), s.size ≤ maxLen → I W → Calls Try.prog 47 #[.string s, p1, p2] W fun e W' => e = .returned (.int .i64 (bnd env s)) ∧ I W' ∧ Keeps (fun k => ¬ O k) W W') (z : ByteArray) : FrI p1 p2 base O I env (.nam z) := by
  intro h b o W hh hb hT hB hW
  have htwo := hT.two
  obtain ⟨k, n, s, A, m, cap⟩ := h
  have key : ∃ w1, w1 = W.alloc (.cells #[.func (.func 28) #[] #[], .func (.func 47) #[] #[p1, p2], .func (.func 30) #[] #[]] 53) ∧ Below W.heap.size W w1 := ⟨_, rfl, (Below.refl _ _).alloc (Nat.le_refl _) _⟩
  obtain ⟨w1, hw1, hb1⟩ := key
  have e := World.alloc_heap_new W (.cells #[.func (.func 28) #[] #[], .func (.func 47) #[] #[p1, p2], .func (.func 30) #[] #[]] 53)
  have hs1 : w1.heap.size = W.heap.size + 1 := by rw [hw1]; simp
  rw [← hw1] at e
  have d0 : w1.cell? ⟨W.heap.size, 0, none⟩ = some (.func (.func 28) #[] #[]) := by simp only [World.cell?, e]; rfl
  have d1 : w1.cell? ⟨W.heap.size, 1, none⟩ = some (.func (.func 47) #[] #[p1, p2]) := by simp only [World.cell?, e]; rfl
  have d2 : w1.cell? ⟨W.heap.size, 2, none⟩ = some (.func (.func 30) #[] #[]) := by simp only [World.cell?, e]; rfl
  have hbs : b < W.heap.size := by omega
  have hh1 := hh.below hb1 hbs
  have hx : HeldF O W.heap.size b o (.func (.func 28) #[] #[]) (.func (.func 47) #[] #[p1, p2]) (.func (.func 30) #[] #[]) ⟨k, n, s, A, m, cap⟩ w1 w1 := ⟨d0, d1, d2, hh1.h0, hh1.h1, hh1.h2, hh1.h3, Keeps.refl _ _⟩
  have hk1 : Keeps (fun k => ¬ O k) W w1 := Keeps.of_below hb1 (fun k hk _ => hk)
  have hW1 := hI.step _ _ hW hb1
  have hD : W.heap.size < w1.heap.size ∧ ¬ O W.heap.size := ⟨by omega, fun hO => by have := hI.top _ hW _ hO; omega⟩
  have hbO : b < w1.heap.size ∧ ¬ O b := ⟨by omega, fun hO => by have := hI.low _ hO; omega⟩
  have HW := Lib.hid hw1
  obtain ⟨rfl, rfl, hsz⟩ := hT
  obtain ⟨x, hxe⟩ : ∃ x, x = bnd env s := ⟨_, rfl⟩
  have A0 : Hid (∀ V, HeldF O W.heap.size b o (.func (.func 28) #[] #[]) (.func (.func 47) #[] #[p1, p2]) (.func (.func 30) #[] #[]) ⟨2, n, s, A, m, cap⟩ w1 V → I V → Calls Try.prog 47 #[.string s, p1, p2] V fun e w' => e = .returned (.int .i64 x) ∧ I w' ∧ HeldF O W.heap.size b o (.func (.func 28) #[] #[]) (.func (.func 47) #[] #[p1, p2]) (.func (.func 30) #[] #[]) ⟨2, n, s, A, m, cap⟩ w1 w') := Lib.hid fun V hV hIV => by
    have hz := hV.2.2.2.2.2.2.2.size
    refine (hF s V hsz hIV).mono ?_
    rintro e w' ⟨rfl, h1, h2⟩
    exact ⟨by rw [hxe], h1, hV.step ⟨by omega, hD.2⟩ ⟨by omega, hbO.2⟩ h2⟩
  have HI := Lib.hid hI
  have HK := Lib.hid hk1
  have HW1 := Lib.hid hW1
  show Calls _ _ _ _ fun e W' => e = .returned (.int .i64 (bnd env s)) ∧ I W' ∧ Keeps (fun k => ¬ O k) W W'
  rw [← hxe]
  obtain ⟨a1, a2, a3, a4, a5, a6, a7, a8⟩ := hx
  dsimp only at a4 a5 a6 a7
  clear hw1 e d0 d1 d2 hh hh1 hk1 hI hW hW1 hb1 hD hbO hs1 htwo
  clear hF hxe hsz
  go_enter Try.func31, Try.ntmps31
  go_upto_region 1 with fail
  rw [show W.alloc _ = w1 from HW.out.symm]
  go_wp2_with fail
  go_region_held3 (HeldF O W.heap.size b o (.func (.func 28) #[] #[]) (.func (.func 47) #[] #[p1, p2]) (.func (.func 30) #[] #[]) ⟨2, n, s, A, m, cap⟩ w1)
    (first
      | (go_split_ands; refine ⟨?_, ?_, ?_, ?_, ?_, ?_, ?_, ?_⟩ <;> assumption)
      | (go_split_ands; exact HeldF.drew ⟨‹_›, ‹_›, ‹_›, ‹_›, ‹_›, ‹_›, ‹_›, ‹_›⟩))
    (first
      | (go_at_call 47; with_reducible refine (A0.out _ (by assumption) (HI.out.step _ _ HW1.out (Below.refl _ _).drew)).mono ?_; rintro e w5 ⟨rfl, hi5, hq5⟩))
  all_goals
    go_wp2_with fail
    go_ret
    exact ⟨rfl, hi5, HK.out.trans hq5.2.2.2.2.2.2.2⟩

set_option maxHeartbeats 8000000 in
theorem fri_nul {p1 p2 : Value} {base : Nat} {O : Nat → Prop} {I : World → Prop} (hI : Inv base O I) (env : List (ByteArray × Int)) : FrI p1 p2 base O I env .nul := by
  intro h b o W hh hb hT hB hW
  have htwo := hT.two
  obtain ⟨k, n, s, A, m, cap⟩ := h
  have key : ∃ w1, w1 = W.alloc (.cells #[.func (.func 28) #[] #[], .func (.func 47) #[] #[p1, p2], .func (.func 30) #[] #[]] 53) ∧ Below W.heap.size W w1 := ⟨_, rfl, (Below.refl _ _).alloc (Nat.le_refl _) _⟩
  obtain ⟨w1, hw1, hb1⟩ := key
  have e := World.alloc_heap_new W (.cells #[.func (.func 28) #[] #[], .func (.func 47) #[] #[p1, p2], .func (.func 30) #[] #[]] 53)
  have hs1 : w1.heap.size = W.heap.size + 1 := by rw [hw1]; simp
  rw [← hw1] at e
  have d0 : w1.cell? ⟨W.heap.size, 0, none⟩ = some (.func (.func 28) #[] #[]) := by simp only [World.cell?, e]; rfl
  have d1 : w1.cell? ⟨W.heap.size, 1, none⟩ = some (.func (.func 47) #[] #[p1, p2]) := by simp only [World.cell?, e]; rfl
  have d2 : w1.cell? ⟨W.heap.size, 2, none⟩ = some (.func (.func 30) #[] #[]) := by simp only [World.cell?, e]; rfl
  have hbs : b < W.heap.size := by omega
  have hh1 := hh.below hb1 hbs
  have hx : HeldF O W.heap.size b o (.func (.func 28) #[] #[]) (.func (.func 47) #[] #[p1, p2]) (.func (.func 30) #[] #[]) ⟨k, n, s, A, m, cap⟩ w1 w1 := ⟨d0, d1, d2, hh1.h0, hh1.h1, hh1.h2, hh1.h3, Keeps.refl _ _⟩
  have hk1 : Keeps (fun k => ¬ O k) W w1 := Keeps.of_below hb1 (fun k hk _ => hk)
  have hW1 := hI.step _ _ hW hb1
  have hD : W.heap.size < w1.heap.size ∧ ¬ O W.heap.size := ⟨by omega, fun hO => by have := hI.top _ hW _ hO; omega⟩
  have hbO : b < w1.heap.size ∧ ¬ O b := ⟨by omega, fun hO => by have := hI.low _ hO; omega⟩
  have HW := Lib.hid hw1
  obtain ⟨k1, k2, _⟩ := hT
  unfold Eh.two at htwo
  dsimp only at k1 k2 htwo
  have k11 : (k == 1) = false := by simpa using k1
  have k22 : (k == 2) = false := by simpa using k2
  have A0 : Hid (∀ V, Calls Try.prog 28 #[.int .i64 0] V fun e w' => e = .returned (.int .i64 0) ∧ w' = V) := Lib.hid fun V => evnum_any 0 V
  have HI := Lib.hid hI
  have HK := Lib.hid hk1
  have HW1 := Lib.hid hW1
  show Calls _ _ _ _ fun e W' => e = .returned (.int .i64 0) ∧ I W' ∧ Keeps (fun k => ¬ O k) W W'
  obtain ⟨a1, a2, a3, a4, a5, a6, a7, a8⟩ := hx
  dsimp only at a4 a5 a6 a7
  obtain ⟨q, hq⟩ : ∃ q, q = (decide (3 ≤ k) && decide (k ≤ 9)) := ⟨_, rfl⟩
  rw [← hq] at htwo
  have B5 : Hid ((decide (3 ≤ k) && decide (k ≤ 9)) = q) := Lib.hid hq.symm
  have hm : q = true → decide ((2 : Int) ≤ (m : Int)) = false := fun h => by rw [h] at htwo; simp at htwo ⊢; omega
  clear hq
  clear hw1 e d0 d1 d2 hh hh1 hk1 hI hW hW1 hb1 hD hbO hs1 htwo
  clear k1 k2
  cases q with
  | false =>
    clear hm
    go_enter Try.func31, Try.ntmps31
    go_upto_region 1 with fail
    rw [show W.alloc _ = w1 from HW.out.symm]
    go_wp2_with fail
    refine (isop_any k w1).mono ?_
    rintro e w5 ⟨rfl, rfl⟩
    rw [B5.out]
    go_wp2_with fail
    refine (A0.out w5).mono ?_
    rintro e w6 ⟨rfl, rfl⟩
    go_wp2_with fail
    go_ret
    exact ⟨rfl, HW1.out, HK.out⟩
  | true =>
    have hm2 := hm rfl
    clear hm
    go_enter Try.func31, Try.ntmps31
    go_upto_region 1 with fail
    rw [show W.alloc _ = w1 from HW.out.symm]
    go_wp2_with fail
    refine (isop_any k w1).mono ?_
    rintro e w5 ⟨rfl, rfl⟩
    rw [B5.out]
    go_wp2_with fail
    refine (A0.out w5).mono ?_
    rintro e w6 ⟨rfl, rfl⟩
    go_wp2_with fail
    go_ret
    exact ⟨rfl, HW1.out, HK.out⟩

set_option maxHeartbeats 8000000 in
theorem fri_op {p1 p2 : Value} {base : Nat} {O : Nat → Prop} {I : World → Prop} (hI : Inv base O I) (env : List (ByteArray × Int)) {k0 : Int} {L R : Xp} (hEnv : ∀ T : Xp, T.fit → inI (T.ev env)) (hL : FrI p1 p2 base O I env L) (hR : FrI p1 p2 base O I env R) : FrI p1 p2 base O I env (.op k0 L R) := by
  intro h b o W hh hb hT hB hW
  have htwo := hT.two
  obtain ⟨k, n, s, A, m, cap⟩ := h
  have key : ∃ w1, w1 = W.alloc (.cells #[.func (.func 28) #[] #[], .func (.func 47) #[] #[p1, p2], .func (.func 30) #[] #[]] 53) ∧ Below W.heap.size W w1 := ⟨_, rfl, (Below.refl _ _).alloc (Nat.le_refl _) _⟩
  obtain ⟨w1, hw1, hb1⟩ := key
  have e := World.alloc_heap_new W (.cells #[.func (.func 28) #[] #[], .func (.func 47) #[] #[p1, p2], .func (.func 30) #[] #[]] 53)
  have hs1 : w1.heap.size = W.heap.size + 1 := by rw [hw1]; simp
  rw [← hw1] at e
  have d0 : w1.cell? ⟨W.heap.size, 0, none⟩ = some (.func (.func 28) #[] #[]) := by simp only [World.cell?, e]; rfl
  have d1 : w1.cell? ⟨W.heap.size, 1, none⟩ = some (.func (.func 47) #[] #[p1, p2]) := by simp only [World.cell?, e]; rfl
  have d2 : w1.cell? ⟨W.heap.size, 2, none⟩ = some (.func (.func 30) #[] #[]) := by simp only [World.cell?, e]; rfl
  have hbs : b < W.heap.size := by omega
  have hh1 := hh.below hb1 hbs
  have hx : HeldF O W.heap.size b o (.func (.func 28) #[] #[]) (.func (.func 47) #[] #[p1, p2]) (.func (.func 30) #[] #[]) ⟨k, n, s, A, m, cap⟩ w1 w1 := ⟨d0, d1, d2, hh1.h0, hh1.h1, hh1.h2, hh1.h3, Keeps.refl _ _⟩
  have hk1 : Keeps (fun k => ¬ O k) W w1 := Keeps.of_below hb1 (fun k hk _ => hk)
  have hW1 := hI.step _ _ hW hb1
  have hD : W.heap.size < w1.heap.size ∧ ¬ O W.heap.size := ⟨by omega, fun hO => by have := hI.top _ hW _ hO; omega⟩
  have hbO : b < w1.heap.size ∧ ¬ O b := ⟨by omega, fun hO => by have := hI.low _ hO; omega⟩
  have HW := Lib.hid hw1
  obtain ⟨rfl, k3, k9, m2, b1, o1, gl, gr, hA, e6, e7, e8, e9, e10⟩ := hT
  dsimp only at hA m2 k3 k9
  subst hA
  have fl := e9.fit
  have hev : Xp.ev env (.op k L R) = ar k (L.ev env) (R.ev env) := rfl
  rw [hev]
  obtain ⟨x, hxe⟩ : ∃ x, x = L.ev env := ⟨_, rfl⟩
  obtain ⟨y, hye⟩ : ∃ y, y = R.ev env := ⟨_, rfl⟩
  have A6 : Hid (∀ V, HeldF O W.heap.size b o (.func (.func 28) #[] #[]) (.func (.func 47) #[] #[p1, p2]) (.func (.func 30) #[] #[]) ⟨k, n, s, some ⟨b1, o1, none⟩, m, cap⟩ w1 V → I V → Calls Try.prog 31 #[.agg #[.func (.func 28) #[] #[], .func (.func 47) #[] #[p1, p2], .func (.func 30) #[] #[]], .pointer (some ⟨b1, o1, none⟩)] V fun e w' => e = .returned (.int .i64 x) ∧ I w' ∧ HeldF O W.heap.size b o (.func (.func 28) #[] #[]) (.func (.func 47) #[] #[p1, p2]) (.func (.func 30) #[] #[]) ⟨k, n, s, some ⟨b1, o1, none⟩, m, cap⟩ w1 w') := Lib.hid fun V hV hIV => by
    have hz := hV.2.2.2.2.2.2.2.size
    have hkV := hk1.trans hV.2.2.2.2.2.2.2
    have hbV := hkV.below hB (fun k hk hO => by have := hI.low _ hO; omega)
    refine (hL gl b1 o1 V (e7.below hbV e6) e6 (e9.below hbV (Nat.le_refl _)) (by omega) hIV).mono ?_
    rintro e w' ⟨rfl, h1, h2⟩
    exact ⟨by rw [hxe], h1, hV.step ⟨by omega, hD.2⟩ ⟨by omega, hbO.2⟩ h2⟩
  have A7 : Hid (∀ V, HeldF O W.heap.size b o (.func (.func 28) #[] #[]) (.func (.func 47) #[] #[p1, p2]) (.func (.func 30) #[] #[]) ⟨k, n, s, some ⟨b1, o1, none⟩, m, cap⟩ w1 V → I V → Calls Try.prog 31 #[.agg #[.func (.func 28) #[] #[], .func (.func 47) #[] #[p1, p2], .func (.func 30) #[] #[]], .pointer (some ⟨b1, o1 + 4, none⟩)] V fun e w' => e = .returned (.int .i64 y) ∧ I w' ∧ HeldF O W.heap.size b o (.func (.func 28) #[] #[]) (.func (.func 47) #[] #[p1, p2]) (.func (.func 30) #[] #[]) ⟨k, n, s, some ⟨b1, o1, none⟩, m, cap⟩ w1 w') := Lib.hid fun V hV hIV => by
    have hz := hV.2.2.2.2.2.2.2.size
    have hkV := hk1.trans hV.2.2.2.2.2.2.2
    have hbV := hkV.below hB (fun k hk hO => by have := hI.low _ hO; omega)
    refine (hR gr b1 (o1 + 4) V (e8.below hbV e6) e6 (e10.below hbV (Nat.le_refl _)) (by omega) hIV).mono ?_
    rintro e w' ⟨rfl, h1, h2⟩
    exact ⟨by rw [hye], h1, hV.step ⟨by omega, hD.2⟩ ⟨by omega, hbO.2⟩ h2⟩
  obtain ⟨z, hze⟩ : ∃ z, z = ar k (L.ev env) (R.ev env) := ⟨_, rfl⟩
  have A8 : Hid (∀ V, HeldF O W.heap.size b o (.func (.func 28) #[] #[]) (.func (.func 47) #[] #[p1, p2]) (.func (.func 30) #[] #[]) ⟨k, n, s, some ⟨b1, o1, none⟩, m, cap⟩ w1 V → Calls Try.prog 30 #[.int .i64 k, .int .i64 x, .int .i64 y] V fun e w' => e = .returned (.int .i64 z) ∧ w' = V) := Lib.hid fun V _ => by
    rw [hze, ← hxe, ← hye]
    exact apply_any k x y V ⟨k3, k9⟩ (by rw [hxe]; exact hEnv L fl)
  rw [← hze]
  have B5 : Hid ((decide (3 ≤ k) && decide (k ≤ 9)) = true) := Lib.hid (by simp [k3, k9])
  have k11 : (k == 1) = false := by simp; omega
  have k22 : (k == 2) = false := by simp; omega
  have m0 : 0 < m := by omega
  have m1 : 1 < m := by omega
  have m3 : (1 : Int) < (m : Int) := by omega
  have m4 : (0 : Int) < (m : Int) := by omega
  have m5 : ¬ m ≤ 1 := by omega
  have m6 : decide ((2 : Int) ≤ (m : Int)) = true := by simp; omega
  have HI := Lib.hid hI
  have HK := Lib.hid hk1
  have HW1 := Lib.hid hW1
  obtain ⟨a1, a2, a3, a4, a5, a6, a7, a8⟩ := hx
  dsimp only at a4 a5 a6 a7
  clear hw1 e d0 d1 d2 hh hh1 hk1 hI hW hW1 hb1 hD hbO hs1 htwo
  clear hxe hye hze hL hR e6 e7 e8 e9 e10 fl hev k3 k9 hEnv
  go_enter Try.func31, Try.ntmps31
  go_upto_region 1 with fail
  rw [show W.alloc _ = w1 from HW.out.symm]
  go_wp2_with fail
  refine (isop_any k w1).mono ?_
  rintro e w5 ⟨rfl, rfl⟩
  rw [B5.out]
  go_wp2_with fail
  go_region_held3 (HeldF O W.heap.size b o (.func (.func 28) #[] #[]) (.func (.func 47) #[] #[p1, p2]) (.func (.func 30) #[] #[]) ⟨k, n, s, some ⟨b1, o1, none⟩, m, cap⟩ w5)
    (first
      | (go_split_ands; refine ⟨?_, ?_, ?_, ?_, ?_, ?_, ?_, ?_⟩ <;> assumption)
      | (go_split_ands; exact HeldF.drew ⟨‹_›, ‹_›, ‹_›, ‹_›, ‹_›, ‹_›, ‹_›, ‹_›⟩))
    (first
      | (go_at_call 31; with_reducible refine (A6.out _ (by assumption) (HI.out.step _ _ HW1.out (Below.refl _ _).drew)).mono ?_; rintro e w6 ⟨rfl, hi6, hq6⟩))
  obtain ⟨c1, c2, c3, c4, c5, c6, c7, c8⟩ := hq6
  clear a1 a2 a3 a4 a5 a6 a7 a8
  go_wp2_with fail
  go_region_held3 (HeldF O W.heap.size b o (.func (.func 28) #[] #[]) (.func (.func 47) #[] #[p1, p2]) (.func (.func 30) #[] #[]) ⟨k, n, s, some ⟨b1, o1, none⟩, m, cap⟩ w5)
    (first
      | (go_split_ands; refine ⟨?_, ?_, ?_, ?_, ?_, ?_, ?_, ?_⟩ <;> assumption)
      | (go_split_ands; exact HeldF.drew ⟨‹_›, ‹_›, ‹_›, ‹_›, ‹_›, ‹_›, ‹_›, ‹_›⟩))
    (first
      | (go_at_call 31; with_reducible refine (A7.out _ (by assumption) (HI.out.step _ _ hi6 (Below.refl _ _).drew)).mono ?_; rintro e w7 ⟨rfl, hi7, hq7⟩))
  obtain ⟨d1, d2, d3, d4, d5, d6, d7, d8⟩ := hq7
  clear c1 c2 c3 c4 c5 c6 c7 c8
  go_wp2_with fail
  go_region_held3 (HeldF O W.heap.size b o (.func (.func 28) #[] #[]) (.func (.func 47) #[] #[p1, p2]) (.func (.func 30) #[] #[]) ⟨k, n, s, some ⟨b1, o1, none⟩, m, cap⟩ w5)
    (first
      | (go_split_ands; refine ⟨?_, ?_, ?_, ?_, ?_, ?_, ?_, ?_⟩ <;> assumption)
      | (go_split_ands; exact HeldF.drew ⟨‹_›, ‹_›, ‹_›, ‹_›, ‹_›, ‹_›, ‹_›, ‹_›⟩))
    (first
      | (go_at_call 30; with_reducible refine (A8.out _ (by assumption)).mono ?_; rintro e w8 ⟨rfl, rfl⟩))
  all_goals
    go_wp2_with fail
    go_ret
    exact ⟨rfl, HI.out.step _ _ hi7 (Below.refl _ _).drew, HK.out.trans d8.drew⟩

theorem fri {p1 p2 : Value} {base : Nat} {O : Nat → Prop} {I : World → Prop} (hI : Inv base O I) (env : List (ByteArray × Int)) (hF : ∀ (s : ByteArray) (W : World), s.size ≤ maxLen → I W → Calls Try.prog 47 #[.string s, p1, p2] W fun e W' => e = .returned (.int .i64 (bnd env s)) ∧ I W' ∧ Keeps (fun k => ¬ O k) W W') (hEnv : ∀ T : Xp, T.fit → inI (T.ev env)) : ∀ T : Xp, FrI p1 p2 base O I env T
  | .num z => fri_num hI env z
  | .nam z => fri_nam hI env hF z
  | .op _ L R => fri_op hI env hEnv (fri hI env hF hEnv L) (fri hI env hF hEnv R)
  | .nul => fri_nul hI env
end Go.Proofs.Ytinbcdadffljhaa
