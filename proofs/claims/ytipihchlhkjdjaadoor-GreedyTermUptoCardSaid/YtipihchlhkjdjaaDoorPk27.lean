/-
  SameGraph on the same graph.
  The law SpGraphs, as a walk.
  The number of orders of a term's leaves, by sets laid from behind, is Tm.cnt. Plain mathematics.
  A term's graph is closed and does not go round. Plain mathematics.
-/
import Derived.Test.YtipihchlhkjdjaaDoorPk25
import Derived.Deep.QuietTactic
import Derived.BigQuiet
import Derived.Test.YtipihchlhkjdjaaDoorPk26
import Derived.Test.YtipihchlhkjdjaaDoorPk23
import Derived.Test.YtipihchlhkjdjaaDoorPk18
import Derived.Test.YtipihchlhkjdjaaDoorPk09
namespace Go.Proofs.YtipihchlhkjdjaaDoor
open Go.RowKit
set_option maxRecDepth 100000

def edAt (l : List (Int × Int)) (k : Nat) : Int × Int := l.getD k (0, 0)
theorem edV_len (l : List (Int × Int)) : (edV l).length = l.length * 2 := by
  induction l with
  | nil => rfl
  | cons a l ih => simp only [edV, List.flatMap_cons, List.length_append, List.length_cons, List.length_nil] at ih ⊢; omega
theorem edV_at (l : List (Int × Int)) (k : Nat) (hk : k < l.length) : (edV l)[k * 2]? = some (.int .i64 (edAt l k).1) ∧ (edV l)[k * 2 + 1]? = some (.int .i64 (edAt l k).2) := by
  induction l generalizing k with
  | nil => simp at hk
  | cons a l ih =>
    cases k with
    | zero => exact ⟨rfl, rfl⟩
    | succ k =>
      have h := ih k (by simpa using hk)
      have e1 : (k + 1) * 2 = k * 2 + 1 + 1 := by omega
      rw [e1]
      exact h
/-- a slice of edges -/
structure RdEg (w : World) (B : Nat) (A : Option Addr) (l : List (Int × Int)) : Prop where
  room : l.length ≤ 1099511627776
  rd : 0 < l.length → ∃ b off, A = some ⟨b, off, none⟩ ∧ b < B ∧ ∀ k, k < l.length → w.cell? ⟨b, off + k * 2, none⟩ = some (.int .i64 (edAt l k).1) ∧ w.cell? ⟨b, off + k * 2 + 1, none⟩ = some (.int .i64 (edAt l k).2)
theorem own_rdEg {w : World} {base c : Nat} {e : TypeId} {A : Option Addr} {l : List (Int × Int)} (h : w.ownsRow base e 2 (.slice A l.length c) l.length (edV l)) (hr : l.length ≤ 1099511627776) : RdEg w w.heap.size A l := by
  refine ⟨hr, fun hn => ?_⟩
  rcases h.2 with ⟨_, h0⟩ | ⟨g, cap, cur, hv, hb, hg, _⟩
  · omega
  · injection hv with hA _ hc
    subst hA
    subst hc
    refine ⟨g, 0, rfl, (Array.getElem?_eq_some_iff.1 hg).1, fun k hk => ?_⟩
    rw [Nat.zero_add, h.cellAt (k * 2) (by omega), h.cellAt (k * 2 + 1) (by omega)]
    exact edV_at l k hk
theorem RdEg.below {w w' : World} {B : Nat} {A : Option Addr} {l : List (Int × Int)} (h : RdEg w B A l) (hb : Below B w w') : RdEg w' B A l :=
  ⟨h.room, fun hn => by
    obtain ⟨b, off, h1, h2, h3⟩ := h.rd hn
    exact ⟨b, off, h1, h2, fun k hk => ⟨(hb.cell (p := ⟨b, off + k * 2, none⟩) h2).trans (h3 k hk).1, (hb.cell (p := ⟨b, off + k * 2 + 1, none⟩) h2).trans (h3 k hk).2⟩⟩⟩
theorem RdEg.more {w : World} {B B' : Nat} {A : Option Addr} {l : List (Int × Int)} (h : RdEg w B A l) (hb : B ≤ B') : RdEg w B' A l :=
  ⟨h.room, fun hn => by
    obtain ⟨b, off, h1, h2, h3⟩ := h.rd hn
    exact ⟨b, off, h1, by omega, h3⟩⟩
theorem below_draws' {B : Nat} {a w : World} (h : Below B a w) : ∀ n, Below B a (w.drewN n)
  | 0 => h
  | n + 1 => (below_draws' h n).drew

end Go.Proofs.YtipihchlhkjdjaaDoor

namespace Go.Proofs.YtipihchlhkjdjaaDoor
open Go.RowKit
set_option maxRecDepth 100000

/-- what a term's graph is: its nodes, its edges, the error -/
def Tm.gN (T : Tm) : Int := if 200 < T.sz then 0 else T.sz
def Tm.gE (T : Tm) : List (Int × Int) := if 200 < T.sz then [] else T.eds
def Tm.gR (T : Tm) : Int := if 200 < T.sz then 2 else 0
theorem rdEg_nil (w : World) (B : Nat) : RdEg w B none [] := ⟨by simp, fun h => by simp at h⟩
theorem eds_len (T : Tm) (h : T.sz ≤ 200) : T.eds.length ≤ 1099511627776 := by
  have := T.edK_len h T.sz 0 h (by omega)
  unfold Tm.eds
  omega

theorem graph_any (T : Tm) (h : Hd) (w : World) (hT : TIn w w.heap.size T h) (hs : T.sz ≤ 1048576) :
    Calls Tryd.prog 21 #[.agg h.cells] w fun e w' => ∃ A c, e = .returned (.tuple #[.agg #[.int .i64 T.gN, .slice A T.gE.length c], .int .i64 T.gR]) ∧ RdEg w' w'.heap.size A T.gE ∧ Below w.heap.size w w' := by
  unfold Tm.gN Tm.gE Tm.gR
  by_cases hb : 200 < T.sz
  · rw [if_pos hb, if_pos hb, if_pos hb]
    exact (graph_many T h w hT hs hb).mono fun e w' ⟨h1, h2⟩ => ⟨none, 0, h1, rdEg_nil _ _, h2⟩
  · rw [if_neg hb, if_neg hb, if_neg hb]
    exact (graph_few T h w hT (by omega)).mono fun e w' ⟨A, c, h1, h2, h3⟩ => ⟨A, c, h1, own_rdEg h2 (eds_len T (by omega)), h3⟩
/-- what is held in the law's last statement -/
@[reducible] def SG (w5 : World) (D B B3 B5 : Nat) (h : Hd) (N : Int) (v3 v5 : Value) (W : World) : Prop :=
  Below D w5 W ∧ D ≤ W.heap.size ∧
  W.cell? ⟨B, 0, none⟩ = some (.int .i64 h.k) ∧ W.cell? ⟨B, 1, none⟩ = some (.int .i64 h.c) ∧ W.cell? ⟨B, 2, none⟩ = some (.bool h.x) ∧ W.cell? ⟨B, 3, none⟩ = some (.int .i64 h.l) ∧ W.cell? ⟨B, 4, none⟩ = some (.slice h.A h.n h.cap) ∧
  W.cell? ⟨B3, 0, none⟩ = some (.int .i64 N) ∧ W.cell? ⟨B3, 1, none⟩ = some v3 ∧ W.cell? ⟨B5, 0, none⟩ = some (.int .i64 N) ∧ W.cell? ⟨B5, 1, none⟩ = some v5
theorem SG.mk {w5 W : World} {D B B3 B5 : Nat} {h : Hd} {N : Int} {v3 v5 : Value} {T : TypeId} (t : TB T w5 B h) (g3 : GrB w5 B3 N v3) (g5 : GrB w5 B5 N v5) (hD : D = w5.heap.size) (hb : Below D w5 W) : SG w5 D B B3 B5 h N v3 v5 W := by
  have l := hD ▸ t.lt
  have l3 := hD ▸ g3.lt
  have l5 := hD ▸ g5.lt
  exact ⟨hb, hD ▸ hb.size, (hb.cell (p := ⟨B, 0, none⟩) l).trans t.c0, (hb.cell (p := ⟨B, 1, none⟩) l).trans t.c1, (hb.cell (p := ⟨B, 2, none⟩) l).trans t.c2, (hb.cell (p := ⟨B, 3, none⟩) l).trans t.c3, (hb.cell (p := ⟨B, 4, none⟩) l).trans t.c4,
    (hb.cell (p := ⟨B3, 0, none⟩) l3).trans g3.n, (hb.cell (p := ⟨B3, 1, none⟩) l3).trans g3.e, (hb.cell (p := ⟨B5, 0, none⟩) l5).trans g5.n, (hb.cell (p := ⟨B5, 1, none⟩) l5).trans g5.e⟩

end Go.Proofs.YtipihchlhkjdjaaDoor

namespace Go.Proofs.YtipihchlhkjdjaaDoor
set_option maxRecDepth 100000

/-- two sets, one behind the other -/
def cat (a A B : Nat) : Nat := A ||| (B <<< a)
theorem cat_bit {a A : Nat} (hA : A < 2 ^ a) (B j : Nat) : (cat a A B).testBit j = if j < a then A.testBit j else B.testBit (j - a) := by
  unfold cat
  rw [Nat.testBit_or, Nat.testBit_shiftLeft]
  by_cases h : j < a
  · rw [if_pos h, decide_eq_false (by omega), Bool.false_and, Bool.or_false]
  · rw [if_neg h, decide_eq_true (by omega), Bool.true_and, Nat.testBit_lt_two_pow (Nat.lt_of_lt_of_le hA (Nat.pow_le_pow_right (by omega) (by omega))), Bool.false_or]
theorem cat_lt {a b A B : Nat} (hA : A < 2 ^ a) (hB : B < 2 ^ b) : cat a A B < 2 ^ (a + b) := by
  refine Nat.lt_pow_two_of_testBit _ fun j hj => ?_
  rw [cat_bit hA, if_neg (by omega)]
  exact Nat.testBit_lt_two_pow (Nat.lt_of_lt_of_le hB (Nat.pow_le_pow_right (by omega) (by omega)))
theorem cat_er_lo {a A n : Nat} (hA : A < 2 ^ a) (B : Nat) (hn : n < a) : er (cat a A B) n = cat a (er A n) B := by
  apply Nat.eq_of_testBit_eq
  intro j
  rw [er_bit, cat_bit hA, cat_bit (er_lt hA hn), er_bit]
  by_cases h : j < a
  · rw [if_pos h, if_pos h]
  · rw [if_neg h, if_neg h, decide_eq_false (by omega), Bool.xor_false]
theorem cat_er_hi {a A : Nat} (hA : A < 2 ^ a) (B n : Nat) : er (cat a A B) (a + n) = cat a A (er B n) := by
  apply Nat.eq_of_testBit_eq
  intro j
  rw [er_bit, cat_bit hA, cat_bit hA, er_bit]
  by_cases h : j < a
  · rw [if_pos h, if_pos h, decide_eq_false (by omega), Bool.xor_false]
  · rw [if_neg h, if_neg h]
    congr 1
    rw [decide_eq_decide]
    omega
theorem sumN_split (a b : Nat) (g : Nat → Nat) : sumN (a + b) g = sumN a g + sumN b fun n => g (a + n) := by
  induction b with
  | zero => rfl
  | succ b ih => rw [← Nat.add_assoc]; simp only [sumN, ih]; omega
/-- f from a on -/
def sh (f : Nat → Nat → Bool) (a : Nat) (i j : Nat) : Bool := f (a + i) (a + j)
theorem okG_iff {f : Nat → Nat → Bool} {m S n : Nat} : okG f m S n = true ↔ S.testBit n = true ∧ ∀ j, j < m → f n j = true → (er S n).testBit j = true := by
  unfold okG
  rw [Bool.and_eq_true, wb_iff]
theorem okG_hi {f : Nat → Nat → Bool} {a A : Nat} (hA : A < 2 ^ a) (b B : Nat) (h : ∀ i j, j < a → f (a + i) j = false) (n : Nat) : okG f (a + b) (cat a A B) (a + n) = okG (sh f a) b B n := by
  rw [Bool.eq_iff_iff, okG_iff, okG_iff, cat_er_hi hA, cat_bit hA, if_neg (by omega), Nat.add_sub_cancel_left]
  refine and_congr_right fun _ => ⟨fun k j hj hf => ?_, fun k j hj hf => ?_⟩
  · have := k (a + j) (by omega) hf
    rwa [cat_bit hA, if_neg (by omega), Nat.add_sub_cancel_left] at this
  · have hja : ¬ j < a := fun hlt => by rw [h n j hlt] at hf; cases hf
    rw [cat_bit hA, if_neg hja]
    exact k (j - a) (by omega) (by unfold sh; rwa [show a + (j - a) = j by omega])
theorem okG_lo {f : Nat → Nat → Bool} {a A : Nat} (hA : A < 2 ^ a) (b B : Nat) (h : ∀ i j, i < a → f i (a + j) = false) {n : Nat} (hn : n < a) : okG f (a + b) (cat a A B) n = okG f a A n := by
  rw [Bool.eq_iff_iff, okG_iff, okG_iff, cat_er_lo hA B hn, cat_bit hA, if_pos hn]
  refine and_congr_right fun _ => ⟨fun k j hj hf => ?_, fun k j hj hf => ?_⟩
  · have := k j (by omega) hf
    rwa [cat_bit (er_lt hA hn), if_pos hj] at this
  · have hja : j < a := by
      refine Nat.lt_of_not_le fun hle => ?_
      have := h n (j - a) hn
      rw [show a + (j - a) = j by omega, hf] at this
      cases this
    rw [cat_bit (er_lt hA hn), if_pos hja]
    exact k j hja hf
/-- the number of bits below m -/
def pc (m S : Nat) : Nat := sumN m fun j => if S.testBit j = true then 1 else 0
theorem pc_er {m S n : Nat} (hn : n < m) (h : S.testBit n = true) : pc m S = pc m (er S n) + 1 := by
  unfold pc
  refine sumN_single hn (fun j _ hj => ?_) ?_
  · rw [er_bit, decide_eq_false (fun e => hj e.symm), Bool.xor_false]
  · rw [if_pos h, er_self h]; simp
theorem sumN_mul (c : Nat) (g : Nat → Nat) : ∀ N, sumN N (fun n => c * g n) = c * sumN N g
  | 0 => rfl
  | N + 1 => by simp only [sumN, sumN_mul c g N, Nat.mul_add]
theorem cat_pos {a A : Nat} (hA : A < 2 ^ a) {B : Nat} (h : 0 < A ∨ 0 < B) : 0 < cat a A B := by
  refine Nat.pos_of_ne_zero fun e => ?_
  have hb : ∀ j, (cat a A B).testBit j = false := fun j => by rw [e, Nat.zero_testBit]
  have h1 : A = 0 := Nat.eq_of_testBit_eq fun j => by
    rw [Nat.zero_testBit]
    by_cases hj : j < a
    · have := hb j
      rwa [cat_bit hA, if_pos hj] at this
    · exact Nat.testBit_lt_two_pow (Nat.lt_of_lt_of_le hA (Nat.pow_le_pow_right (by omega) (by omega)))
  have h2 : B = 0 := Nat.eq_of_testBit_eq fun j => by
    have := hb (a + j)
    rw [cat_bit hA, if_neg (by omega), Nat.add_sub_cancel_left] at this
    rw [this, Nat.zero_testBit]
  omega
/-- what is laid first out of A -/
theorem gC_sum {f : Nat → Nat → Bool} {m : Nat} (hm : m ≤ 14) {S : Nat} (hS : S < 2 ^ m) : (sumN m fun n => if okG f m S n = true then gC f m (er S n) else 0) = if S = 0 then 0 else gC f m S := by
  by_cases h : S = 0
  · rw [if_pos h]
    refine sumN_zero fun n _ => ?_
    rw [if_neg]
    rw [okG_iff, h, Nat.zero_testBit]
    simp
  · rw [if_neg h, gC_eq hm hS (by omega)]
theorem pc_zero (m : Nat) : pc m 0 = 0 := sumN_zero fun j _ => by rw [Nat.zero_testBit]; rfl
theorem pc_pos {a A : Nat} (hA : A < 2 ^ a) (h : 0 < A) : ∃ p, pc a A = p + 1 := by
  refine ⟨pc a A - 1, ?_⟩
  have : pc a A ≠ 0 := fun e => by
    have : A = 0 := Nat.eq_of_testBit_eq fun j => by
      rw [Nat.zero_testBit]
      by_cases hj : j < a
      · cases hb : A.testBit j with
        | false => rfl
        | true => have := pc_er hj hb; omega
      · exact Nat.testBit_lt_two_pow (Nat.lt_of_lt_of_le hA (Nat.pow_le_pow_right (by omega) (by omega)))
    omega
  omega
theorem gC_par {f : Nat → Nat → Bool} {a b : Nat} (hm : a + b ≤ 14) (h1 : ∀ i j, i < a → f i (a + j) = false) (h2 : ∀ i j, j < a → f (a + i) j = false) :
    ∀ d A B, A + B ≤ d → A < 2 ^ a → B < 2 ^ b → gC f (a + b) (cat a A B) = ch (pc a A) (pc b B) * (gC f a A * gC (sh f a) b B) := by
  intro d
  induction d with
  | zero =>
    intro A B hd _ _
    obtain rfl : A = 0 := by omega
    obtain rfl : B = 0 := by omega
    rw [pc_zero, pc_zero]
    simp [cat, gC_zero, ch]
  | succ d ih =>
    intro A B hd hA hB
    by_cases h0 : 0 < A ∨ 0 < B
    · rw [gC_eq hm (cat_lt hA hB) (cat_pos hA h0), sumN_split]
      have e1 : (sumN a fun n => if okG f (a + b) (cat a A B) n = true then gC f (a + b) (er (cat a A B) n) else 0) = ch (pc a A - 1) (pc b B) * gC (sh f a) b B * (if A = 0 then 0 else gC f a A) := by
        rw [← gC_sum (show a ≤ 14 by omega) hA, ← sumN_mul]
        refine sumN_congr fun n hn => ?_
        rw [okG_lo hA b B h1 hn]
        by_cases ho : okG f a A n = true
        · have hb := (okG_iff.1 ho).1
          have hs := er_small hA hn (by omega) hb
          have hp := pc_er hn hb
          rw [if_pos ho, if_pos ho, cat_er_lo hA B hn, ih _ _ (by omega) (er_lt hA hn) hB, hp, Nat.add_sub_cancel, Nat.mul_assoc, Nat.mul_comm (gC f a _)]
        · rw [if_neg ho, if_neg ho, Nat.mul_zero]
      have e2 : (sumN b fun n => if okG f (a + b) (cat a A B) (a + n) = true then gC f (a + b) (er (cat a A B) (a + n)) else 0) = ch (pc a A) (pc b B - 1) * gC f a A * (if B = 0 then 0 else gC (sh f a) b B) := by
        rw [← gC_sum (show b ≤ 14 by omega) hB, ← sumN_mul]
        refine sumN_congr fun n hn => ?_
        rw [okG_hi hA b B h2]
        by_cases ho : okG (sh f a) b B n = true
        · have hb := (okG_iff.1 ho).1
          have hs := er_small hB hn (by omega) hb
          have hp := pc_er hn hb
          rw [if_pos ho, if_pos ho, cat_er_hi hA, ih _ _ (by omega) hA (er_lt hB hn), hp, Nat.add_sub_cancel, Nat.mul_assoc]
        · rw [if_neg ho, if_neg ho, Nat.mul_zero]
      rw [e1, e2]
      rcases Nat.eq_zero_or_pos A with hA0 | hA0
      · subst hA0
        rw [if_pos rfl, if_neg (by omega), pc_zero, ch_one, ch_one, gC_zero]
        simp
      · rcases Nat.eq_zero_or_pos B with hB0 | hB0
        · subst hB0
          rw [if_pos rfl, if_neg (by omega), pc_zero, ch_zero, ch_zero, gC_zero]
          simp
        · rw [if_neg (by omega), if_neg (by omega)]
          obtain ⟨p, hp⟩ := pc_pos hA hA0
          obtain ⟨q, hq⟩ := pc_pos hB hB0
          rw [hp, hq, Nat.add_sub_cancel, Nat.add_sub_cancel]
          simp only [ch]
          rw [Nat.add_mul, Nat.mul_assoc, Nat.mul_assoc, Nat.mul_comm (gC (sh f a) b B)]
    · exact ih A B (by omega) hA hB

/-- what is not closed to behind counts nothing -/
theorem gC_none {f : Nat → Nat → Bool} {a b : Nat} (hm : a + b ≤ 14) (h1 : ∀ i j, i < a → j < b → f i (a + j) = true) :
    ∀ d A B, A + B ≤ d → 0 < A → A < 2 ^ a → B < 2 ^ b → (∃ j, j < b ∧ B.testBit j = false) → gC f (a + b) (cat a A B) = 0 := by
  intro d
  induction d with
  | zero => intro A B h1 h2; omega
  | succ d ih =>
    intro A B hd h0 hA hB hj
    obtain ⟨j, hj, hb⟩ := hj
    rw [gC_eq hm (cat_lt hA hB) (cat_pos hA (Or.inl h0)), sumN_split]
    have e1 : (sumN a fun n => if okG f (a + b) (cat a A B) n = true then gC f (a + b) (er (cat a A B) n) else 0) = 0 := by
      refine sumN_zero fun n hn => ?_
      rw [if_neg]
      intro ho
      have := (okG_iff.1 ho).2 (a + j) (by omega) (h1 n j hn hj)
      rw [cat_er_lo hA B hn, cat_bit (er_lt hA hn), if_neg (by omega), Nat.add_sub_cancel_left, hb] at this
      cases this
    rw [e1, Nat.zero_add]
    refine sumN_zero fun n hn => ?_
    by_cases ho : okG f (a + b) (cat a A B) (a + n) = true
    · have hbn := (okG_iff.1 ho).1
      rw [cat_bit hA, if_neg (by omega), Nat.add_sub_cancel_left] at hbn
      have hs := er_small hB hn (by omega) hbn
      rw [if_pos ho, cat_er_hi hA]
      exact ih _ _ (by omega) h0 hA (er_lt hB hn) ⟨n, hn, er_self hbn⟩
    · rw [if_neg ho]
theorem gC_right {f : Nat → Nat → Bool} {a b : Nat} (hm : a + b ≤ 14) (h2 : ∀ i j, j < a → f (a + i) j = false) :
    ∀ d B, B ≤ d → B < 2 ^ b → gC f (a + b) (cat a 0 B) = gC (sh f a) b B := by
  have hA : 0 < 2 ^ a := Nat.two_pow_pos a
  intro d
  induction d with
  | zero =>
    intro B hd _
    obtain rfl : B = 0 := by omega
    simp [cat, gC_zero]
  | succ d ih =>
    intro B hd hB
    rcases Nat.eq_zero_or_pos B with h0 | h0
    · exact ih B (by omega) hB
    · rw [gC_eq hm (cat_lt hA hB) (cat_pos hA (Or.inr h0)), sumN_split, gC_eq (show b ≤ 14 by omega) hB h0]
      have e1 : (sumN a fun n => if okG f (a + b) (cat a 0 B) n = true then gC f (a + b) (er (cat a 0 B) n) else 0) = 0 := by
        refine sumN_zero fun n hn => ?_
        rw [if_neg]
        intro ho
        have := (okG_iff.1 ho).1
        rw [cat_bit hA, if_pos hn, Nat.zero_testBit] at this
        cases this
      rw [e1, Nat.zero_add]
      refine sumN_congr fun n hn => ?_
      rw [okG_hi hA b B h2]
      by_cases ho : okG (sh f a) b B n = true
      · have hs := er_small hB hn (by omega) (okG_iff.1 ho).1
        rw [if_pos ho, if_pos ho, cat_er_hi hA, ih _ (by omega) (er_lt hB hn)]
      · rw [if_neg ho, if_neg ho]
theorem okG_full {f : Nat → Nat → Bool} {a A : Nat} (hA : A < 2 ^ a) {b B : Nat} (h : ∀ j, j < b → B.testBit j = true) {n : Nat} (hn : n < a) : okG f (a + b) (cat a A B) n = okG f a A n := by
  rw [Bool.eq_iff_iff, okG_iff, okG_iff, cat_er_lo hA B hn, cat_bit hA, if_pos hn]
  refine and_congr_right fun _ => ⟨fun k j hj hf => ?_, fun k j hj hf => ?_⟩
  · have := k j (by omega) hf
    rwa [cat_bit (er_lt hA hn), if_pos hj] at this
  · rw [cat_bit (er_lt hA hn)]
    by_cases hja : j < a
    · rw [if_pos hja]; exact k j hja hf
    · rw [if_neg hja]; exact h _ (by omega)
theorem gC_seq {f : Nat → Nat → Bool} {a b B : Nat} (hm : a + b ≤ 14) (h1 : ∀ i j, i < a → j < b → f i (a + j) = true) (h2 : ∀ i j, j < a → f (a + i) j = false) (hB : B < 2 ^ b) (hfull : ∀ j, j < b → B.testBit j = true) :
    ∀ d A, A ≤ d → A < 2 ^ a → gC f (a + b) (cat a A B) = gC f a A * gC (sh f a) b B := by
  intro d
  induction d with
  | zero =>
    intro A hd _
    obtain rfl : A = 0 := by omega
    rw [gC_right hm h2 B B (Nat.le_refl _) hB, gC_zero, Nat.one_mul]
  | succ d ih =>
    intro A hd hA
    rcases Nat.eq_zero_or_pos A with h0 | h0
    · exact ih A (by omega) hA
    · rw [gC_eq hm (cat_lt hA hB) (cat_pos hA (Or.inl h0)), sumN_split, gC_eq (show a ≤ 14 by omega) hA h0]
      have e2 : (sumN b fun n => if okG f (a + b) (cat a A B) (a + n) = true then gC f (a + b) (er (cat a A B) (a + n)) else 0) = 0 := by
        refine sumN_zero fun n hn => ?_
        by_cases ho : okG f (a + b) (cat a A B) (a + n) = true
        · rw [if_pos ho, cat_er_hi hA]
          exact gC_none hm h1 _ _ _ (Nat.le_refl _) h0 hA (er_lt hB hn) ⟨n, hn, er_self (hfull n hn)⟩
        · rw [if_neg ho]
      rw [e2, Nat.add_zero, Nat.mul_comm, ← sumN_mul]
      refine sumN_congr fun n hn => ?_
      rw [okG_full hA hfull hn]
      by_cases ho : okG f a A n = true
      · have hs := er_small hA hn (by omega) (okG_iff.1 ho).1
        rw [if_pos ho, if_pos ho, cat_er_lo hA B hn, ih _ (by omega) (er_lt hA hn), Nat.mul_comm]
      · rw [if_neg ho, if_neg ho, Nat.mul_zero]
theorem gC_congr {f g : Nat → Nat → Bool} {m : Nat} (h : ∀ i j, i < m → j < m → f i j = g i j) (S : Nat) : gC f m S = gC g m S := by
  have : ∀ k S, gK f m k S = gK g m k S := by
    intro k
    induction k with
    | zero => intro S; rfl
    | succ k ih =>
      intro S
      show (if S = 0 then 1 else _) = (if S = 0 then 1 else _)
      by_cases h0 : S = 0
      · rw [if_pos h0, if_pos h0]
      · rw [if_neg h0, if_neg h0]
        refine sumN_congr fun n hn => ?_
        have : okG f m S n = okG g m S n := by
          rw [Bool.eq_iff_iff, okG_iff, okG_iff]
          refine and_congr_right fun _ => ⟨fun k j hj hf => k j hj (by rw [h n j hn hj]; exact hf), fun k j hj hf => k j hj (by rw [← h n j hn hj]; exact hf)⟩
        rw [this, ih]
  exact this S S
theorem cat_full (a b : Nat) : cat a (2 ^ a - 1) (2 ^ b - 1) = 2 ^ (a + b) - 1 := by
  apply Nat.eq_of_testBit_eq
  intro j
  rw [cat_bit (by have := Nat.two_pow_pos a; omega), Nat.testBit_two_pow_sub_one, Nat.testBit_two_pow_sub_one, Nat.testBit_two_pow_sub_one]
  by_cases h : j < a
  · rw [if_pos h, decide_eq_true h, decide_eq_true (by omega)]
  · rw [if_neg h, decide_eq_decide]; omega
theorem pc_full (m : Nat) : pc m (2 ^ m - 1) = m := by
  have : ∀ k, k ≤ m → sumN k (fun j => if (2 ^ m - 1).testBit j = true then 1 else 0) = k := by
    intro k
    induction k with
    | zero => intro _; rfl
    | succ k ih =>
      intro hk
      show sumN k _ + (if _ then 1 else 0) = k + 1
      rw [ih (by omega), if_pos (by rw [Nat.testBit_two_pow_sub_one]; simp; omega)]
  exact this m (Nat.le_refl _)
/-- who is ahead, by numbers -/
def Tm.bN (T : Tm) (i j : Nat) : Bool := T.bef (i : Int) (j : Int)
theorem Tm.bN_high (T : Tm) (i j : Nat) (h : j ≤ i) : T.bN i j = false := T.bef_out _ _ (by omega)
theorem Tm.seq_rightN (l r : Tm) (i j : Nat) : (Tm.seq l r).bN (l.sz + i) (l.sz + j) = r.bN i j := by
  unfold Tm.bN
  rw [Tm.bef, l.bef_out _ _ (by omega), decide_eq_false (show ¬ (((l.sz + i : Nat) : Int) < (l.sz : Int)) by omega), show ((l.sz + i : Nat) : Int) - l.sz = i by omega, show ((l.sz + j : Nat) : Int) - l.sz = j by omega]
  simp
theorem Tm.par_rightN (l r : Tm) (i j : Nat) : (Tm.par l r).bN (l.sz + i) (l.sz + j) = r.bN i j := by
  unfold Tm.bN
  rw [Tm.bef, l.bef_out _ _ (by omega), show ((l.sz + i : Nat) : Int) - l.sz = i by omega, show ((l.sz + j : Nat) : Int) - l.sz = j by omega]
  simp
theorem full_lt (m : Nat) : 2 ^ m - 1 < 2 ^ m := by have := Nat.two_pow_pos m; omega
theorem Tm.gC_cnt (T : Tm) (hs : T.sz ≤ 14) : gC T.bN T.sz (2 ^ T.sz - 1) = T.cnt := by
  induction T with
  | nil => rfl
  | one a =>
    show gC (Tm.one a).bN 1 1 = 1
    rw [gC_eq (by omega) (by omega) (by omega)]
    show (0 + if okG (Tm.one a).bN 1 1 0 = true then gC (Tm.one a).bN 1 (er 1 0) else 0) = 1
    rw [if_pos (okG_iff.2 ⟨rfl, fun j _ hf => by cases hf⟩)]
    rfl
  | seq l r il ir =>
    have hs' : l.sz + r.sz ≤ 14 := hs
    have e1 := gC_seq (f := (Tm.seq l r).bN) (a := l.sz) (b := r.sz) hs' (fun i j hi hj => Tm.seq_cross l r _ _ (by omega) (by omega) (by omega) (by omega)) (fun i j hj => Tm.bN_high _ _ _ (by omega)) (full_lt _) (fun j hj => by rw [Nat.testBit_two_pow_sub_one]; exact decide_eq_true hj) _ _ (Nat.le_refl _) (full_lt l.sz)
    rw [cat_full] at e1
    show gC _ (l.sz + r.sz) (2 ^ (l.sz + r.sz) - 1) = l.cnt * r.cnt
    rw [e1, gC_congr (f := (Tm.seq l r).bN) (g := l.bN) (m := l.sz) (fun i j hi hj => Tm.seq_left l r _ _ (by omega) (by omega)), gC_congr (f := sh (Tm.seq l r).bN l.sz) (g := r.bN) (m := r.sz) (fun i j _ _ => Tm.seq_rightN l r i j), il (by omega), ir (by omega)]
  | par l r il ir =>
    have hs' : l.sz + r.sz ≤ 14 := hs
    have e1 := gC_par (f := (Tm.par l r).bN) (a := l.sz) (b := r.sz) hs' (fun i j hi => Tm.par_cross l r _ _ (by omega) (by omega)) (fun i j hj => Tm.bN_high _ _ _ (by omega)) _ _ _ (Nat.le_refl _) (full_lt l.sz) (full_lt r.sz)
    rw [cat_full, pc_full, pc_full] at e1
    show gC _ (l.sz + r.sz) (2 ^ (l.sz + r.sz) - 1) = l.cnt * r.cnt * ch l.sz r.sz
    rw [e1, gC_congr (f := (Tm.par l r).bN) (g := l.bN) (m := l.sz) (fun i j hi hj => Tm.par_left l r _ _ (by omega) (by omega)), gC_congr (f := sh (Tm.par l r).bN l.sz) (g := r.bN) (m := r.sz) (fun i j _ _ => Tm.par_rightN l r i j), il (by omega), ir (by omega), Nat.mul_comm]
end Go.Proofs.YtipihchlhkjdjaaDoor

namespace Go.Proofs.YtipihchlhkjdjaaDoor
open Go.RowKit
set_option maxRecDepth 100000

theorem Tm.mem_edI (T : Tm) (i n : Nat) (e : Int × Int) : e ∈ T.edI i n ↔ ∃ k : Nat, k < n ∧ T.bef (i : Int) (k : Int) = true ∧ e = ((i : Int), (k : Int)) := by
  unfold Tm.edI
  rw [List.mem_map]
  constructor
  · rintro ⟨k, hk, rfl⟩
    rw [List.mem_filter, List.mem_range] at hk
    exact ⟨k, hk.1, hk.2, rfl⟩
  · rintro ⟨k, h1, h2, rfl⟩
    exact ⟨k, by rw [List.mem_filter, List.mem_range]; exact ⟨h1, h2⟩, rfl⟩
theorem Tm.eds_flat (T : Tm) : T.eds = (List.range T.sz).flatMap fun i => T.edI i T.sz := by
  unfold Tm.eds Tm.edK
  rw [T.edI_low T.sz 0 (by omega), List.append_nil]
theorem Tm.mem_edg (T : Tm) (e : Int × Int) : e ∈ T.eds ↔ ∃ i k : Nat, T.bef (i : Int) (k : Int) = true ∧ e = ((i : Int), (k : Int)) := by
  rw [T.eds_flat, List.mem_flatMap]
  constructor
  · rintro ⟨i, _, h⟩
    obtain ⟨k, _, h2, h3⟩ := (T.mem_edI i T.sz e).1 h
    exact ⟨i, k, h2, h3⟩
  · rintro ⟨i, k, h2, h3⟩
    have := T.bef_lt _ _ h2
    exact ⟨i, List.mem_range.2 (by omega), (T.mem_edI i T.sz e).2 ⟨k, by omega, h2, h3⟩⟩
theorem eds_gR (T : Tm) (i j : Nat) : gR T.eds i j = T.bef (i : Int) (j : Int) := by
  unfold gR
  rw [Bool.eq_iff_iff, decide_eq_true_iff, T.mem_edg]
  constructor
  · rintro ⟨a, b, h, e⟩
    injection e with e1 e2
    obtain rfl : i = a := by omega
    obtain rfl : j = b := by omega
    exact h
  · intro h
    exact ⟨i, j, h, rfl⟩
theorem eds_path (T : Tm) {a b : Nat} (h : Path (gR T.eds) a b) : T.bef (a : Int) (b : Int) = true := by
  induction h with
  | one h => rwa [eds_gR T] at h
  | step h _ ih => rw [eds_gR T] at h; exact T.bef_trans _ _ _ h ih
theorem eds_fw (T : Tm) (m a b : Nat) : fw (gR T.eds) m a b = T.bef (a : Int) (b : Int) := by
  rw [Bool.eq_iff_iff]
  exact ⟨fun h => eds_path T (fw_sound _ _ _ h), fun h => fw_base m (by rw [eds_gR T]; exact h)⟩
theorem Tm.inR_eds (T : Tm) (hs : T.sz ≤ 200) : inR (T.sz : Int) T.eds = true := by
  unfold inR
  rw [Bool.and_eq_true, List.all_eq_true]
  refine ⟨by unfold okN200; simp; omega, fun e he => ?_⟩
  obtain ⟨i, k, h, rfl⟩ := (T.mem_edg e).1 he
  have := T.bef_lt _ _ h
  unfold okE nodeB
  simp
  omega
theorem Tm.full_eds (T : Tm) (hs : T.sz ≤ 200) : (ordr T.sz T.eds).length = T.sz := by
  have hle := ordr_le T.sz T.eds
  have : ¬ (ordr T.sz T.eds).length < T.sz := fun hlt => by
    obtain ⟨x, _, h⟩ := (loop_iff (T.inR_eds hs)).1 hlt
    rw [eds_fw T] at h
    have := T.bef_lt _ _ h
    omega
  omega
theorem Tm.errn_eds (T : Tm) (hs : T.sz ≤ 200) : errn (T.sz : Int) T.eds = 0 := errn_ok (T.inR_eds hs) (T.full_eds hs)

theorem range_filter (q : Nat → Bool) (a : Nat) (h : ∀ j, q j = true → j < a) : ∀ d, (List.range (a + d)).filter q = (List.range a).filter q
  | 0 => rfl
  | d + 1 => by
    have : q (a + d) = false := by
      cases hq : q (a + d) with
      | false => rfl
      | true => have := h _ hq; omega
    rw [← Nat.add_assoc, List.range_succ, List.filter_append, range_filter q a h d]
    simp [this]
theorem mem_filter_range (xs : List Nat) (m : Nat) (h : ∀ j, bitB xs j = true → j < m) : mem xs = (List.range m).filter (bitB xs) := by
  unfold mem nums
  have h2 : ∀ j, bitB xs j = true → j < 64 * xs.length := fun j hj => bit_in' xs j hj
  rw [← range_filter (bitB xs) (64 * xs.length) h2 m, Nat.add_comm, range_filter (bitB xs) m h]
theorem Tm.cls_eds (T : Tm) (hs : T.sz ≤ 200) : clsG (T.sz : Int) T.eds = T.eds := by
  have hin := T.inR_eds hs
  unfold clsG
  rw [if_pos (T.errn_eds hs), Int.toNat_natCast]
  unfold elI elist
  rw [List.map_flatMap]
  conv => rhs; rw [T.eds_flat]
  have : ∀ i ∈ List.range T.sz, (((mem (st (behs T.sz T.eds) i)).map fun j => (i, j)).map fun e => ((e.1 : Int), (e.2 : Int))) = T.edI i T.sz := by
    intro i hi
    have hi' := List.mem_range.1 hi
    rw [st_behs _ hi']
    have hb : ∀ j, bitB (beh T.sz T.eds i) j = T.bef (i : Int) (j : Int) := fun j => by rw [beh_bit hin, eds_fw T]
    rw [mem_filter_range _ T.sz (fun j hj => by rw [hb] at hj; have := T.bef_lt _ _ hj; omega), List.map_map]
    unfold Tm.edI
    rw [show bitB (beh T.sz T.eds i) = fun k : Nat => T.bef (i : Int) (k : Int) from funext hb]
    rfl
  simp only [List.flatMap]
  rw [List.map_congr_left this]
theorem Tm.nG_eds (T : Tm) (hs : T.sz ≤ 200) : nG (T.sz : Int) T.eds = T.sz := by unfold nG; rw [if_pos (T.errn_eds hs)]

/-- the two ways to read a slice of edges -/
theorem RdE.eg {w : World} {B : Nat} {A : Option Addr} {es : List (Int × Int)} (h : RdE w B A es) : RdEg w B A es := ⟨h.room, h.rd⟩
theorem Tm.rdE {w : World} {B : Nat} {A : Option Addr} (T : Tm) (hs : T.sz ≤ 200) (h : RdEg w B A T.eds) : RdE w B A T.eds := by
  have key : ∀ k, 0 ≤ (ed T.eds k).1 ∧ (ed T.eds k).1 ≤ 200 ∧ 0 ≤ (ed T.eds k).2 ∧ (ed T.eds k).2 ≤ 200 := fun k => by
    by_cases hk : k < T.eds.length
    · obtain ⟨i, j, hb, he⟩ := (T.mem_edg _).1 (ed_mem T.eds k hk)
      rw [he]
      have := T.bef_lt _ _ hb
      dsimp only
      omega
    · have : ed T.eds k = (0, 0) := by
        unfold ed
        simp only [List.getD, List.getElem?_eq_none (show T.eds.length ≤ k by omega), Option.getD_none]
      rw [this]
      dsimp only
      omega
  exact ⟨fun k => by have := key k; omega, fun k => by have := key k; omega, fun k => by have := key k; omega, fun k => by have := key k; omega, h.room, h.rd⟩
end Go.Proofs.YtipihchlhkjdjaaDoor
