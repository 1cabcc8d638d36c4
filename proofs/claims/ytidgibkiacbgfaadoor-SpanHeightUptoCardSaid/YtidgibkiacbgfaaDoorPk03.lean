/-
  Contract of sp.Marks.
  slices.Equal over pairs.
  In how many ways two orders become one, odd parts and twos apart. Plain mathematics.
  Words for memory that hold sets: a slice that reads as a list of 64-bit words or of ints. Plain definitions and lemmas; no condition.
-/
import Derived.Test.YtidgibkiacbgfaaDoorPk02
import Derived.OwnWalk
import Derived.Deep.QuietTactic
import Derived.BigQuiet
import Derived.Test.YtidgibkiacbgfaaDoorPk00
import Derived.Shelf.Spec.TrailingZeros
import Derived.WalkKit
namespace Go.Proofs.YtidgibkiacbgfaaDoor
open Go.RowKit
set_option maxRecDepth 100000

/-- the first k pairs hold their number and f of it -/
def Filled (xs : List Value) (k : Nat) (f : Nat → Int) : Prop := ∀ j, j < k → xs[j * 2]? = some (.int .i64 (j : Int)) ∧ xs[j * 2 + 1]? = some (.int .i64 (f j))
theorem Filled.next {xs : List Value} {k n : Nat} {f : Nat → Int} (h : Filled xs k f) (hl : xs.length = n * 2) (hk : k < n) : Filled ((xs.set (k * 2) (.int .i64 (k : Int))).set (k * 2 + 1) (.int .i64 (f k))) (k + 1) f := by
  intro j hj
  simp only [List.getElem?_set]
  by_cases h1 : j = k
  · subst h1
    simp
    omega
  · obtain ⟨h2, h3⟩ := h j (by omega)
    rw [if_neg (by omega), if_neg (by omega), if_neg (by omega), if_neg (by omega)]
    exact ⟨h2, h3⟩

theorem Tryd.infoPairP : ∃ i0, Tryd.prog.info? 52 = some i0 ∧ i0.zero = some (.agg #[.int .i64 0, .int .i64 0]) ∧ i0.size = 2 ∧ i0.bytes = 16 := by
  have h : (Tryd.prog.info? 52).map (fun i => (i.zero, i.size, i.bytes)) = some (some (.agg #[.int .i64 0, .int .i64 0]), 2, 16) := by kernel_rfl
  obtain ⟨i0, hi, hii⟩ := Option.map_eq_some_iff.1 h
  simp only [Prod.mk.injEq] at hii
  exact ⟨i0, hi, hii⟩

theorem markR (M C : Nat) : Rdr (BoxT C 86) (MarkI M C) M 87 (.pointer (some ⟨C, 0, none⟩)) (fun s _ _ => (s ++ [0], true)) (fun s _ _ _ => s) mkP where
  drew := fun w s n h => h
  there := fun w s n ⟨_, g, cap, h, _⟩ => ⟨_, h⟩
  leaf := ⟨87, .pointer (some ⟨C, 0, none⟩), Meth.direct (fun _ _ => by kernel_rfl) (fun _ _ => by kernel_rfl) (fun _ _ => by kernel_rfl), fun w s n a h hn => mark_leaf M C n a s w h hn⟩
  ser := ⟨79, .agg #[], Meth.emb (sg := 92) (by decide +kernel) (by kernel_rfl) (by kernel_rfl) Tryd.underlying86 rfl rfl rfl rfl (fun _ _ => by kernel_rfl) (fun _ _ => by kernel_rfl),
    fun w s x m t h _ _ _ => (patient_series x m t w).mono fun e w' ⟨h1, h2⟩ => ⟨h1, h2 ▸ h.alloc _, h2 ▸ (Below.refl M w).alloc (by have := h.lt; have := h.1; omega) _⟩⟩
  par := ⟨88, .pointer (some ⟨C, 0, none⟩), Meth.direct (fun _ _ => by kernel_rfl) (fun _ _ => by kernel_rfl) (fun _ _ => by kernel_rfl), fun w s x m t h hx hm ht => mark_par M C x m t s w h hx hm ht⟩

/-- the second numbering of leaf k -/
def Tm.posN (T : Tm) (k : Nat) : Int := T.pos (k : Int)

theorem own_below {w w' : World} {base size m M : Nat} {e : TypeId} {x : Value} {news : List Value} (h : w.ownsRow base e size x m news) (hb : Below M w w') (hM : ∀ j, x.ownBlock = some j → j < M) : w'.ownsRow base e size x m news := by
  refine ⟨h.1, ?_⟩
  rcases h.2 with h0 | ⟨g, cap, cur, h1, h2, h3, h4⟩
  · exact .inl h0
  · refine .inr ⟨g, cap, cur, h1, h2, ?_, h4⟩
    rw [hb.block g (hM g (by rw [h1]; rfl))]
    exact h3

set_option maxHeartbeats 1000000 in
theorem marks_any (T : Tm) (h : Hd) (w : World) (hT : TIn w w.heap.size T h) (hs : T.sz ≤ 1048576) :
    Calls Tryd.prog 19 #[.agg h.cells] w fun e w' => ∃ A c xs, e = .returned (.slice A T.sz c) ∧ w'.ownsRow w.heap.size 52 2 (.slice A T.sz c) T.sz xs ∧ Filled xs T.sz T.posN ∧ Below w.heap.size w w' := by
  have key : ∃ w1, w1 = (((w.alloc (.cells h.cells 26)).alloc (.cells #[.int .i64 0] 3)).alloc (.cells #[.slice (some ⟨w.heap.size + 1, 0, none⟩) 1 1] 86)) ∧ Below w.heap.size w w1 ∧ TB 26 w1 w.heap.size h ∧ MarkI (w.heap.size + 1) (w.heap.size + 1 + 1) w1 [0] 0 := by
    refine ⟨_, rfl, (((Below.refl _ _).alloc (Nat.le_refl _) _).alloc (by simp) _).alloc (by simp; omega) _, ((TB.new _ _ _).alloc _).alloc _, ⟨by omega, w.heap.size + 1, 1, ?_, ?_, rfl⟩⟩
    · have := Boxed.new ((w.alloc (.cells h.cells 26)).alloc (.cells #[.int .i64 0] 3)) 86 (.slice (some ⟨w.heap.size + 1, 0, none⟩) 1 1)
      rw [World.size_alloc, World.size_alloc] at this
      exact this
    · refine World.ownsRow.alloc ?_ _
      exact own_row1 (.cells #[.int .i64 0] 3) rfl (by simp) ⟨by simp, rfl, by simp [maxLen]⟩
  obtain ⟨w1, hw1, hb1, ht1, hI1⟩ := key
  have hT1 : TIn w1 (w.heap.size + 1) T h := (hT.below hb1 (Nat.le_refl _)).more (by omega)
  have hc := read_any (markR (w.heap.size + 1) (w.heap.size + 1 + 1)) T w1 w.heap.size 0 h [0] 0 ht1.at (by omega) hT1 hI1 (by omega)
  obtain ⟨Z', he, hmk⟩ := markT_ok T [0] 0 rfl
  unfold markT at he
  rw [he] at hc
  dsimp only at hc
  have HC : Hid (Calls Tryd.prog 20 #[.pointer (some ⟨w.heap.size, 0, none⟩), .int .i64 0, .iface 87 (.pointer (some ⟨w.heap.size + 1 + 1, 0, none⟩))] w1 _) := Lib.hid hc
  obtain ⟨k, c, x, l, A, m, cap⟩ := h
  dsimp only [Hd.cells] at hw1 ⊢
  obtain ⟨i0, hi, hz0, hz1, hz2⟩ := Tryd.infoPairP
  obtain ⟨n, hn⟩ : ∃ n, n = T.sz := ⟨_, rfl⟩
  have hlen : Z'.length = n + 1 := by rw [hmk.len, hn]; omega
  have hpos : ∀ k, k < n → ∀ y, Cg y (ps Z' (k + 1)) → IntKind.i64.wrap ((k : Int) + y) = T.posN k := fun k hk y hy => mark_pos T Z' hmk k (by omega) hs y hy
  rw [← hn] at hs
  rw [← hn] at HC ⊢
  have HP := Lib.hid hpos
  have HLEN := Lib.hid hlen
  have HB1 := Lib.hid hb1
  have hsz1 : w.heap.size + 1 + 1 < w1.heap.size := by rw [hw1]; simp
  have HS1 := Lib.hid hsz1
  have hmw : IntKind.i64.wrap (((n + 1 : Nat) : Int) - 1) = (n : Int) := by rw [IntKind.wrap_i64]; omega
  clear hc hT1 hT ht1 hI1 he hmk hlen hpos hb1 hsz1 hn
  go_enter Tryd.func19, Tryd.ntmps19
  go_wp2_with (first
    | (rw [← hw1]; refine HC.out.mono ?_; rintro e w2 ⟨rfl, ⟨_, g, gcap, hv, hown, _⟩, hb2⟩; have hc2 := hv.cell; rw [HLEN.out] at hc2)
    | (at_make; refine wpList_make_full _ rfl _ _ 50 rfl w2.heap.size 52 i0 _ 2 Tryd.underlying50 hi hz0 hz1 .i64 .i64 _ _ n rfl rfl (by first | rfl | omega) (by first | rfl | omega) (by rw [hz2]; omega) (by unfold maxLen; omega) (Nat.le_refl _) ?_; intro w3 hown3 hgrow3)
    | fail)
  have hlt2 : w.heap.size + 1 + 1 < w2.heap.size := hv.lt
  have hb23 : Below w2.heap.size w2 w3 := (Below.refl _ _).grown hgrow3 (Nat.le_refl _) fun j ej => by cases ej
  have hb3 : Below w.heap.size w w3 := HB1.out.trans ((hb2.trans (hb23.mono (by omega))).mono (by omega))
  obtain ⟨G, hG⟩ : ∃ G, G = w2.heap.size := ⟨_, rfl⟩
  rw [← hG] at hown3 hb23 hlt2 ⊢
  have hv3 : Boxed w3 (w.heap.size + 1 + 1) 86 (.slice (some ⟨g, 0, none⟩) Z'.length gcap) := hv.kept hgrow3 (by simp)
  have hr3 := hown.kept hgrow3 (.inr (by simp [Value.ownBlock]))
  rw [HLEN.out] at hv3 hr3
  have hgG : g < G := by rw [hG]; exact (hown.lt g rfl).2
  have HGC : Hid (w.heap.size ≤ G) := Lib.hid (by omega)
  have HW3 := Lib.hid (Below.refl G w3)
  have HV3 := Lib.hid hv3
  have HR3 := Lib.hid hr3
  have HO3 := Lib.hid hown3
  have HB3 := Lib.hid hb3
  have HLT := Lib.hid hlt2
  have HGG := Lib.hid hgG
  clear hv hown hb2 hc2 hgrow3 hb23 hG hv3 hr3 hown3 hb3 hlt2 hgG hw1 hmw
  go_loopw [5, 18] (fun sh i wr => ∃ (k : Nat) (s : Int) (xs : List Value), k ≤ n ∧ i = .int .i64 k ∧ sh = .int .i64 s ∧ Hid (Cg s (ps Z' k)) ∧ Hid (wr.ownsRow G 52 2 (.slice (some ⟨G, 0, none⟩) n n) n xs) ∧ Hid (Filled xs k T.posN) ∧ Hid (Below G w3 wr)) (fun _ i _ => n - (intOf i).toNat)
  case atStart => exact ⟨0, 0, _, Nat.zero_le _, rfl, rfl, Lib.hid (Cg.refl _), HO3, Lib.hid (fun j hj => by omega), HW3⟩
  case round =>
    obtain ⟨k, s, xs, hk, rfl, rfl, hcg, hrow, hfill, hbr⟩ := hrel
    by_cases hlt : k < n
    · have hvr : Boxed wr (w.heap.size + 1 + 1) 86 (.slice (some ⟨g, 0, none⟩) (n + 1) gcap) := (hbr.out.block _ HLT.out).trans HV3.out
      have hrr := own_below HR3.out hbr.out (fun j ej => by have : g = j := by simpa [Value.ownBlock] using ej
                                                            subst this; exact HGG.out)
      have hc := hvr.cell
      have hz := own_cell1 hrr k (by omega)
      have hfz := own_frozen hrow.out
      have hsz := hrow.out.1
      have hx0 : wr.cell? ⟨G, k * 2, none⟩ = some (xs[k * 2]'(by omega)) := by rw [hrow.out.cellAt (k * 2) (by omega)]; exact List.getElem?_eq_getElem _
      have hx1 : wr.cell? ⟨G, k * 2 + 1, none⟩ = some (xs[k * 2 + 1]'(by omega)) := by rw [hrow.out.cellAt (k * 2 + 1) (by omega)]; exact List.getElem?_eq_getElem _
      generalize xs[k * 2]'(by omega) = y0 at hx0
      generalize xs[k * 2 + 1]'(by omega) = y1 at hx1
      have hcg2 : Cg (IntKind.i64.wrap (s + z0 Z' k)) (ps Z' (k + 1)) := by
        have h1 := cg_wrap (s + z0 Z' k)
        have h2 := hcg.out
        simp only [ps]
        unfold Cg at *
        omega
      have hpk := HP.out k hlt _ hcg2
      obtain ⟨s', hs'⟩ : ∃ s', IntKind.i64.wrap (s + z0 Z' k) = s' := ⟨_, rfl⟩
      rw [hs'] at hcg2 hpk
      have HCG := Lib.hid hcg2
      have HX := Lib.hid (hfill.out.next hsz hlt)
      have HRW : Hid (((wr.setCell ⟨G, k * 2, none⟩ (.int .i64 (k : Int))).setCell ⟨G, k * 2 + 1, none⟩ (.int .i64 (T.posN k))).ownsRow G 52 2 (.slice (some ⟨G, 0, none⟩) n n) n _) := Lib.hid (own_set (own_set hrow.out _) _)
      have HBW : Hid (Below G w3 ((wr.setCell ⟨G, k * 2, none⟩ (.int .i64 (k : Int))).setCell ⟨G, k * 2 + 1, none⟩ (.int .i64 (T.posN k)))) := Lib.hid ((hbr.out.setCell (p := ⟨G, k * 2, none⟩) (Nat.le_refl _) _).setCell (p := ⟨G, k * 2 + 1, none⟩) (Nat.le_refl _) _)
      have n1 : (0 : Int) ≤ (k : Int) := by omega
      have n2 : (k : Int) < (n : Int) := by omega
      have n3 : (k : Int) < ((n + 1 : Nat) : Int) := by omega
      clear hvr hrr hcg hfill hsz hcg2
      go_wp2_with fail
      go_roundw
      case rel => exact ⟨k + 1, s', _, by omega, by go_num, rfl, HCG, HRW, HX, HBW⟩
      case measure => simp [intOf]; omega
    · obtain rfl : k = n := by omega
      go_wp2_with fail
      go_ret
      exact ⟨_, _, xs, rfl, own_more hrow.out HGC.out, hfill.out, HB3.out.trans (hbr.out.mono HGC.out)⟩
end Go.Proofs.YtidgibkiacbgfaaDoor

namespace Go.Proofs.YtidgibkiacbgfaaDoor
open Go.RowKit
set_option maxRecDepth 100000

theorem below_drawsP {B : Nat} {a w : World} (h : Below B a w) : ∀ n, Below B a (w.drewN n)
  | 0 => h
  | n + 1 => (below_drawsP h n).drew

/-- a slice of pairs -/
structure RdPr (w : World) (B : Nat) (A : Option Addr) (n : Nat) (f : Nat → Int) : Prop where
  rd : 0 < n → ∃ b off, A = some ⟨b, off, none⟩ ∧ b < B ∧ ∀ k, k < n → w.cell? ⟨b, off + k * 2, none⟩ = some (.int .i64 (k : Int)) ∧ w.cell? ⟨b, off + k * 2 + 1, none⟩ = some (.int .i64 (f k))
theorem own_rdPr {w : World} {base n c : Nat} {e : TypeId} {A : Option Addr} {xs : List Value} {f : Nat → Int} (h : w.ownsRow base e 2 (.slice A n c) n xs) (hf : Filled xs n f) : RdPr w w.heap.size A n f := by
  refine ⟨fun hn => ?_⟩
  rcases h.2 with ⟨_, h0⟩ | ⟨g, cap, cur, hv, hb, hg, _⟩
  · omega
  · injection hv with hA _ hc
    subst hA
    subst hc
    refine ⟨g, 0, rfl, (Array.getElem?_eq_some_iff.1 hg).1, fun k hk => ?_⟩
    rw [Nat.zero_add, h.cellAt (k * 2) (by omega), h.cellAt (k * 2 + 1) (by omega)]
    exact hf k hk

set_option maxHeartbeats 1000000 in
theorem equalPr_same (A A' : Option Addr) (c c' n : Nat) (f : Nat → Int) (w : World) (hn : n ≤ 1048576) (hx : RdPr w w.heap.size A n f) (hy : RdPr w w.heap.size A' n f) :
    Calls Tryd.prog 18 #[.slice A n c, .slice A' n c'] w fun e w' => e = .returned (.bool true) ∧ Below w.heap.size w w' := by
  have hl : ((n : Int) != (n : Int)) = false := by simp
  go_enter Tryd.func18, Tryd.ntmps18
  go_wp2
  go_loopw [13] (fun i wr => ∃ k q : Nat, k ≤ n ∧ i = .int .i64 k ∧ wr = w.drewN q) (fun i _ => n - (intOf i).toNat)
  case atStart => exact ⟨0, 0, Nat.zero_le _, rfl, rfl⟩
  case round =>
    obtain ⟨k, q, hk, rfl, rfl⟩ := hrel
    by_cases hlt : k < n
    · obtain ⟨b, off, rfl, _, hc⟩ := hx.rd (by omega)
      obtain ⟨b', off', rfl, _, hc'⟩ := hy.rd (by omega)
      obtain ⟨ha1, ha2⟩ := hc k hlt
      obtain ⟨hb1, hb2⟩ := hc' k hlt
      clear hc hc'
      go_wp2
      go_quiet (fail)
      go_wp2
      go_roundw
      case rel => exact ⟨k + 1, _, by omega, by go_num, rfl⟩
      case measure => simp [intOf]; omega
    · go_wp2
      go_ret
      exact ⟨rfl, below_drawsP (Below.refl _ _) q⟩
end Go.Proofs.YtidgibkiacbgfaaDoor

namespace Go.Proofs.YtidgibkiacbgfaaDoor

/-- n + m over m -/
def ch : Nat → Nat → Nat
  | 0, _ => 1
  | _ + 1, 0 => 1
  | n + 1, m + 1 => ch n (m + 1) + ch (n + 1) m
theorem ch_one (m : Nat) : ch 0 m = 1 := by cases m <;> simp [ch]
theorem ch_zero (n : Nat) : ch n 0 = 1 := by cases n <;> simp [ch]
theorem ch_comm : ∀ n m, ch n m = ch m n
  | 0, m => by rw [ch_zero, ch_one]
  | n + 1, 0 => by rw [ch_zero, ch_one]
  | n + 1, m + 1 => by
    rw [ch, ch, ch_comm n (m + 1), ch_comm (n + 1) m, Nat.add_comm]
theorem ch_step : ∀ s n m, n + m ≤ s → (m + 1) * ch n (m + 1) = (n + m + 1) * ch n m := by
  intro s
  induction s with
  | zero =>
    intro n m h
    obtain rfl : n = 0 := by omega
    simp [ch_one]
  | succ s ih =>
    intro n m h
    cases n with
    | zero => simp [ch_one]
    | succ n =>
      have p := ih n m (by omega)
      have q := ih m n (by omega)
      rw [ch_comm m (n + 1), ch_comm m n] at q
      rw [ch, Nat.mul_add, p]
      have e : (n + 1 + m + 1) * ch (n + 1) m = (n + 1) * ch (n + 1) m + (m + 1) * ch (n + 1) m := by rw [← Nat.add_mul]; congr 1
      rw [e, q, Nat.add_comm m n]

/-- the place of the lowest one, and what is left above it -/
def tz (x : Nat) : Nat := Lib.ctz 64 x
def od (x : Nat) : Nat := x / 2 ^ tz x
theorem tz_spec (x : Nat) (h0 : 0 < x) (h : x < 2 ^ 64) : x = 2 ^ tz x * od x ∧ od x % 2 = 1 ∧ tz x < 64 := by
  obtain ⟨m, hm, hlt⟩ := Lib.ctzFrom_spec 64 x h0 h
  have e : tz x = Lib.ctzFrom 64 x := by unfold tz Lib.ctz; rw [if_neg (by omega)]
  have hp : 0 < 2 ^ tz x := Nat.two_pow_pos _
  have ho : od x = 2 * m + 1 := by
    unfold od
    rw [e] at hp ⊢
    exact Nat.div_eq_of_eq_mul_right hp hm
  refine ⟨by rw [ho, e]; exact hm, by rw [ho]; omega, by rw [e]; exact hlt⟩

/-- the product of the odd parts of n + 1, .., n + t; and the sum of their twos -/
def prA (n : Nat) : Nat → Nat
  | 0 => 1
  | t + 1 => prA n t * od (n + t + 1)
def suA (n : Nat) : Nat → Nat
  | 0 => 0
  | t + 1 => suA n t + tz (n + t + 1)
theorem prA_odd (n : Nat) : ∀ t, n + t < 2 ^ 64 → prA n t % 2 = 1
  | 0, _ => rfl
  | t + 1, h => by
    have h1 := prA_odd n t (by omega)
    have h2 := (tz_spec (n + t + 1) (by omega) (by omega)).2.1
    rw [prA, Nat.mul_mod, h1, h2]
theorem pr_ch (n : Nat) : ∀ t, n + t < 2 ^ 64 → prA n t * 2 ^ suA n t = prA 0 t * 2 ^ suA 0 t * ch n t
  | 0, _ => by simp [prA, suA, ch_zero]
  | t + 1, h => by
    have ih := pr_ch n t (by omega)
    obtain ⟨a1, _, _⟩ := tz_spec (n + t + 1) (by omega) (by omega)
    obtain ⟨b1, _, _⟩ := tz_spec (0 + t + 1) (by omega) (by omega)
    have st := ch_step (n + t) n t (Nat.le_refl _)
    have e1 : prA n (t + 1) * 2 ^ suA n (t + 1) = (prA n t * 2 ^ suA n t) * (2 ^ tz (n + t + 1) * od (n + t + 1)) := by
      rw [prA, suA, Nat.pow_add]
      generalize prA n t = p
      generalize od (n + t + 1) = q
      generalize 2 ^ suA n t = r
      generalize 2 ^ tz (n + t + 1) = s
      rw [Nat.mul_assoc p q, Nat.mul_comm q (r * s), Nat.mul_assoc r s q, Nat.mul_assoc p r]
    have e2 : prA 0 (t + 1) * 2 ^ suA 0 (t + 1) = (prA 0 t * 2 ^ suA 0 t) * (2 ^ tz (0 + t + 1) * od (0 + t + 1)) := by
      rw [prA, suA, Nat.pow_add]
      generalize prA 0 t = p
      generalize od (0 + t + 1) = q
      generalize 2 ^ suA 0 t = r
      generalize 2 ^ tz (0 + t + 1) = s
      rw [Nat.mul_assoc p q, Nat.mul_comm q (r * s), Nat.mul_assoc r s q, Nat.mul_assoc p r]
    rw [e1, e2, ← a1, ← b1, ih, Nat.zero_add]
    generalize prA 0 t * 2 ^ suA 0 t = p
    rw [Nat.mul_assoc p (t + 1), st, Nat.mul_assoc, Nat.mul_comm (ch n t)]
theorem suA_le (n t : Nat) (h : n + t < 2 ^ 64) : suA 0 t ≤ suA n t := by
  rcases Nat.lt_or_ge (suA n t) (suA 0 t) with hlt | hge
  · exfalso
    have e := pr_ch n t h
    have ho := prA_odd n t h
    obtain ⟨d, hd⟩ : ∃ d, suA 0 t = suA n t + (d + 1) := ⟨suA 0 t - suA n t - 1, by omega⟩
    rw [hd, Nat.pow_add, Nat.pow_succ] at e
    have hp : 0 < 2 ^ suA n t := Nat.two_pow_pos _
    generalize 2 ^ suA n t = P at *
    generalize prA n t = A at *
    generalize prA 0 t = B at *
    generalize ch n t = C at *
    have e2 : A * P = (B * (2 ^ d * C) * 2) * P := by
      rw [e]
      generalize 2 ^ d = D
      rw [Nat.mul_comm B (P * (D * 2)), Nat.mul_assoc P, Nat.mul_assoc P, Nat.mul_comm P]
      congr 1
      rw [Nat.mul_comm D 2, Nat.mul_assoc 2 D B, Nat.mul_assoc 2, Nat.mul_comm _ 2]
      congr 1
      rw [Nat.mul_comm D B, Nat.mul_assoc]
    have e3 : A = B * (2 ^ d * C) * 2 := Nat.eq_of_mul_eq_mul_right hp e2
    rw [e3] at ho
    omega
  · exact hge
/-- the odd parts and the twos tell the number -/
theorem pr_fin (n t : Nat) (h : n + t < 2 ^ 64) : prA n t * 2 ^ (suA n t - suA 0 t) = prA 0 t * ch n t := by
  have e := pr_ch n t h
  have hl := suA_le n t h
  obtain ⟨d, hd⟩ : ∃ d, suA n t = suA 0 t + d := ⟨suA n t - suA 0 t, by omega⟩
  rw [hd, Nat.pow_add] at e
  rw [hd, Nat.add_sub_cancel_left]
  have hp : 0 < 2 ^ suA 0 t := Nat.two_pow_pos _
  generalize 2 ^ suA 0 t = P at *
  generalize prA n t = A at *
  generalize prA 0 t = B at *
  generalize ch n t = C at *
  generalize 2 ^ d = D at *
  refine Nat.eq_of_mul_eq_mul_right hp ?_
  rw [Nat.mul_assoc A D, Nat.mul_comm D P, e, Nat.mul_assoc B P, Nat.mul_comm P C, Nat.mul_assoc]
theorem mod_fin {A B C e v M : Nat} (h : A * 2 ^ e = B * C) (hv : B * v % M = 1 % M) : (A * v % M) * 2 ^ e % M = C % M := by
  rw [Nat.mod_mul_mod, Nat.mul_assoc, Nat.mul_comm v, ← Nat.mul_assoc, h, Nat.mul_comm B C, Nat.mul_assoc, Nat.mul_mod, hv, ← Nat.mul_mod, Nat.mul_one]

/-- Newton's step -/
theorem newton {x v v' s P1 P2 M : Int} (h : P1 ∣ x * v - 1) (h2 : P2 ∣ P1 * P1) (hM : P2 ∣ M) (hv : v' = v * (2 - x * v) + M * s) : P2 ∣ x * v' - 1 := by
  obtain ⟨q, hq⟩ := h
  have e : x * v = 1 + P1 * q := by omega
  have e2 : x * v' - 1 = M * (x * s) - P1 * P1 * (q * q) := by
    rw [hv, Int.mul_add, ← Int.mul_assoc x v, e]
    have e3 : (1 + P1 * q) * (2 - (1 + P1 * q)) = 1 - (P1 * q) * (P1 * q) := by
      generalize P1 * q = z
      rw [show (2 : Int) - (1 + z) = 1 - z by omega, Int.add_mul, Int.one_mul, Int.mul_sub, Int.mul_one]
      omega
    rw [e3, Int.mul_left_comm x M s]
    have e4 : P1 * q * (P1 * q) = P1 * P1 * (q * q) := by
      rw [Int.mul_assoc P1 q, Int.mul_left_comm q P1 q, ← Int.mul_assoc P1 P1]
    rw [e4]
    omega
  rw [e2]
  exact Int.dvd_sub (Int.dvd_trans hM (Int.dvd_mul_right _ _)) (Int.dvd_trans h2 (Int.dvd_mul_right _ _))
theorem newton_mod (x v M : Int) : ∃ s, (v * ((2 - (x * v) % M) % M)) % M = v * (2 - x * v) + M * s := by
  refine ⟨v * (x * v / M - (2 - (x * v) % M) / M) - (v * ((2 - (x * v) % M) % M)) / M, ?_⟩
  have h1 := Int.emod_def (x * v) M
  have h2 := Int.emod_def (2 - (x * v) % M) M
  have h3 := Int.emod_def (v * ((2 - (x * v) % M) % M)) M
  rw [h3]
  generalize (v * ((2 - (x * v) % M) % M)) / M = c
  rw [h2]
  generalize (2 - (x * v) % M) / M = b
  rw [h1]
  generalize x * v / M = a
  generalize x * v = y
  rw [Int.mul_sub M, Int.mul_left_comm M v, Int.mul_sub M, show 2 - (y - M * a) - M * b = (2 - y) + (M * a - M * b) by omega, Int.mul_add]
  omega
theorem two_dvd {a b : Nat} (h : a ≤ b) : (2 : Int) ^ a ∣ (2 : Int) ^ b := ⟨(2 : Int) ^ (b - a), by rw [← Int.pow_add, Nat.add_sub_cancel' h]⟩
/-- how many places are right behind k rounds -/
def ek (k : Nat) : Nat := min (3 * 2 ^ k) 64
theorem ek_step (k : Nat) : ((2 : Int) ^ ek (k + 1)) ∣ (2 : Int) ^ ek k * (2 : Int) ^ ek k ∧ ((2 : Int) ^ ek (k + 1)) ∣ 18446744073709551616 := by
  have h64 : (18446744073709551616 : Int) = 2 ^ 64 := by decide
  refine ⟨?_, ?_⟩
  · rw [← Int.pow_add]
    refine two_dvd ?_
    unfold ek
    rw [Nat.pow_succ]
    omega
  · rw [h64]
    refine two_dvd ?_
    unfold ek
    omega
theorem odd_start (x : Nat) (h : x % 2 = 1) : ((2 : Int) ^ ek 0) ∣ (x : Int) * x - 1 := by
  obtain ⟨q, rfl⟩ : ∃ q, x = 2 * q + 1 := ⟨x / 2, by omega⟩
  have e : (2 : Int) ^ ek 0 = 8 := by decide
  rw [e]
  have e2 : ((2 * q + 1 : Nat) : Int) * ((2 * q + 1 : Nat) : Int) - 1 = 4 * ((q * (q + 1) : Nat) : Int) := by
    simp only [Int.natCast_add, Int.natCast_mul, Int.mul_add, Int.add_mul]
    have : (q : Int) * ((1 : Nat) : Int) = q := by simp
    generalize hz : (q : Int) * q = z
    have h1 : ((2 : Nat) : Int) * q * (((2 : Nat) : Int) * q) = 4 * z := by rw [← hz, Int.mul_assoc, Int.mul_left_comm (q : Int), ← Int.mul_assoc]; rfl
    rw [h1]
    simp
    omega
  rw [e2]
  have h2 : (q * (q + 1)) % 2 = 0 := by
    rw [Nat.mul_mod]
    rcases Nat.mod_two_eq_zero_or_one q with h | h <;> simp [Nat.add_mod, h]
  omega
theorem inv_end {x v : Int} (k : Nat) (hk : 5 ≤ k) (h : ((2 : Int) ^ ek k) ∣ x * v - 1) : (x * v) % 18446744073709551616 = 1 := by
  have e : ek k = 64 := by
    unfold ek
    have : 2 ^ 5 ≤ 2 ^ k := Nat.pow_le_pow_right (by omega) hk
    omega
  rw [e] at h
  have h64 : (2 : Int) ^ 64 = 18446744073709551616 := by decide
  rw [h64] at h
  omega
end Go.Proofs.YtidgibkiacbgfaaDoor

namespace Go.Proofs.YtidgibkiacbgfaaDoor
open Go.RowKit

/-- element k of a list of words, 0 beyond it -/
def wd (xs : List Nat) (k : Nat) : Nat := xs.getD k 0

/-- element k of a list of ints, 0 beyond it -/
def zd (zs : List Int) (k : Nat) : Int := zs.getD k 0

/-- the first n places from A on hold f; they lie below block B -/
def Rd (w : World) (B : Nat) (A : Option Addr) (n : Nat) (f : Nat → Value) : Prop :=
  0 < n → ∃ b off, A = some ⟨b, off, none⟩ ∧ b < B ∧ ∀ k, k < n → w.cell? ⟨b, off + k, none⟩ = some (f k)

/-- a slice of words -/
structure RdU (w : World) (B : Nat) (A : Option Addr) (xs : List Nat) : Prop where
  lt : ∀ k, wd xs k < 18446744073709551616
  room : xs.length ≤ 1152921504606846976
  rd : Rd w B A xs.length (fun k => .int .u64 (wd xs k : Int))

/-- a slice of ints -/
structure RdI (w : World) (B : Nat) (A : Option Addr) (zs : List Int) : Prop where
  lo : ∀ k, -9223372036854775808 ≤ zd zs k
  hi : ∀ k, zd zs k ≤ 9223372036854775807
  room : zs.length ≤ 1152921504606846976
  rd : Rd w B A zs.length (fun k => .int .i64 (zd zs k))

theorem Rd.keep {w w' : World} {B n : Nat} {A : Option Addr} {f : Nat → Value} (h : Rd w B A n f) (hk : ∀ b o, b < B → w'.cell? ⟨b, o, none⟩ = w.cell? ⟨b, o, none⟩) : Rd w' B A n f := fun hn => by
  obtain ⟨b, off, hA, hb, hc⟩ := h hn
  exact ⟨b, off, hA, hb, fun k hk' => (hk b _ hb).trans (hc k hk')⟩
theorem Rd.more {w : World} {B B' n : Nat} {A : Option Addr} {f : Nat → Value} (h : Rd w B A n f) (hB : B ≤ B') : Rd w B' A n f := fun hn => by
  obtain ⟨b, off, hA, hb, hc⟩ := h hn
  exact ⟨b, off, hA, by omega, hc⟩
theorem Rd.below {w w' : World} {B n : Nat} {A : Option Addr} {f : Nat → Value} (h : Rd w B A n f) (hb : Below B w w') : Rd w' B A n f :=
  h.keep fun b o hlt => hb.cell (p := ⟨b, o, none⟩) hlt
theorem RdU.below {w w' : World} {B : Nat} {A : Option Addr} {xs : List Nat} (h : RdU w B A xs) (hb : Below B w w') : RdU w' B A xs := ⟨h.lt, h.room, h.rd.below hb⟩
theorem RdU.more {w : World} {B B' : Nat} {A : Option Addr} {xs : List Nat} (h : RdU w B A xs) (hB : B ≤ B') : RdU w B' A xs := ⟨h.lt, h.room, h.rd.more hB⟩
theorem RdI.below {w w' : World} {B : Nat} {A : Option Addr} {xs : List Int} (h : RdI w B A xs) (hb : Below B w w') : RdI w' B A xs := ⟨h.lo, h.hi, h.room, h.rd.below hb⟩
theorem RdI.more {w : World} {B B' : Nat} {A : Option Addr} {xs : List Int} (h : RdI w B A xs) (hB : B ≤ B') : RdI w B' A xs := ⟨h.lo, h.hi, h.room, h.rd.more hB⟩
theorem RdU.drewN {w : World} {B : Nat} {A : Option Addr} {xs : List Nat} (h : RdU w B A xs) (n : Nat) : RdU (w.drewN n) B A xs := ⟨h.lt, h.room, h.rd⟩
theorem RdI.drewN {w : World} {B : Nat} {A : Option Addr} {xs : List Int} (h : RdI w B A xs) (n : Nat) : RdI (w.drewN n) B A xs := ⟨h.lo, h.hi, h.room, h.rd⟩
theorem RdU.keep {w w' : World} {B : Nat} {A : Option Addr} {xs : List Nat} (h : RdU w B A xs) (hk : ∀ b o, b < B → w'.cell? ⟨b, o, none⟩ = w.cell? ⟨b, o, none⟩) : RdU w' B A xs := ⟨h.lt, h.room, h.rd.keep hk⟩
theorem RdI.keep {w w' : World} {B : Nat} {A : Option Addr} {xs : List Int} (h : RdI w B A xs) (hk : ∀ b o, b < B → w'.cell? ⟨b, o, none⟩ = w.cell? ⟨b, o, none⟩) : RdI w' B A xs := ⟨h.lo, h.hi, h.room, h.rd.keep hk⟩

theorem zd_out (zs : List Int) (k : Nat) (h : zs.length ≤ k) : zd zs k = 0 := by
  unfold zd; simp [List.getD, h]
theorem wd_out (xs : List Nat) (k : Nat) (h : xs.length ≤ k) : wd xs k = 0 := by
  unfold wd; simp [List.getD, h]

/-- words, ints as values -/
def uVals (xs : List Nat) : List Value := xs.map fun (x : Nat) => Value.int .u64 (x : Int)
def iVals (zs : List Int) : List Value := zs.map fun (z : Int) => Value.int .i64 z
theorem uVals_at (xs : List Nat) (k : Nat) (h : k < xs.length) : (uVals xs)[k]? = some (.int .u64 (wd xs k : Int)) := by
  unfold uVals wd; simp [h, List.getD]
theorem iVals_at (zs : List Int) (k : Nat) (h : k < zs.length) : (iVals zs)[k]? = some (.int .i64 (zd zs k)) := by
  unfold iVals zd; simp [h, List.getD]
theorem uVals_len (xs : List Nat) : (uVals xs).length = xs.length := by simp [uVals]
theorem iVals_len (zs : List Int) : (iVals zs).length = zs.length := by simp [iVals]
theorem uVals_snoc (xs : List Nat) (x : Nat) : uVals xs ++ [.int .u64 (x : Int)] = uVals (xs ++ [x]) := by simp [uVals]
theorem iVals_snoc (zs : List Int) (z : Int) : iVals zs ++ [.int .i64 z] = iVals (zs ++ [z]) := by simp [iVals]

/-- what an owned row looks like -/
theorem own_shape {w : World} {base n : Nat} {e : TypeId} {v : Value} {xs : List Value} (h : w.ownsRow base e 1 v n xs) (hn : 0 < n) :
    ∃ g cap, v = .slice (some ⟨g, 0, none⟩) n cap ∧ base ≤ g ∧ g < w.heap.size := by
  rcases h.2 with ⟨_, h0⟩ | ⟨g, cap, cur, hv, hb, hg, _⟩
  · omega
  · refine ⟨g, cap, hv, hb, ?_⟩
    rcases Nat.lt_or_ge g w.heap.size with hlt | hge
    · exact hlt
    · rw [Array.getElem?_eq_none hge] at hg; cases hg
theorem own_any {w : World} {base n : Nat} {e : TypeId} {v : Value} {xs : List Value} (h : w.ownsRow base e 1 v n xs) : ∃ A cap, v = .slice A n cap := by
  rcases h.2 with ⟨rfl, rfl⟩ | ⟨g, cap, cur, hv, _⟩
  · exact ⟨_, _, rfl⟩
  · exact ⟨_, _, hv⟩
theorem own_rd {w : World} {base n c : Nat} {e : TypeId} {A : Option Addr} {xs : List Value} {f : Nat → Value} (h : w.ownsRow base e 1 (.slice A n c) n xs) (hf : ∀ k, k < n → xs[k]? = some (f k)) : Rd w w.heap.size A n f := fun hn => by
  obtain ⟨g, cap, hv, _, hg⟩ := own_shape h hn
  injection hv with hA _ hc
  subst hA
  subst hc
  refine ⟨g, 0, rfl, hg, fun k hk => ?_⟩
  rw [Nat.zero_add, h.cellAt k (by omega)]
  exact hf k hk
theorem own_rdU {w : World} {base : Nat} {e : TypeId} {v : Value} {xs : List Nat} (h : w.ownsRow base e 1 v xs.length (uVals xs)) (hlt : ∀ k, wd xs k < 18446744073709551616) (hroom : xs.length ≤ 1152921504606846976) :
    ∃ A c, v = .slice A xs.length c ∧ RdU w w.heap.size A xs := by
  obtain ⟨A, c, rfl⟩ := own_any h
  exact ⟨A, c, rfl, hlt, hroom, own_rd h fun k hk => uVals_at xs k hk⟩
theorem own_rdI {w : World} {base : Nat} {e : TypeId} {v : Value} {zs : List Int} (h : w.ownsRow base e 1 v zs.length (iVals zs)) (hlo : ∀ k, -9223372036854775808 ≤ zd zs k) (hhi : ∀ k, zd zs k ≤ 9223372036854775807) (hroom : zs.length ≤ 1152921504606846976) :
    ∃ A c, v = .slice A zs.length c ∧ RdI w w.heap.size A zs := by
  obtain ⟨A, c, rfl⟩ := own_any h
  exact ⟨A, c, rfl, hlo, hhi, hroom, own_rd h fun k hk => iVals_at zs k hk⟩

theorem own_base {w : World} {base n size : Nat} {e : TypeId} {v : Value} {xs : List Value} (h : w.ownsRow base e size v n xs) : ∀ k, v.ownBlock = some k → base ≤ k := by
  intro k hk
  rcases h.2 with ⟨rfl, _⟩ | ⟨g, cap, cur, rfl, hb, _⟩
  · simp [Value.ownBlock] at hk
  · have : g = k := by simpa [Value.ownBlock] using hk
    omega
/-- append of one element: what stays below -/
theorem below_app {W wr w1 : World} {base n : Nat} {e : TypeId} {v : Value} {xs : List Value} (hB : Below base W wr) (hs : base ≤ wr.heap.size) (h : wr.ownsRow base e 1 v n xs) {o : Obj} (hg : (wr.alloc o).grownBy w1 v.ownBlock) : Below base W w1 :=
  (hB.alloc hs o).grown hg (by simp; omega) (own_base h)

end Go.Proofs.YtidgibkiacbgfaaDoor
