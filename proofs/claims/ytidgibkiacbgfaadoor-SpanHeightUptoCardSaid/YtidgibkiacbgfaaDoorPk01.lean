/-
  The marker's shifts: their sums tell the second numbering. Plain mathematics.
  Methods of readers that lie in the embedded sp.patient: how the interface finds them.
  Contract of sp.Leaves.
  Contract of sp.Leaves: the accesses of a term's leaves.
-/
import Derived.Test.YtidgibkiacbgfaaDoorPk00
import Derived.RangeFuncBox
import Derived.Deep.AppendLies
import Derived.Deep.RegionLaw
namespace Go.Proofs.YtidgibkiacbgfaaDoor
open Go.RowKit

def z0 (Z : List Int) (k : Nat) : Int := Z.getD k 0
/-- the sum of the first k -/
def ps (Z : List Int) : Nat → Int
  | 0 => 0
  | k + 1 => ps Z k + z0 Z k
theorem z0_set (Z : List Int) (i k : Nat) (v : Int) (hi : i < Z.length) : z0 (Z.set i v) k = if k = i then v else z0 Z k := by
  unfold z0
  simp only [List.getD, List.getElem?_set]
  split
  · rename_i h; subst h; simp
  · rename_i h
    rw [if_neg (fun e => h e.symm)]
theorem z0_app (Z : List Int) (v : Int) (k : Nat) (hk : k < Z.length) : z0 (Z ++ [v]) k = z0 Z k := by
  unfold z0
  simp [List.getD, List.getElem?_append_left hk]
theorem z0_new (Z : List Int) (v : Int) : z0 (Z ++ [v]) Z.length = v := by simp [z0, List.getD]
theorem ps_congr {Z Z' : List Int} (K : Nat) (h : ∀ k, k < K → z0 Z' k = z0 Z k) : ps Z' K = ps Z K := by
  induction K with
  | zero => rfl
  | succ K ih => simp only [ps]; rw [ih fun k hk => h k (by omega), h K (by omega)]
theorem ps_set (Z : List Int) (i : Nat) (v : Int) (hi : i < Z.length) (K : Nat) : ps (Z.set i v) K = ps Z K + if i < K then v - z0 Z i else 0 := by
  induction K with
  | zero => simp [ps]
  | succ K ih =>
    simp only [ps, ih, z0_set _ _ _ _ hi]
    by_cases h1 : i < K
    · rw [if_pos h1, if_neg (by omega), if_pos (by omega)]; omega
    · by_cases h2 : K = i
      · subst h2; rw [if_neg h1, if_pos rfl, if_pos (by omega)]; omega
      · rw [if_neg h1, if_neg h2, if_neg (by omega)]; omega

/-- equal but for multiples of 2^64 -/
def Cg (a b : Int) : Prop := (a - b) % 18446744073709551616 = 0
theorem Cg.refl (a : Int) : Cg a a := by simp [Cg]
theorem cg_wrap (a : Int) : Cg (IntKind.i64.wrap a) a := by
  rw [IntKind.wrap_i64]
  unfold Cg
  omega
theorem cg_exact {a b : Int} (h : Cg a b) (h0 : 0 ≤ b) (h1 : b < 9223372036854775808) : IntKind.i64.wrap a = b := by
  rw [IntKind.wrap_i64]
  unfold Cg at h
  omega

/-- what a parallel tells the marker -/
def mkP (Z : List Int) (f m t : Nat) : List Int :=
  let Z1 := Z.set f (IntKind.i64.wrap (z0 Z f + ((t : Int) - m)))
  let Z2 := Z1.set m (IntKind.i64.wrap (z0 Z1 m - ((t : Int) - f)))
  Z2.set t (IntKind.i64.wrap (z0 Z2 t + ((m : Int) - f)))
theorem mkP_len (Z : List Int) (f m t : Nat) : (mkP Z f m t).length = Z.length := by simp [mkP]

theorem mkP_low (Z : List Int) (f m t k : Nat) (hf : f ≤ m) (hm : m ≤ t) (ht : t < Z.length) (hk : k < f) : z0 (mkP Z f m t) k = z0 Z k := by
  unfold mkP
  dsimp only
  rw [z0_set _ _ _ _ (by simp; omega), if_neg (by omega), z0_set _ _ _ _ (by simp; omega), if_neg (by omega), z0_set _ _ _ _ (by omega), if_neg (by omega)]
theorem mkP_ps (Z : List Int) (f m t K : Nat) (hf : f ≤ m) (hm : m ≤ t) (ht : t < Z.length) :
    Cg (ps (mkP Z f m t) K) (ps Z K + (if f < K then (t : Int) - m else 0) - (if m < K then (t : Int) - f else 0) + (if t < K then (m : Int) - f else 0)) := by
  unfold mkP
  dsimp only
  rw [ps_set _ _ _ (by simp; omega), ps_set _ _ _ (by simp; omega), ps_set _ _ _ (by omega)]
  have h1 := cg_wrap (z0 Z f + ((t : Int) - m))
  generalize IntKind.i64.wrap (z0 Z f + ((t : Int) - m)) = w1 at *
  have h2 := cg_wrap (z0 (Z.set f w1) m - ((t : Int) - f))
  generalize IntKind.i64.wrap (z0 (Z.set f w1) m - ((t : Int) - f)) = w2 at *
  have h3 := cg_wrap (z0 ((Z.set f w1).set m w2) t + ((m : Int) - f))
  generalize IntKind.i64.wrap (z0 ((Z.set f w1).set m w2) t + ((m : Int) - f)) = w3 at *
  unfold Cg at *
  generalize z0 ((Z.set f w1).set m w2) t = x3 at *
  generalize z0 (Z.set f w1) m = x2 at *
  split <;> split <;> split <;> omega

/-- what the marker holds behind a term: below it all is as it was -/
structure Marked (T : Tm) (Z Z' : List Int) (f : Nat) : Prop where
  len : Z'.length = f + T.sz + 1
  low : ∀ k, k < f → z0 Z' k = z0 Z k
  mid : ∀ k, f ≤ k → k < f + T.sz → Cg (ps Z' (k + 1)) (ps Z (f + 1) + T.pos ((k : Int) - f) - ((k : Int) - f))
  all : Cg (ps Z' (f + T.sz + 1)) (ps Z (f + 1))

/-- the marker's told -/
def markT (T : Tm) (Z : List Int) (f : Nat) : List Int × Nat × Bool := T.told (fun Z _ _ => (Z ++ [0], true)) (fun Z _ _ _ => Z) mkP Z f

theorem markT_ok (T : Tm) : ∀ (Z : List Int) (f : Nat), Z.length = f + 1 → ∃ Z', markT T Z f = (Z', f + T.sz, true) ∧ Marked T Z Z' f := by
  induction T with
  | nil =>
    intro Z f hl
    exact ⟨Z, rfl, ⟨by simp [Tm.sz, hl], fun _ _ => rfl, fun k h1 h2 => by simp only [Tm.sz] at h2; omega, Cg.refl _⟩⟩
  | one a =>
    intro Z f hl
    refine ⟨Z ++ [0], rfl, ⟨by simp [Tm.sz, hl], fun k hk => z0_app Z 0 k (by omega), fun k h1 h2 => ?_, ?_⟩⟩
    · simp only [Tm.sz] at h2
      obtain rfl : k = f := by omega
      rw [ps_congr (Z := Z) (k + 1) fun j hj => z0_app Z 0 j (by omega)]
      simp only [Tm.pos]
      unfold Cg; omega
    · simp only [Tm.sz, ps]
      rw [show z0 (Z ++ [0]) (f + 1) = 0 by rw [← hl]; exact z0_new Z 0, ps_congr (Z := Z) f fun j hj => z0_app Z 0 j (by omega), z0_app Z 0 f (by omega)]
      unfold Cg; omega
  | seq l r il ir =>
    intro Z f hl
    obtain ⟨Z1, e1, m1⟩ := il Z f hl
    obtain ⟨Z2, e2, m2⟩ := ir Z1 (f + l.sz) m1.len
    unfold markT at e1 e2 ⊢
    refine ⟨Z2, by simp only [Tm.told, e1, both2, e2, Tm.sz]; rw [Nat.add_assoc], ⟨by rw [m2.len]; simp only [Tm.sz]; omega, fun k hk => (m2.low k (by omega)).trans (m1.low k hk), fun k h1 h2 => ?_, ?_⟩⟩
    · simp only [Tm.sz] at h2
      by_cases hk : k < f + l.sz
      · rw [ps_congr (Z := Z1) (k + 1) fun j hj => m2.low j (by omega), Tm.seq_pos_l l r (by omega)]
        exact m1.mid k h1 hk
      · have h3 := m2.mid k (by omega) (by omega)
        have h4 := m1.all
        rw [Tm.seq_pos_r l r (by omega), show (k : Int) - f - l.sz = (k : Int) - ((f + l.sz : Nat) : Int) by omega]
        unfold Cg at *
        generalize r.pos ((k : Int) - ((f + l.sz : Nat) : Int)) = x at *
        omega
    · have h3 := m2.all
      have h4 := m1.all
      simp only [Tm.sz]
      rw [← Nat.add_assoc f]
      unfold Cg at *
      omega
  | par l r il ir =>
    intro Z f hl
    obtain ⟨Z1, e1, m1⟩ := il Z f hl
    obtain ⟨Z2, e2, m2⟩ := ir Z1 (f + l.sz) m1.len
    have hlen2 := m2.len
    have hp := fun K => mkP_ps Z2 f (f + l.sz) (f + l.sz + r.sz) K (by omega) (by omega) (by omega)
    unfold markT at e1 e2 ⊢
    refine ⟨mkP Z2 f (f + l.sz) (f + l.sz + r.sz), by simp only [Tm.told, e1, both2, e2, Tm.sz]; rw [Nat.add_assoc], ⟨by rw [mkP_len, m2.len]; simp only [Tm.sz]; omega, fun k hk => ?_, fun k h1 h2 => ?_, ?_⟩⟩
    · rw [mkP_low _ _ _ _ _ (by omega) (by omega) (by omega) hk]
      exact (m2.low k (by omega)).trans (m1.low k hk)
    · simp only [Tm.sz] at h2
      have h5 := hp (k + 1)
      by_cases hk : k < f + l.sz
      · have h3 := m1.mid k h1 hk
        rw [if_pos (by omega), if_neg (by omega), if_neg (by omega), ps_congr (Z := Z1) (k + 1) fun j hj => m2.low j (by omega)] at h5
        rw [Tm.par_pos_l l r (by omega)]
        unfold Cg at *
        generalize l.pos ((k : Int) - f) = x at *
        omega
      · have h3 := m2.mid k (by omega) (by omega)
        have h4 := m1.all
        rw [if_pos (by omega), if_pos (by omega), if_neg (by omega)] at h5
        rw [Tm.par_pos_r l r (by omega), show (k : Int) - f - l.sz = (k : Int) - ((f + l.sz : Nat) : Int) by omega]
        unfold Cg at *
        generalize r.pos ((k : Int) - ((f + l.sz : Nat) : Int)) = x at *
        omega
    · have h3 := m2.all
      have h4 := m1.all
      have h5 := hp (f + l.sz + r.sz + 1)
      rw [if_pos (by omega), if_pos (by omega), if_pos (by omega)] at h5
      simp only [Tm.sz]
      rw [← Nat.add_assoc f]
      unfold Cg at *
      omega

/-- the place of leaf k, out of the shifts -/
theorem mark_pos (T : Tm) (Z' : List Int) (h : Marked T [0] Z' 0) (k : Nat) (hk : k < T.sz) (hs : T.sz ≤ 1048576) (x : Int) (hx : Cg x (ps Z' (k + 1))) : IntKind.i64.wrap ((k : Int) + x) = T.pos k := by
  have h1 := h.mid k (Nat.zero_le _) (by omega)
  have h2 := T.pos_lt k (by omega) (by omega)
  refine cg_exact ?_ h2.1 (by omega)
  rw [show (k : Int) - ((0 : Nat) : Int) = k by omega] at h1
  have h3 : ps [0] (0 + 1) = 0 := rfl
  rw [h3] at h1
  unfold Cg at *
  omega
end Go.Proofs.YtidgibkiacbgfaaDoor

namespace Go.Proofs.YtidgibkiacbgfaaDoor
open Go.RowKit
set_option maxRecDepth 100000

theorem byteOf0 {C : Nat} {w : World} {T : TypeId} {cs : Array Value} {fr : Nat × Nat} (h : w.heap[C]? = some (.cells cs T fr)) (hc : Tryd.prog.cellsOf T ≠ 0) (hb : byteOfCell Tryd.prog Tryd.prog.depth T 0 = some 0) :
    (byteOf ⟨C, 0, none⟩).run Tryd.prog w = .ok 0 w := by
  have hs : w.shape? C = some (T, cs.size) := by simp [World.shape?, h]
  simp [byteOf, go_sem, hs, hc, hb, noView, viewAt]

theorem isAgg_patient (w : World) : (isAgg 59).run Tryd.prog w = .ok true w := by rfl
theorem sizeOf_patient (w : World) : (Go.sizeOf 59).run Tryd.prog w = .ok 0 w := by rfl
theorem under_patient (w : World) : (underlying 59).run Tryd.prog w = .ok (.struct #[]) w := by rfl

theorem meth_emb {C : Nat} {w : World} {T tp : TypeId} {F : FuncId} {nm : String} {sg : TypeId} {cs : Array Value} {fr : Nat × Nat} {fs : Array Field} {f : Field} (h : w.heap[C]? = some (.cells cs T fr)) (hc : Tryd.prog.cellsOf T ≠ 0)
    (hb : byteOfCell Tryd.prog Tryd.prog.depth T 0 = some 0)
    (hi : (Tryd.prog.info? tp).map (fun i => i.methods.find? (fun x => x.name == nm)) = some (some ⟨nm, sg, #[⟨T, 0, true⟩], some (F, false)⟩))
    (hu : Tryd.prog.underlying T = some (.struct fs)) (hf : fs[0]? = some f) (h1 : f.type = 59) (h2 : f.offset = 0) (h3 : f.byteOffset = 0) (k : Nat) :
    (method (k + 8) tp (.pointer (some ⟨C, 0, none⟩)) nm).run Tryd.prog w = .ok (F, .agg #[]) w := by
  obtain ⟨i, hi1, hi2⟩ := Option.map_eq_some_iff.1 hi
  have hb0 := byteOf0 h hc hb
  unfold method
  simp [typeInfo, go_sem, hi1, hi2, follow, fieldPlace, Place.get, asAddr, partAt, hb0, receiverAt, run_underlying hu, hf, h1, h2, h3, loadCellsFrom]
end Go.Proofs.YtidgibkiacbgfaaDoor

namespace Go.Proofs.YtidgibkiacbgfaaDoor
open Go.RowKit
set_option maxRecDepth 100000

/-- the cells of a list of accesses -/
def accs (xs : List Acc) : List Value := xs.flatMap fun a => [.int .i64 a.1, .bool a.2.1, .int .i64 a.2.2]
theorem accs_snoc (xs : List Acc) (a : Acc) : accs (xs ++ [a]) = accs xs ++ [.int .i64 a.1, .bool a.2.1, .int .i64 a.2.2] := by simp [accs]

theorem patient_series (x m t : Int) (w : World) :
    Calls Tryd.prog 79 #[.agg #[], .int .i64 x, .int .i64 m, .int .i64 t] w fun e w' => e = .returned (.tuple #[]) ∧ w' = w.alloc (.cells #[] 59) := by
  go_enter Tryd.func79, Tryd.ntmps79
  go_wp2_with fail
  go_end0
  exact ⟨rfl, rfl⟩
theorem patient_parallel (x m t : Int) (w : World) :
    Calls Tryd.prog 78 #[.agg #[], .int .i64 x, .int .i64 m, .int .i64 t] w fun e w' => e = .returned (.tuple #[]) ∧ w' = w.alloc (.cells #[] 59) := by
  go_enter Tryd.func78, Tryd.ntmps78
  go_wp2_with fail
  go_end0
  exact ⟨rfl, rfl⟩

theorem Tryd.infoAcc : (Tryd.prog.info? 23).map (fun i => (i.zero, i.size, i.bytes)) = some (some (.agg #[.int .i64 0, .bool false, .int .i64 0]), 3, 24) := by kernel_rfl

/-- the collector's state -/
def CollI (C : Nat) (w : World) (xs : List Acc) (n : Nat) : Prop :=
  ∃ v, Boxed w C 80 v ∧ w.ownsRow (C + 1) 23 3 v xs.length (accs xs) ∧ xs.length ≤ n

/-- one is appended to the row that lies in the box -/
theorem coll_step {C size k m : Nat} {T E : TypeId} {xs ys : List Value} {W w1 : World} {v v' : Value} {tmp : Obj} (hv : Boxed W C T v) (hTE : T ≠ E) (hrow : W.ownsRow (C + 1) E size v k xs)
    (hown' : w1.ownsRow (C + 1) E size v' m ys) (hgrow : (W.alloc tmp).drew.grownBy w1 v.ownBlock) :
    Boxed (w1.setCell ⟨C, 0, none⟩ v') C T v' ∧ (w1.setCell ⟨C, 0, none⟩ v').ownsRow (C + 1) E size v' m ys ∧ Below C W (w1.setCell ⟨C, 0, none⟩ v') := by
  have hv0 : Boxed (W.alloc tmp).drew C T v := hv.alloc tmp
  have hv1 : Boxed w1 C T v := hv0.kept hgrow (hv.not_row hTE hrow)
  refine ⟨hv1.set v', hown'.kept (grownBy_setCell' w1 C v') (.inr (hv1.not_row hTE hown').symm), ?_⟩
  have hlt := hv.lt
  exact ((((Below.refl C W).alloc (by omega) tmp).drew).grown hgrow (by simp; omega) fun j ej => by have := (hrow.lt j ej).1; omega).setCell (p := ⟨C, 0, none⟩) (Nat.le_refl _) v'

theorem coll_leaf (C n : Nat) (a : Acc) (xs : List Acc) (w : World) (h : CollI C w xs n) (hn : n < 1048576) :
    Calls Tryd.prog 85 #[.pointer (some ⟨C, 0, none⟩), .int .i64 n, accV a] w fun e w' => e = .returned (.bool true) ∧ CollI C w' (xs ++ [a]) (n + 1) ∧ Below C w w' := by
  obtain ⟨v, hv, hown, hle⟩ := h
  obtain ⟨c, x, l⟩ := a
  dsimp only [accV]
  obtain ⟨i0, hi, hii⟩ := Option.map_eq_some_iff.1 Tryd.infoAcc
  simp only [Prod.mk.injEq] at hii
  obtain ⟨hz0, hz1, hz2⟩ := hii
  go_enter Tryd.func85, Tryd.ntmps85
  go_wp2_with fail
  have hv1 := hv.alloc (.cells #[.int .i64 c, .bool x, .int .i64 l] 23)
  have hown1 := hown.alloc (.cells #[.int .i64 c, .bool x, .int .i64 l] 23)
  have hA := World.alloc_heap_new w (.cells #[.int .i64 c, .bool x, .int .i64 l] 23)
  have hb1 : Below C w (w.alloc (.cells #[.int .i64 c, .bool x, .int .i64 l] 23)) := (Below.refl C w).alloc (Nat.le_of_lt hv.lt) _
  obtain ⟨w1, hw1⟩ : ∃ w1, w1 = w.alloc (.cells #[.int .i64 c, .bool x, .int .i64 l] 23) := ⟨_, rfl⟩
  obtain ⟨B, hB⟩ : ∃ B, B = w.heap.size := ⟨_, rfl⟩
  rw [← hw1] at hv1 hown1 hA hb1 ⊢
  rw [← hB] at hA ⊢
  have a0 : w1.cell? ⟨B, 0, none⟩ = some (.int .i64 c) := by simp [World.cell?, hA]
  have a1 : w1.cell? ⟨B, 1, none⟩ = some (.bool x) := by simp [World.cell?, hA]
  have a2 : w1.cell? ⟨B, 2, none⟩ = some (.int .i64 l) := by simp [World.cell?, hA]
  have hc1 := hv1.cell
  have hlt := hv1.lt
  obtain ⟨L, hL⟩ : ∃ L, L = xs.length := ⟨_, rfl⟩
  rw [← hL] at hown1 hle
  have hin1 : L + 1 ≤ maxLen := by unfold maxLen; omega
  have hin2 : (L + 1) * 24 ≤ 140737488355328 := by omega
  have hfin : ∀ gg cap w4, w4.ownsRow (C + 1) 23 3 (.slice (some ⟨gg, 0, none⟩) (L + 1) cap) (L + 1) (accs xs ++ [.int .i64 c, .bool x, .int .i64 l]) →
      (w1.alloc (.cells #[.int .i64 c, .bool x, .int .i64 l] 23)).drew.grownBy w4 v.ownBlock →
      CollI C (w4.setCell ⟨C, 0, none⟩ (.slice (some ⟨gg, 0, none⟩) (L + 1) cap)) (xs ++ [(c, x, l)]) (n + 1) ∧ Below C w (w4.setCell ⟨C, 0, none⟩ (.slice (some ⟨gg, 0, none⟩) (L + 1) cap)) := fun gg cap w4 h1 h2 => by
    obtain ⟨p1, p2, p3⟩ := coll_step hv1 (by decide) hown1 h1 h2
    refine ⟨⟨_, p1, ?_, by simp; omega⟩, hb1.trans p3⟩
    rw [accs_snoc, List.length_append, List.length_singleton, ← hL]
    exact p2
  have HF := Lib.hid hfin
  have hne := hv1.not_row (by decide) hown1
  have hff := hv1.frozen
  clear hw1 hB hL hv hown hb1 hA hfin
  go_region_law
    ((refine step_append_lies _ (by rfl) _ _ _ (by rfl) (C + 1) 23 i0 _ 3 24 Tryd.underlying46 hi hz0 hz1 hz2 rfl (by omega) v L (accs xs) (by rfl) ((hown1.alloc _).drew)
        ⟨w1.heap.size, 0, none⟩ 1 1 [.int .i64 c, .bool x, .int .i64 l] (by rfl) (by rfl) (World.news_of_block (cs := #[.int .i64 c, .bool x, .int .i64 l]) (t := 23) (fr := (0, 0)) (World.alloc_heap_new w1 _)) (by simp [Value.oneCell'])
        (by omega) hin1 hin2 (by simp; omega) (w1.heap.size + 1) (by simp) ?_; intro gg cap w4 hown4 hgrow hat hlt'; have hc4 : w4.cell? ⟨C, 0, none⟩ = some v := (((show Boxed (w1.alloc (.cells #[.int .i64 c, .bool x, .int .i64 l] 23)).drew C 80 v from hv1.alloc _)).kept hgrow hne).cell; have hf4 : w4.frozen? ⟨C, 0, none⟩ = false := (((show Boxed (w1.alloc (.cells #[.int .i64 c, .bool x, .int .i64 l] 23)).drew C 80 v from hv1.alloc _)).kept hgrow hne).frozen; have hfin4 := Lib.hid (HF.out gg cap w4 hown4 hgrow)))
  all_goals
    go_wp2_with fail
    go_ret
    exact ⟨rfl, hfin4.out⟩
end Go.Proofs.YtidgibkiacbgfaaDoor

namespace Go.Proofs.YtidgibkiacbgfaaDoor
open Go.RowKit
set_option maxRecDepth 100000

/-- block C is a reader's box -/
def BoxT (C : Nat) (T : TypeId) (w : World) : Prop := ∃ cs, w.heap[C]? = some (.cells cs T (0, 0))

theorem Meth.direct {C : Nat} {T tp : TypeId} {nm : String} {F : FuncId} (h1 : ∀ k w, (nilAhead (k + 8) tp (.pointer (some ⟨C, 0, none⟩)) nm).run Tryd.prog w = .ok (some false) w)
    (h2 : ∀ k w, (method (k + 8) tp (.pointer (some ⟨C, 0, none⟩)) nm).run Tryd.prog w = .ok (F, .pointer (some ⟨C, 0, none⟩)) w) (h3 : ∀ args w, (callFunc F args).run Tryd.prog w = .ok (.enter F args) w) :
    Meth Tryd.prog (BoxT C T) tp (.pointer (some ⟨C, 0, none⟩)) nm F (.pointer (some ⟨C, 0, none⟩)) := ⟨h1, fun k w _ => h2 k w, h3⟩

theorem Meth.emb {C : Nat} {T tp : TypeId} {F : FuncId} {nm : String} {sg : TypeId} {fs : Array Field} {f : Field} (hc : Tryd.prog.cellsOf T ≠ 0)
    (hb : byteOfCell Tryd.prog Tryd.prog.depth T 0 = some 0)
    (hi : (Tryd.prog.info? tp).map (fun i => i.methods.find? (fun x => x.name == nm)) = some (some ⟨nm, sg, #[⟨T, 0, true⟩], some (F, false)⟩))
    (hu : Tryd.prog.underlying T = some (.struct fs)) (hf : fs[0]? = some f) (h1 : f.type = 59) (h2 : f.offset = 0) (h3 : f.byteOffset = 0)
    (hna : ∀ k w, (nilAhead (k + 8) tp (.pointer (some ⟨C, 0, none⟩)) nm).run Tryd.prog w = .ok (some false) w) (hen : ∀ args w, (callFunc F args).run Tryd.prog w = .ok (.enter F args) w) :
    Meth Tryd.prog (BoxT C T) tp (.pointer (some ⟨C, 0, none⟩)) nm F (.agg #[]) :=
  ⟨hna, fun k _ ⟨_, h⟩ => meth_emb h hc hb hi hu hf h1 h2 h3 k, hen⟩

theorem CollI.alloc {C n : Nat} {w : World} {xs : List Acc} (h : CollI C w xs n) (o : Obj) : CollI C (w.alloc o) xs n := by
  obtain ⟨v, h1, h2, h3⟩ := h
  exact ⟨v, h1.alloc o, h2.alloc o, h3⟩
theorem CollI.lt {C n : Nat} {w : World} {xs : List Acc} (h : CollI C w xs n) : C < w.heap.size := by
  obtain ⟨v, h1, _⟩ := h
  exact h1.lt

theorem collR (C : Nat) : Rdr (BoxT C 80) (CollI C) C 81 (.pointer (some ⟨C, 0, none⟩)) (fun s _ a => (s ++ [a], true)) (fun s _ _ _ => s) (fun s _ _ _ => s) where
  drew := fun w s n h => h
  there := fun w s n ⟨v, h, _⟩ => ⟨_, h⟩
  leaf := ⟨85, .pointer (some ⟨C, 0, none⟩), Meth.direct (fun _ _ => by kernel_rfl) (fun _ _ => by kernel_rfl) (fun _ _ => by kernel_rfl), fun w s n a h hn => coll_leaf C n a s w h hn⟩
  ser := ⟨79, .agg #[], Meth.emb (sg := 92) (by decide +kernel) (by kernel_rfl) (by kernel_rfl) Tryd.underlying80 rfl rfl rfl rfl (fun _ _ => by kernel_rfl) (fun _ _ => by kernel_rfl),
    fun w s x m t h _ _ _ => (patient_series x m t w).mono fun e w' ⟨h1, h2⟩ => ⟨h1, h2 ▸ h.alloc _, h2 ▸ (Below.refl C w).alloc (Nat.le_of_lt h.lt) _⟩⟩
  par := ⟨78, .agg #[], Meth.emb (sg := 92) (by decide +kernel) (by kernel_rfl) (by kernel_rfl) Tryd.underlying80 rfl rfl rfl rfl (fun _ _ => by kernel_rfl) (fun _ _ => by kernel_rfl),
    fun w s x m t h _ _ _ => (patient_parallel x m t w).mono fun e w' ⟨h1, h2⟩ => ⟨h1, h2 ▸ h.alloc _, h2 ▸ (Below.refl C w).alloc (Nat.le_of_lt h.lt) _⟩⟩

theorem told_coll (T : Tm) : ∀ (s : List Acc) (n : Nat), T.told (fun (s : List Acc) _ a => (s ++ [a], true)) (fun s _ _ _ => s) (fun s _ _ _ => s) s n = (s ++ T.lv, n + T.sz, true) := by
  induction T with
  | nil => intro s n; simp [Tm.told, Tm.lv, Tm.sz]
  | one a => intro s n; simp [Tm.told, Tm.lv, Tm.sz]
  | seq l r il ir => intro s n; simp only [Tm.told, il, both2, ir, Tm.lv, Tm.sz, List.append_assoc, Nat.add_assoc]
  | par l r il ir => intro s n; simp only [Tm.told, il, both2, ir, Tm.lv, Tm.sz, List.append_assoc, Nat.add_assoc]

theorem leaves_any (T : Tm) (h : Hd) (w : World) (hT : TIn w w.heap.size T h) (hs : T.sz ≤ 1048576) :
    Calls Tryd.prog 16 #[.agg h.cells] w fun e w' => ∃ v, e = .returned v ∧ w'.ownsRow w.heap.size 23 3 v T.lv.length (accs T.lv) ∧ Below w.heap.size w w' := by
  obtain ⟨B, hB⟩ : ∃ B, B = w.heap.size := ⟨_, rfl⟩
  have key : ∃ w1, w1 = (w.alloc (.cells h.cells 26)).alloc (.cells #[.slice none 0 0] 80) ∧ Below B w w1 ∧ TB 26 w1 B h ∧ CollI (B + 1) w1 [] 0 := by
    subst hB
    refine ⟨_, rfl, ((Below.refl _ _).alloc (Nat.le_refl _) _).alloc (by simp) _, (TB.new _ _ _).alloc _, ⟨.slice none 0 0, ?_, World.ownsRow_nil _ _ _ _, Nat.le_refl _⟩⟩
    have := Boxed.new (w.alloc (.cells h.cells 26)) 80 (.slice none 0 0)
    rwa [World.size_alloc] at this
  obtain ⟨w1, hw1, hb1, ht1, hI1⟩ := key
  have hT1 : TIn w1 (B + 1) T h := (hT.below (hB ▸ hb1) (Nat.le_refl _)).more (by omega)
  have hc := read_any (collR (B + 1)) T w1 B 0 h [] 0 ht1.at (by omega) hT1 hI1 (by omega)
  rw [told_coll] at hc
  dsimp only at hc
  have HC : Hid (Calls Tryd.prog 20 #[.pointer (some ⟨B, 0, none⟩), .int .i64 0, .iface 81 (.pointer (some ⟨B + 1, 0, none⟩))] w1 _) := Lib.hid hc
  obtain ⟨k, c, x, l, A, m, cap⟩ := h
  dsimp only [Hd.cells] at hw1 ⊢
  clear hc hT1 hT ht1 hI1
  subst hB
  go_enter Tryd.func16, Tryd.ntmps16
  go_wp2_with (first
    | (rw [← hw1]; refine HC.out.mono ?_; rintro e w2 ⟨rfl, ⟨v, hv, hown, _⟩, hb2⟩; have hc2 := hv.cell)
    | fail)
  go_ret
  rw [List.nil_append] at hown
  refine ⟨_, rfl, ⟨hown.1, ?_⟩, hb1.trans (hb2.mono (by omega))⟩
  rcases hown.2 with h0 | ⟨g, cap', cur, h1, h2, h3⟩
  · exact .inl h0
  · exact .inr ⟨g, cap', cur, h1, by omega, h3⟩
end Go.Proofs.YtidgibkiacbgfaaDoor
