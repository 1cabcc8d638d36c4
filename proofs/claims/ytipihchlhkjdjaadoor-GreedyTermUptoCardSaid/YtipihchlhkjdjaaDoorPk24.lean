/-
  Contract of the reference's DLeaves.
  The marker's shifts: their sums tell the second numbering. Plain mathematics.
  Contracts of the marker's methods.
  Contract of sp.Marks.
-/
import Derived.Test.YtipihchlhkjdjaaDoorPk23
import Derived.Test.YtipihchlhkjdjaaDoorPk21
import Derived.OwnWalk
namespace Go.Proofs.YtipihchlhkjdjaaDoor
open Go.RowKit
set_option maxRecDepth 100000

theorem accs_app (xs ys : List Acc) : accs (xs ++ ys) = accs xs ++ accs ys := by simp [accs]
theorem accs_len (xs : List Acc) : (accs xs).length = xs.length * 3 := by
  induction xs with
  | nil => rfl
  | cons a l ih => simp only [accs, List.flatMap_cons, List.length_append, List.length_cons, List.length_nil] at ih ⊢; omega
theorem accs_one (xs : List Acc) : ∀ u ∈ accs xs, u.oneCell' = true := by
  intro u hu
  simp only [accs, List.mem_flatMap] at hu
  obtain ⟨a, _, ha⟩ := hu
  simp at ha
  rcases ha with rfl | rfl | rfl <;> rfl

/-- the two boxes of a term's kids -/
theorem two_boxes {w : World} {T : TypeId} {a b : Hd} : TB T ((w.alloc (.cells a.cells T)).alloc (.cells b.cells T)) w.heap.size a ∧ TB T ((w.alloc (.cells a.cells T)).alloc (.cells b.cells T)) (w.heap.size + 1) b := by
  refine ⟨(TB.new _ _ _).alloc _, ?_⟩
  have := TB.new (w.alloc (.cells a.cells T)) T b
  rwa [World.size_alloc] at this

/-- a row that is laid whole -/
theorem own_row1 {w : World} {base size n : Nat} {e : TypeId} {cs : Array Value} {B : Nat} (o : Obj) (ho : o = .cells cs e) (hb : base ≤ w.heap.size) (hc : B = w.heap.size ∧ cs.size = n * size ∧ n ≤ maxLen) :
    (w.alloc o).ownsRow base e size (.slice (some ⟨B, 0, none⟩) n n) n cs.toList := by
  obtain ⟨rfl, hc, hm⟩ := hc
  subst ho
  exact ⟨by simpa using hc, .inr ⟨_, _, cs, rfl, hb, World.alloc_heap_new w _, Nat.le_refl _, hm, hc, by rw [List.take_of_length_le (by simp; omega)]⟩⟩

theorem Tryd.infoAccP : ∃ i0, Tryd.prog.info? 48 = some i0 ∧ i0.zero = some (.agg #[.int .i64 0, .bool false, .int .i64 0]) ∧ i0.size = 3 ∧ i0.bytes = 24 := by
  obtain ⟨i0, hi, hii⟩ := Option.map_eq_some_iff.1 Tryd.infoAcc
  simp only [Prod.mk.injEq] at hii
  exact ⟨i0, hi, hii⟩

/-- what is held while the two kids are asked -/
@[reducible] def S3 (w3 : World) (D Ba Bb : Nat) (ha hb : Hd) (W : World) : Prop :=
  Below D w3 W ∧ D ≤ W.heap.size ∧
  W.cell? ⟨Ba, 0, none⟩ = some (.int .i64 ha.k) ∧ W.cell? ⟨Ba, 1, none⟩ = some (.int .i64 ha.c) ∧ W.cell? ⟨Ba, 2, none⟩ = some (.bool ha.x) ∧ W.cell? ⟨Ba, 3, none⟩ = some (.int .i64 ha.l) ∧ W.cell? ⟨Ba, 4, none⟩ = some (.slice ha.A ha.n ha.cap) ∧
  W.cell? ⟨Bb, 0, none⟩ = some (.int .i64 hb.k) ∧ W.cell? ⟨Bb, 1, none⟩ = some (.int .i64 hb.c) ∧ W.cell? ⟨Bb, 2, none⟩ = some (.bool hb.x) ∧ W.cell? ⟨Bb, 3, none⟩ = some (.int .i64 hb.l) ∧ W.cell? ⟨Bb, 4, none⟩ = some (.slice hb.A hb.n hb.cap)
theorem S3.mk {w3 W : World} {D Ba Bb : Nat} {ha hb : Hd} {T : TypeId} (ta : TB T w3 Ba ha) (tb : TB T w3 Bb hb) (hD : D = w3.heap.size) (h : Below D w3 W) : S3 w3 D Ba Bb ha hb W := by
  have la : Ba < D := hD ▸ ta.lt
  have lb : Bb < D := hD ▸ tb.lt
  exact ⟨h, hD ▸ h.size, (h.cell (p := ⟨Ba, 0, none⟩) la).trans ta.c0, (h.cell (p := ⟨Ba, 1, none⟩) la).trans ta.c1, (h.cell (p := ⟨Ba, 2, none⟩) la).trans ta.c2, (h.cell (p := ⟨Ba, 3, none⟩) la).trans ta.c3, (h.cell (p := ⟨Ba, 4, none⟩) la).trans ta.c4,
    (h.cell (p := ⟨Bb, 0, none⟩) lb).trans tb.c0, (h.cell (p := ⟨Bb, 1, none⟩) lb).trans tb.c1, (h.cell (p := ⟨Bb, 2, none⟩) lb).trans tb.c2, (h.cell (p := ⟨Bb, 3, none⟩) lb).trans tb.c3, (h.cell (p := ⟨Bb, 4, none⟩) lb).trans tb.c4⟩

end Go.Proofs.YtipihchlhkjdjaaDoor

namespace Go.Proofs.YtipihchlhkjdjaaDoor
open Go.RowKit

def z0 (Z : List Int) (k : Nat) : Int := Z.getD k 0
/-- the sum of the first k -/
def ps (Z : List Int) : Nat → Int
  | 0 => 0
  | k + 1 => ps Z k + z0 Z k
theorem z0_set (Z : List Int) (i k : Nat) (v : Int) (hi : i < Z.length) : z0 (Z.set i v) k = if k = i then v else z0 Z k := by
  unfold z0
  simp only [List.getD, List.getElem?_set]
  split
  · rename_i h; subst h; simp
  · rename_i h
    rw [if_neg (fun e => h e.symm)]
theorem z0_app (Z : List Int) (v : Int) (k : Nat) (hk : k < Z.length) : z0 (Z ++ [v]) k = z0 Z k := by
  unfold z0
  simp [List.getD, List.getElem?_append_left hk]
theorem z0_new (Z : List Int) (v : Int) : z0 (Z ++ [v]) Z.length = v := by simp [z0, List.getD]
theorem ps_congr {Z Z' : List Int} (K : Nat) (h : ∀ k, k < K → z0 Z' k = z0 Z k) : ps Z' K = ps Z K := by
  induction K with
  | zero => rfl
  | succ K ih => simp only [ps]; rw [ih fun k hk => h k (by omega), h K (by omega)]
theorem ps_set (Z : List Int) (i : Nat) (v : Int) (hi : i < Z.length) (K : Nat) : ps (Z.set i v) K = ps Z K + if i < K then v - z0 Z i else 0 := by
  induction K with
  | zero => simp [ps]
  | succ K ih =>
    simp only [ps, ih, z0_set _ _ _ _ hi]
    by_cases h1 : i < K
    · rw [if_pos h1, if_neg (by omega), if_pos (by omega)]; omega
    · by_cases h2 : K = i
      · subst h2; rw [if_neg h1, if_pos rfl, if_pos (by omega)]; omega
      · rw [if_neg h1, if_neg h2, if_neg (by omega)]; omega

/-- equal but for multiples of 2^64 -/
def Cg (a b : Int) : Prop := (a - b) % 18446744073709551616 = 0
theorem Cg.refl (a : Int) : Cg a a := by simp [Cg]
theorem cg_wrap (a : Int) : Cg (IntKind.i64.wrap a) a := by
  rw [IntKind.wrap_i64]
  unfold Cg
  omega
theorem cg_exact {a b : Int} (h : Cg a b) (h0 : 0 ≤ b) (h1 : b < 9223372036854775808) : IntKind.i64.wrap a = b := by
  rw [IntKind.wrap_i64]
  unfold Cg at h
  omega

/-- what a parallel tells the marker -/
def mkP (Z : List Int) (f m t : Nat) : List Int :=
  let Z1 := Z.set f (IntKind.i64.wrap (z0 Z f + ((t : Int) - m)))
  let Z2 := Z1.set m (IntKind.i64.wrap (z0 Z1 m - ((t : Int) - f)))
  Z2.set t (IntKind.i64.wrap (z0 Z2 t + ((m : Int) - f)))
theorem mkP_len (Z : List Int) (f m t : Nat) : (mkP Z f m t).length = Z.length := by simp [mkP]

theorem mkP_low (Z : List Int) (f m t k : Nat) (hf : f ≤ m) (hm : m ≤ t) (ht : t < Z.length) (hk : k < f) : z0 (mkP Z f m t) k = z0 Z k := by
  unfold mkP
  dsimp only
  rw [z0_set _ _ _ _ (by simp; omega), if_neg (by omega), z0_set _ _ _ _ (by simp; omega), if_neg (by omega), z0_set _ _ _ _ (by omega), if_neg (by omega)]
theorem mkP_ps (Z : List Int) (f m t K : Nat) (hf : f ≤ m) (hm : m ≤ t) (ht : t < Z.length) :
    Cg (ps (mkP Z f m t) K) (ps Z K + (if f < K then (t : Int) - m else 0) - (if m < K then (t : Int) - f else 0) + (if t < K then (m : Int) - f else 0)) := by
  unfold mkP
  dsimp only
  rw [ps_set _ _ _ (by simp; omega), ps_set _ _ _ (by simp; omega), ps_set _ _ _ (by omega)]
  have h1 := cg_wrap (z0 Z f + ((t : Int) - m))
  generalize IntKind.i64.wrap (z0 Z f + ((t : Int) - m)) = w1 at *
  have h2 := cg_wrap (z0 (Z.set f w1) m - ((t : Int) - f))
  generalize IntKind.i64.wrap (z0 (Z.set f w1) m - ((t : Int) - f)) = w2 at *
  have h3 := cg_wrap (z0 ((Z.set f w1).set m w2) t + ((m : Int) - f))
  generalize IntKind.i64.wrap (z0 ((Z.set f w1).set m w2) t + ((m : Int) - f)) = w3 at *
  unfold Cg at *
  generalize z0 ((Z.set f w1).set m w2) t = x3 at *
  generalize z0 (Z.set f w1) m = x2 at *
  split <;> split <;> split <;> omega

/-- what the marker holds behind a term: below it all is as it was -/
structure Marked (T : Tm) (Z Z' : List Int) (f : Nat) : Prop where
  len : Z'.length = f + T.sz + 1
  low : ∀ k, k < f → z0 Z' k = z0 Z k
  mid : ∀ k, f ≤ k → k < f + T.sz → Cg (ps Z' (k + 1)) (ps Z (f + 1) + T.pos ((k : Int) - f) - ((k : Int) - f))
  all : Cg (ps Z' (f + T.sz + 1)) (ps Z (f + 1))

/-- the marker's told -/
def markT (T : Tm) (Z : List Int) (f : Nat) : List Int × Nat × Bool := T.told (fun Z _ _ => (Z ++ [0], true)) (fun Z _ _ _ => Z) mkP Z f

theorem markT_ok (T : Tm) : ∀ (Z : List Int) (f : Nat), Z.length = f + 1 → ∃ Z', markT T Z f = (Z', f + T.sz, true) ∧ Marked T Z Z' f := by
  induction T with
  | nil =>
    intro Z f hl
    exact ⟨Z, rfl, ⟨by simp [Tm.sz, hl], fun _ _ => rfl, fun k h1 h2 => by simp only [Tm.sz] at h2; omega, Cg.refl _⟩⟩
  | one a =>
    intro Z f hl
    refine ⟨Z ++ [0], rfl, ⟨by simp [Tm.sz, hl], fun k hk => z0_app Z 0 k (by omega), fun k h1 h2 => ?_, ?_⟩⟩
    · simp only [Tm.sz] at h2
      obtain rfl : k = f := by omega
      rw [ps_congr (Z := Z) (k + 1) fun j hj => z0_app Z 0 j (by omega)]
      simp only [Tm.pos]
      unfold Cg; omega
    · simp only [Tm.sz, ps]
      rw [show z0 (Z ++ [0]) (f + 1) = 0 by rw [← hl]; exact z0_new Z 0, ps_congr (Z := Z) f fun j hj => z0_app Z 0 j (by omega), z0_app Z 0 f (by omega)]
      unfold Cg; omega
  | seq l r il ir =>
    intro Z f hl
    obtain ⟨Z1, e1, m1⟩ := il Z f hl
    obtain ⟨Z2, e2, m2⟩ := ir Z1 (f + l.sz) m1.len
    unfold markT at e1 e2 ⊢
    refine ⟨Z2, by simp only [Tm.told, e1, both2, e2, Tm.sz]; rw [Nat.add_assoc], ⟨by rw [m2.len]; simp only [Tm.sz]; omega, fun k hk => (m2.low k (by omega)).trans (m1.low k hk), fun k h1 h2 => ?_, ?_⟩⟩
    · simp only [Tm.sz] at h2
      by_cases hk : k < f + l.sz
      · rw [ps_congr (Z := Z1) (k + 1) fun j hj => m2.low j (by omega), Tm.seq_pos_l l r (by omega)]
        exact m1.mid k h1 hk
      · have h3 := m2.mid k (by omega) (by omega)
        have h4 := m1.all
        rw [Tm.seq_pos_r l r (by omega), show (k : Int) - f - l.sz = (k : Int) - ((f + l.sz : Nat) : Int) by omega]
        unfold Cg at *
        generalize r.pos ((k : Int) - ((f + l.sz : Nat) : Int)) = x at *
        omega
    · have h3 := m2.all
      have h4 := m1.all
      simp only [Tm.sz]
      rw [← Nat.add_assoc f]
      unfold Cg at *
      omega
  | par l r il ir =>
    intro Z f hl
    obtain ⟨Z1, e1, m1⟩ := il Z f hl
    obtain ⟨Z2, e2, m2⟩ := ir Z1 (f + l.sz) m1.len
    have hlen2 := m2.len
    have hp := fun K => mkP_ps Z2 f (f + l.sz) (f + l.sz + r.sz) K (by omega) (by omega) (by omega)
    unfold markT at e1 e2 ⊢
    refine ⟨mkP Z2 f (f + l.sz) (f + l.sz + r.sz), by simp only [Tm.told, e1, both2, e2, Tm.sz]; rw [Nat.add_assoc], ⟨by rw [mkP_len, m2.len]; simp only [Tm.sz]; omega, fun k hk => ?_, fun k h1 h2 => ?_, ?_⟩⟩
    · rw [mkP_low _ _ _ _ _ (by omega) (by omega) (by omega) hk]
      exact (m2.low k (by omega)).trans (m1.low k hk)
    · simp only [Tm.sz] at h2
      have h5 := hp (k + 1)
      by_cases hk : k < f + l.sz
      · have h3 := m1.mid k h1 hk
        rw [if_pos (by omega), if_neg (by omega), if_neg (by omega), ps_congr (Z := Z1) (k + 1) fun j hj => m2.low j (by omega)] at h5
        rw [Tm.par_pos_l l r (by omega)]
        unfold Cg at *
        generalize l.pos ((k : Int) - f) = x at *
        omega
      · have h3 := m2.mid k (by omega) (by omega)
        have h4 := m1.all
        rw [if_pos (by omega), if_pos (by omega), if_neg (by omega)] at h5
        rw [Tm.par_pos_r l r (by omega), show (k : Int) - f - l.sz = (k : Int) - ((f + l.sz : Nat) : Int) by omega]
        unfold Cg at *
        generalize r.pos ((k : Int) - ((f + l.sz : Nat) : Int)) = x at *
        omega
    · have h3 := m2.all
      have h4 := m1.all
      have h5 := hp (f + l.sz + r.sz + 1)
      rw [if_pos (by omega), if_pos (by omega), if_pos (by omega)] at h5
      simp only [Tm.sz]
      rw [← Nat.add_assoc f]
      unfold Cg at *
      omega

/-- the place of leaf k, out of the shifts -/
theorem mark_pos (T : Tm) (Z' : List Int) (h : Marked T [0] Z' 0) (k : Nat) (hk : k < T.sz) (hs : T.sz ≤ 1048576) (x : Int) (hx : Cg x (ps Z' (k + 1))) : IntKind.i64.wrap ((k : Int) + x) = T.pos k := by
  have h1 := h.mid k (Nat.zero_le _) (by omega)
  have h2 := T.pos_lt k (by omega) (by omega)
  refine cg_exact ?_ h2.1 (by omega)
  rw [show (k : Int) - ((0 : Nat) : Int) = k by omega] at h1
  have h3 : ps [0] (0 + 1) = 0 := rfl
  rw [h3] at h1
  unfold Cg at *
  omega
end Go.Proofs.YtipihchlhkjdjaaDoor

namespace Go.Proofs.YtipihchlhkjdjaaDoor
open Go.RowKit
set_option maxRecDepth 100000

def zVals (Z : List Int) : List Value := Z.map fun z => .int .i64 z
theorem zVals_at (Z : List Int) (k : Nat) (hk : k < Z.length) : (zVals Z)[k]? = some (.int .i64 (z0 Z k)) := by
  unfold zVals z0
  simp [hk, List.getD]
theorem zVals_set (Z : List Int) (k : Nat) (v : Int) : (zVals Z).set k (.int .i64 v) = zVals (Z.set k v) := by
  unfold zVals
  rw [List.map_set]
theorem zVals_snoc (Z : List Int) (v : Int) : zVals (Z ++ [v]) = zVals Z ++ [.int .i64 v] := by simp [zVals]
theorem zVals_len (Z : List Int) : (zVals Z).length = Z.length := by simp [zVals]

/-- a store into a row of its own -/
theorem own_set {w : World} {base size n g cap j : Nat} {e : TypeId} {xs : List Value} (h : w.ownsRow base e size (.slice (some ⟨g, 0, none⟩) n cap) n xs) (u : Value) :
    (w.setCell ⟨g, j, none⟩ u).ownsRow base e size (.slice (some ⟨g, 0, none⟩) n cap) n (xs.set j u) := by
  rcases h.2 with ⟨h1, _⟩ | ⟨g', cap', cur, h1, h2, h3, h4, h5, h6, h7⟩
  · cases h1
  · injection h1 with hA _ hc
    injection hA with hA
    injection hA with hA
    subst hA
    subst hc
    refine ⟨by rw [List.length_set]; exact h.1, .inr ⟨_, _, cur.set! j u, rfl, h2, heap_set_in h3 u, h4, h5, by simpa using h6, ?_⟩⟩
    rw [← h7]
    simp [List.take_set]
theorem own_cell1 {w : World} {base n g cap : Nat} {e : TypeId} {Z : List Int} (h : w.ownsRow base e 1 (.slice (some ⟨g, 0, none⟩) n cap) n (zVals Z)) (k : Nat) (hk : k < n) : w.cell? ⟨g, k, none⟩ = some (.int .i64 (z0 Z k)) := by
  rw [h.cellAt k (by omega), zVals_at Z k (by have := h.1; rw [zVals_len] at this; omega)]
theorem own_frozen {w : World} {base size n g cap : Nat} {e : TypeId} {xs : List Value} (h : w.ownsRow base e size (.slice (some ⟨g, 0, none⟩) n cap) n xs) (k : Nat) : w.frozen? ⟨g, k, none⟩ = false := by
  rcases h.2 with ⟨h1, _⟩ | ⟨g', cap', cur, h1, h2, h3, h4⟩
  · cases h1
  · injection h1 with hA _ hc
    injection hA with hA
    injection hA with hA
    subst hA
    simp [World.frozen?, h3]

theorem Tryd.infoIntP : ∃ i0, Tryd.prog.info? 3 = some i0 ∧ i0.zero = some (.int .i64 0) ∧ i0.size = 1 ∧ i0.bytes = 8 := by
  have h : (Tryd.prog.info? 3).map (fun i => (i.zero, i.size, i.bytes)) = some (some (.int .i64 0), 1, 8) := by kernel_rfl
  obtain ⟨i0, hi, hii⟩ := Option.map_eq_some_iff.1 h
  simp only [Prod.mk.injEq] at hii
  exact ⟨i0, hi, hii⟩

/-- one is appended to the row that lies in the box; row and box lie from block M on -/
theorem coll_stepM {M C size k m : Nat} {T E : TypeId} {xs ys : List Value} {W w1 : World} {v v' : Value} {tmp : Obj} (hM : M ≤ C) (hv : Boxed W C T v) (hTE : T ≠ E) (hrow : W.ownsRow M E size v k xs)
    (hown' : w1.ownsRow M E size v' m ys) (hgrow : (W.alloc tmp).grownBy w1 v.ownBlock) :
    Boxed (w1.setCell ⟨C, 0, none⟩ v') C T v' ∧ (w1.setCell ⟨C, 0, none⟩ v').ownsRow M E size v' m ys ∧ Below M W (w1.setCell ⟨C, 0, none⟩ v') := by
  have hv0 : Boxed (W.alloc tmp) C T v := hv.alloc tmp
  have hv1 : Boxed w1 C T v := hv0.kept hgrow (hv.not_row hTE hrow)
  refine ⟨hv1.set v', hown'.kept (grownBy_setCell' w1 C v') (.inr (hv1.not_row hTE hown').symm), ?_⟩
  have hlt := hv.lt
  exact (((Below.refl M W).alloc (by omega) tmp).grown hgrow (by simp; omega) fun j ej => (hrow.lt j ej).1).setCell (p := ⟨C, 0, none⟩) hM v'

/-- the marker's state -/
def MarkI (M C : Nat) (w : World) (Z : List Int) (n : Nat) : Prop :=
  M ≤ C ∧ ∃ g cap, Boxed w C 115 (.slice (some ⟨g, 0, none⟩) Z.length cap) ∧ w.ownsRow M 3 1 (.slice (some ⟨g, 0, none⟩) Z.length cap) Z.length (zVals Z) ∧ Z.length = n + 1
theorem MarkI.lt {M C n : Nat} {w : World} {Z : List Int} (h : MarkI M C w Z n) : C < w.heap.size := by
  obtain ⟨_, g, cap, h1, _⟩ := h
  exact h1.lt
theorem MarkI.alloc {M C n : Nat} {w : World} {Z : List Int} (h : MarkI M C w Z n) (o : Obj) : MarkI M C (w.alloc o) Z n := by
  obtain ⟨hM, g, cap, h1, h2, h3⟩ := h
  exact ⟨hM, g, cap, h1.alloc o, h2.alloc o, h3⟩

theorem mark_leaf (M C n : Nat) (a : Acc) (Z : List Int) (w : World) (h : MarkI M C w Z n) (hn : n < 1048576) :
    Calls Tryd.prog 105 #[.pointer (some ⟨C, 0, none⟩), .int .i64 n, accV a] w fun e w' => e = .returned (.bool true) ∧ MarkI M C w' (Z ++ [0]) (n + 1) ∧ Below M w w' := by
  obtain ⟨hM, g0, cap0, hv, hown, hle⟩ := h
  obtain ⟨c, x, l⟩ := a
  dsimp only [accV]
  obtain ⟨i0, hi, hz0, hz1, hz2⟩ := Tryd.infoIntP
  have hv1 := hv.alloc (.cells #[.int .i64 c, .bool x, .int .i64 l] 48)
  have hown1 := hown.alloc (.cells #[.int .i64 c, .bool x, .int .i64 l] 48)
  have hb1 : Below M w (w.alloc (.cells #[.int .i64 c, .bool x, .int .i64 l] 48)) := (Below.refl M w).alloc (by have := hv.lt; omega) _
  obtain ⟨w1, hw1⟩ : ∃ w1, w1 = w.alloc (.cells #[.int .i64 c, .bool x, .int .i64 l] 48) := ⟨_, rfl⟩
  rw [← hw1] at hv1 hown1 hb1
  have hc0 := hv.cell
  have hlt0 := hv.lt
  have hlt := hv1.lt
  obtain ⟨L, hL⟩ : ∃ L, L = Z.length := ⟨_, rfl⟩
  rw [← hL] at hown1 hle hv1 hc0
  have hin1 : L + 1 ≤ maxLen := by unfold maxLen; omega
  have hin2 : (L + 1) * 8 ≤ 140737488355328 := by omega
  have hfin : ∀ gg cap w4, w4.ownsRow M 3 1 (.slice (some ⟨gg, 0, none⟩) (L + 1) cap) (L + 1) (zVals Z ++ [.int .i64 0]) →
      (w1.alloc (.cells #[.int .i64 0] 3)).grownBy w4 (Value.slice (some ⟨g0, 0, none⟩) L cap0).ownBlock →
      MarkI M C (w4.setCell ⟨C, 0, none⟩ (.slice (some ⟨gg, 0, none⟩) (L + 1) cap)) (Z ++ [0]) (n + 1) ∧ Below M w (w4.setCell ⟨C, 0, none⟩ (.slice (some ⟨gg, 0, none⟩) (L + 1) cap)) := fun gg cap w4 h1 h2 => by
    obtain ⟨p1, p2, p3⟩ := coll_stepM hM hv1 (by decide) hown1 h1 h2
    refine ⟨⟨hM, gg, cap, ?_, ?_, by simp; omega⟩, hb1.trans p3⟩
    · rw [List.length_append, List.length_singleton, ← hL]; exact p1
    · rw [zVals_snoc, List.length_append, List.length_singleton, ← hL]; exact p2
  have hsz1 : w1.heap.size = w.heap.size + 1 := by rw [hw1]; simp
  have hnew : (w1.alloc (.cells #[.int .i64 0] 3)).heap[w.heap.size + 1]? = some (.cells #[.int .i64 0] 3 (0, 0)) := by rw [← hsz1]; exact World.alloc_heap_new w1 _
  have HNW := Lib.hid hnew
  have hbs : M ≤ (w1.alloc (.cells #[.int .i64 0] 3)).heap.size := by simp; omega
  have HBS := Lib.hid hbs
  clear hnew hsz1 hbs
  have HF := Lib.hid hfin
  have hne := hv1.not_row (by decide) hown1
  have HV1 := Lib.hid hv1
  have HOW := Lib.hid hown1
  have HNE := Lib.hid hne
  clear hL hv hown hb1 hfin hv1 hown1 hne hle
  go_enter Tryd.func105, Tryd.ntmps105
  go_wp2_with (first
    | (at_builtin; (rw [← hw1]; refine wpList_append_lies _ rfl _ _ _ rfl M 3 i0 _ 1 8 Tryd.underlying34 hi hz0 hz1 hz2 rfl (by omega) (.slice (some ⟨g0, 0, none⟩) L cap0) L (zVals Z) rfl (HOW.out.alloc _) ⟨w.heap.size + 1, 0, none⟩ 1 1 [.int .i64 0] rfl rfl (World.news_of_block (cs := #[.int .i64 0]) (t := 3) (fr := (0, 0)) HNW.out) (by simp [Value.oneCell']) (by omega) hin1 hin2 HBS.out _ rfl ?_; intro gg cap w4 hown4 hgrow hat hlt'; have hc4 : w4.cell? ⟨C, 0, none⟩ = some (.slice (some ⟨g0, 0, none⟩) L cap0) := ((HV1.out.alloc _).kept hgrow HNE.out).cell; have hf4 : w4.frozen? ⟨C, 0, none⟩ = false := ((HV1.out.alloc _).kept hgrow HNE.out).frozen; have hfin4 := Lib.hid (HF.out gg cap w4 hown4 hgrow)))
    | fail)
  go_ret
  exact ⟨rfl, hfin4.out⟩

theorem mark_par (M C x m t : Nat) (Z : List Int) (w : World) (h : MarkI M C w Z t) (hx : x ≤ m) (hm : m ≤ t) (ht : t ≤ 1048576) :
    Calls Tryd.prog 106 #[.pointer (some ⟨C, 0, none⟩), .int .i64 x, .int .i64 m, .int .i64 t] w fun e w' => e = .returned (.tuple #[]) ∧ MarkI M C w' (mkP Z x m t) t ∧ Below M w w' := by
  obtain ⟨hM, g, cap, hv, hown, hle⟩ := h
  obtain ⟨L, hL⟩ : ∃ L, L = Z.length := ⟨_, rfl⟩
  rw [← hL] at hv hown hle
  have hne := hv.not_row (by decide) hown
  have hCg : C ≠ g := fun e => hne (by rw [e]; rfl)
  have hgC : g ≠ C := fun e => hCg e.symm
  have hcell := hv.cell
  have hgb : M ≤ g := by have := (hown.lt g rfl).1; exact this
  -- the three stores
  obtain ⟨v1, hv1⟩ : ∃ v1, v1 = IntKind.i64.wrap (z0 Z x + ((t : Int) - m)) := ⟨_, rfl⟩
  obtain ⟨Z1, hZ1⟩ : ∃ Z1, Z1 = Z.set x v1 := ⟨_, rfl⟩
  obtain ⟨v2, hv2⟩ : ∃ v2, v2 = IntKind.i64.wrap (z0 Z1 m - ((t : Int) - x)) := ⟨_, rfl⟩
  obtain ⟨Z2, hZ2⟩ : ∃ Z2, Z2 = Z1.set m v2 := ⟨_, rfl⟩
  obtain ⟨v3, hv3⟩ : ∃ v3, v3 = IntKind.i64.wrap (z0 Z2 t + ((m : Int) - x)) := ⟨_, rfl⟩
  have hZ3 : mkP Z x m t = Z2.set t v3 := by rw [hv3, hZ2, hv2, hZ1, hv1]; rfl
  rw [hZ3]
  have o1 := own_set (j := x) hown (.int .i64 v1)
  rw [zVals_set, ← hZ1] at o1
  have o2 := own_set (j := m) o1 (.int .i64 v2)
  rw [zVals_set, ← hZ2] at o2
  have o3 := own_set (j := t) o2 (.int .i64 v3)
  rw [zVals_set] at o3
  have k1 : (w.setCell ⟨g, x, none⟩ (.int .i64 v1)).heap[C]? = w.heap[C]? := Below.heap_setCell _ _ _ _ hCg
  have k2 : ((w.setCell ⟨g, x, none⟩ (.int .i64 v1)).setCell ⟨g, m, none⟩ (.int .i64 v2)).heap[C]? = w.heap[C]? := (Below.heap_setCell _ _ _ _ hCg).trans k1
  have k3 : (((w.setCell ⟨g, x, none⟩ (.int .i64 v1)).setCell ⟨g, m, none⟩ (.int .i64 v2)).setCell ⟨g, t, none⟩ (.int .i64 v3)).heap[C]? = w.heap[C]? := (Below.heap_setCell _ _ _ _ hCg).trans k2
  have hb3 : Below M w (((w.setCell ⟨g, x, none⟩ (.int .i64 v1)).setCell ⟨g, m, none⟩ (.int .i64 v2)).setCell ⟨g, t, none⟩ (.int .i64 v3)) :=
    (((Below.refl M w).setCell (p := ⟨g, x, none⟩) (by dsimp only; omega) _).setCell (p := ⟨g, m, none⟩) (by dsimp only; omega) _).setCell (p := ⟨g, t, none⟩) (by dsimp only; omega) _
  have hfin : MarkI M C (((w.setCell ⟨g, x, none⟩ (.int .i64 v1)).setCell ⟨g, m, none⟩ (.int .i64 v2)).setCell ⟨g, t, none⟩ (.int .i64 v3)) (Z2.set t v3) t := by
    have hl3 : (Z2.set t v3).length = L := by rw [List.length_set, hZ2, List.length_set, hZ1, List.length_set, hL]
    refine ⟨hM, g, cap, ?_, ?_, by rw [hl3]; omega⟩
    · rw [hl3]; exact k3.trans hv
    · rw [hl3]; exact o3
  have c1 := own_cell1 hown x (by omega)
  have c2 : (w.setCell ⟨g, x, none⟩ (.int .i64 v1)).cell? ⟨g, m, none⟩ = some (.int .i64 (z0 Z1 m)) := own_cell1 o1 m (by omega)
  have c3 : ((w.setCell ⟨g, x, none⟩ (.int .i64 v1)).setCell ⟨g, m, none⟩ (.int .i64 v2)).cell? ⟨g, t, none⟩ = some (.int .i64 (z0 Z2 t)) := own_cell1 o2 t (by omega)
  have hf := own_frozen hown
  have b1 : (w.setCell ⟨g, x, none⟩ (.int .i64 v1)).cell? ⟨C, 0, none⟩ = some (.slice (some ⟨g, 0, none⟩) L cap) := (World.cell?_of_block k1).trans hcell
  have b2 : ((w.setCell ⟨g, x, none⟩ (.int .i64 v1)).setCell ⟨g, m, none⟩ (.int .i64 v2)).cell? ⟨C, 0, none⟩ = some (.slice (some ⟨g, 0, none⟩) L cap) := (World.cell?_of_block k2).trans hcell
  have f1 : ∀ k, (w.setCell ⟨g, x, none⟩ (.int .i64 v1)).frozen? ⟨g, k, none⟩ = false := own_frozen o1
  have f2 : ∀ k, ((w.setCell ⟨g, x, none⟩ (.int .i64 v1)).setCell ⟨g, m, none⟩ (.int .i64 v2)).frozen? ⟨g, k, none⟩ = false := own_frozen o2
  have e1 : IntKind.i64.wrap ((t : Int) - (m : Int)) = (t : Int) - m := by rw [IntKind.wrap_i64]; omega
  have e2 : IntKind.i64.wrap ((m : Int) - (x : Int)) = (m : Int) - x := by rw [IntKind.wrap_i64]; omega
  have e3 : IntKind.i64.wrap (((t : Int) - (m : Int)) + ((m : Int) - (x : Int))) = (t : Int) - x := by rw [IntKind.wrap_i64]; omega
  have n1 : (0 : Int) ≤ (x : Int) := by omega
  have n2 : (x : Int) < (L : Int) := by omega
  have n3 : (m : Int) < (L : Int) := by omega
  have n4 : (t : Int) < (L : Int) := by omega
  have HFIN := Lib.hid hfin
  have HB3 := Lib.hid hb3
  have hv1' := hv1.symm
  have hv2' := hv2.symm
  have hv3' := hv3.symm
  clear hfin hb3 hZ3 hv hown hv1 hv2 hv3 hZ1 hZ2 o1 o2 o3 k1 k2 k3 hL hne hgb
  go_enter Tryd.func106, Tryd.ntmps106
  go_wp2_with fail
  go_end0
  exact ⟨rfl, HFIN.out, HB3.out⟩
end Go.Proofs.YtipihchlhkjdjaaDoor

namespace Go.Proofs.YtipihchlhkjdjaaDoor
open Go.RowKit
set_option maxRecDepth 100000

/-- the first k pairs hold their number and f of it -/
def Filled (xs : List Value) (k : Nat) (f : Nat → Int) : Prop := ∀ j, j < k → xs[j * 2]? = some (.int .i64 (j : Int)) ∧ xs[j * 2 + 1]? = some (.int .i64 (f j))
theorem Filled.next {xs : List Value} {k n : Nat} {f : Nat → Int} (h : Filled xs k f) (hl : xs.length = n * 2) (hk : k < n) : Filled ((xs.set (k * 2) (.int .i64 (k : Int))).set (k * 2 + 1) (.int .i64 (f k))) (k + 1) f := by
  intro j hj
  simp only [List.getElem?_set]
  by_cases h1 : j = k
  · subst h1
    simp
    omega
  · obtain ⟨h2, h3⟩ := h j (by omega)
    rw [if_neg (by omega), if_neg (by omega), if_neg (by omega), if_neg (by omega)]
    exact ⟨h2, h3⟩

theorem Tryd.infoPairP : ∃ i0, Tryd.prog.info? 88 = some i0 ∧ i0.zero = some (.agg #[.int .i64 0, .int .i64 0]) ∧ i0.size = 2 ∧ i0.bytes = 16 := by
  have h : (Tryd.prog.info? 88).map (fun i => (i.zero, i.size, i.bytes)) = some (some (.agg #[.int .i64 0, .int .i64 0]), 2, 16) := by kernel_rfl
  obtain ⟨i0, hi, hii⟩ := Option.map_eq_some_iff.1 h
  simp only [Prod.mk.injEq] at hii
  exact ⟨i0, hi, hii⟩

theorem markR (M C : Nat) : Rdr (BoxT C 115) (MarkI M C) M 116 (.pointer (some ⟨C, 0, none⟩)) (fun s _ _ => (s ++ [0], true)) (fun s _ _ _ => s) mkP where
  drew := fun w s n h => h
  there := fun w s n ⟨_, g, cap, h, _⟩ => ⟨_, h⟩
  leaf := ⟨105, .pointer (some ⟨C, 0, none⟩), Meth.direct (fun _ _ => by kernel_rfl) (fun _ _ => by kernel_rfl) (fun _ _ => by kernel_rfl), fun w s n a h hn => mark_leaf M C n a s w h hn⟩
  ser := ⟨103, .agg #[], Meth.emb (sg := 113) (by decide +kernel) (by kernel_rfl) (by kernel_rfl) Tryd.underlying115 rfl rfl rfl rfl (fun _ _ => by kernel_rfl) (fun _ _ => by kernel_rfl),
    fun w s x m t h _ _ _ => (patient_series x m t w).mono fun e w' ⟨h1, h2⟩ => ⟨h1, h2 ▸ h.alloc _, h2 ▸ (Below.refl M w).alloc (by have := h.lt; have := h.1; omega) _⟩⟩
  par := ⟨106, .pointer (some ⟨C, 0, none⟩), Meth.direct (fun _ _ => by kernel_rfl) (fun _ _ => by kernel_rfl) (fun _ _ => by kernel_rfl), fun w s x m t h hx hm ht => mark_par M C x m t s w h hx hm ht⟩

/-- the second numbering of leaf k -/
def Tm.posN (T : Tm) (k : Nat) : Int := T.pos (k : Int)

theorem own_below {w w' : World} {base size m M : Nat} {e : TypeId} {x : Value} {news : List Value} (h : w.ownsRow base e size x m news) (hb : Below M w w') (hM : ∀ j, x.ownBlock = some j → j < M) : w'.ownsRow base e size x m news := by
  refine ⟨h.1, ?_⟩
  rcases h.2 with h0 | ⟨g, cap, cur, h1, h2, h3, h4⟩
  · exact .inl h0
  · refine .inr ⟨g, cap, cur, h1, h2, ?_, h4⟩
    rw [hb.block g (hM g (by rw [h1]; rfl))]
    exact h3

set_option maxHeartbeats 1000000 in
theorem marks_any (T : Tm) (h : Hd) (w : World) (hT : TIn w w.heap.size T h) (hs : T.sz ≤ 1048576) :
    Calls Tryd.prog 40 #[.agg h.cells] w fun e w' => ∃ A c xs, e = .returned (.slice A T.sz c) ∧ w'.ownsRow w.heap.size 88 2 (.slice A T.sz c) T.sz xs ∧ Filled xs T.sz T.posN ∧ Below w.heap.size w w' := by
  have key : ∃ w1, w1 = (((w.alloc (.cells h.cells 51)).alloc (.cells #[.int .i64 0] 3)).alloc (.cells #[.slice (some ⟨w.heap.size + 1, 0, none⟩) 1 1] 115)) ∧ Below w.heap.size w w1 ∧ TB 51 w1 w.heap.size h ∧ MarkI (w.heap.size + 1) (w.heap.size + 1 + 1) w1 [0] 0 := by
    refine ⟨_, rfl, (((Below.refl _ _).alloc (Nat.le_refl _) _).alloc (by simp) _).alloc (by simp; omega) _, ((TB.new _ _ _).alloc _).alloc _, ⟨by omega, w.heap.size + 1, 1, ?_, ?_, rfl⟩⟩
    · have := Boxed.new ((w.alloc (.cells h.cells 51)).alloc (.cells #[.int .i64 0] 3)) 115 (.slice (some ⟨w.heap.size + 1, 0, none⟩) 1 1)
      rw [World.size_alloc, World.size_alloc] at this
      exact this
    · refine World.ownsRow.alloc ?_ _
      exact own_row1 (.cells #[.int .i64 0] 3) rfl (by simp) ⟨by simp, rfl, by simp [maxLen]⟩
  obtain ⟨w1, hw1, hb1, ht1, hI1⟩ := key
  have hT1 : TIn w1 (w.heap.size + 1) T h := (hT.below hb1 (Nat.le_refl _)).more (by omega)
  have hc := read_any (markR (w.heap.size + 1) (w.heap.size + 1 + 1)) T w1 w.heap.size 0 h [0] 0 ht1.at (by omega) hT1 hI1 (by omega)
  obtain ⟨Z', he, hmk⟩ := markT_ok T [0] 0 rfl
  unfold markT at he
  rw [he] at hc
  dsimp only at hc
  have HC : Hid (Calls Tryd.prog 39 #[.pointer (some ⟨w.heap.size, 0, none⟩), .int .i64 0, .iface 116 (.pointer (some ⟨w.heap.size + 1 + 1, 0, none⟩))] w1 _) := Lib.hid hc
  obtain ⟨k, c, x, l, A, m, cap⟩ := h
  dsimp only [Hd.cells] at hw1 ⊢
  obtain ⟨i0, hi, hz0, hz1, hz2⟩ := Tryd.infoPairP
  obtain ⟨n, hn⟩ : ∃ n, n = T.sz := ⟨_, rfl⟩
  have hlen : Z'.length = n + 1 := by rw [hmk.len, hn]; omega
  have hpos : ∀ k, k < n → ∀ y, Cg y (ps Z' (k + 1)) → IntKind.i64.wrap ((k : Int) + y) = T.posN k := fun k hk y hy => mark_pos T Z' hmk k (by omega) hs y hy
  rw [← hn] at hs
  rw [← hn] at HC ⊢
  have HP := Lib.hid hpos
  have HLEN := Lib.hid hlen
  have HB1 := Lib.hid hb1
  have hsz1 : w.heap.size + 1 + 1 < w1.heap.size := by rw [hw1]; simp
  have HS1 := Lib.hid hsz1
  have hmw : IntKind.i64.wrap (((n + 1 : Nat) : Int) - 1) = (n : Int) := by rw [IntKind.wrap_i64]; omega
  clear hc hT1 hT ht1 hI1 he hmk hlen hpos hb1 hsz1 hn
  go_enter Tryd.func40, Tryd.ntmps40
  go_wp2_with (first
    | (rw [← hw1]; refine HC.out.mono ?_; rintro e w2 ⟨rfl, ⟨_, g, gcap, hv, hown, _⟩, hb2⟩; have hc2 := hv.cell; rw [HLEN.out] at hc2)
    | (at_make; refine wpList_make_full _ rfl _ _ 85 rfl w2.heap.size 88 i0 _ 2 Tryd.underlying85 hi hz0 hz1 .i64 .i64 _ _ n rfl rfl (by first | rfl | omega) (by first | rfl | omega) (by rw [hz2]; omega) (by unfold maxLen; omega) (Nat.le_refl _) ?_; intro w3 hown3 hgrow3)
    | fail)
  have hlt2 : w.heap.size + 1 + 1 < w2.heap.size := hv.lt
  have hb23 : Below w2.heap.size w2 w3 := (Below.refl _ _).grown hgrow3 (Nat.le_refl _) fun j ej => by cases ej
  have hb3 : Below w.heap.size w w3 := HB1.out.trans ((hb2.trans (hb23.mono (by omega))).mono (by omega))
  obtain ⟨G, hG⟩ : ∃ G, G = w2.heap.size := ⟨_, rfl⟩
  rw [← hG] at hown3 hb23 hlt2 ⊢
  have hv3 : Boxed w3 (w.heap.size + 1 + 1) 115 (.slice (some ⟨g, 0, none⟩) Z'.length gcap) := hv.kept hgrow3 (by simp)
  have hr3 := hown.kept hgrow3 (.inr (by simp [Value.ownBlock]))
  rw [HLEN.out] at hv3 hr3
  have hgG : g < G := by rw [hG]; exact (hown.lt g rfl).2
  have HGC : Hid (w.heap.size ≤ G) := Lib.hid (by omega)
  have HW3 := Lib.hid (Below.refl G w3)
  have HV3 := Lib.hid hv3
  have HR3 := Lib.hid hr3
  have HO3 := Lib.hid hown3
  have HB3 := Lib.hid hb3
  have HLT := Lib.hid hlt2
  have HGG := Lib.hid hgG
  clear hv hown hb2 hc2 hgrow3 hb23 hG hv3 hr3 hown3 hb3 hlt2 hgG hw1 hmw
  go_loopw [5, 18] (fun sh i wr => ∃ (k : Nat) (s : Int) (xs : List Value), k ≤ n ∧ i = .int .i64 k ∧ sh = .int .i64 s ∧ Hid (Cg s (ps Z' k)) ∧ Hid (wr.ownsRow G 88 2 (.slice (some ⟨G, 0, none⟩) n n) n xs) ∧ Hid (Filled xs k T.posN) ∧ Hid (Below G w3 wr)) (fun _ i _ => n - (RowKit.intOf i).toNat)
  case atStart => exact ⟨0, 0, _, Nat.zero_le _, rfl, rfl, Lib.hid (Cg.refl _), HO3, Lib.hid (fun j hj => by omega), HW3⟩
  case round =>
    obtain ⟨k, s, xs, hk, rfl, rfl, hcg, hrow, hfill, hbr⟩ := hrel
    by_cases hlt : k < n
    · have hvr : Boxed wr (w.heap.size + 1 + 1) 115 (.slice (some ⟨g, 0, none⟩) (n + 1) gcap) := (hbr.out.block _ HLT.out).trans HV3.out
      have hrr := own_below HR3.out hbr.out (fun j ej => by have : g = j := by simpa [Value.ownBlock] using ej
                                                            subst this; exact HGG.out)
      have hc := hvr.cell
      have hz := own_cell1 hrr k (by omega)
      have hfz := own_frozen hrow.out
      have hsz := hrow.out.1
      have hx0 : wr.cell? ⟨G, k * 2, none⟩ = some (xs[k * 2]'(by omega)) := by rw [hrow.out.cellAt (k * 2) (by omega)]; exact List.getElem?_eq_getElem _
      have hx1 : wr.cell? ⟨G, k * 2 + 1, none⟩ = some (xs[k * 2 + 1]'(by omega)) := by rw [hrow.out.cellAt (k * 2 + 1) (by omega)]; exact List.getElem?_eq_getElem _
      generalize xs[k * 2]'(by omega) = y0 at hx0
      generalize xs[k * 2 + 1]'(by omega) = y1 at hx1
      have hcg2 : Cg (IntKind.i64.wrap (s + z0 Z' k)) (ps Z' (k + 1)) := by
        have h1 := cg_wrap (s + z0 Z' k)
        have h2 := hcg.out
        simp only [ps]
        unfold Cg at *
        omega
      have hpk := HP.out k hlt _ hcg2
      obtain ⟨s', hs'⟩ : ∃ s', IntKind.i64.wrap (s + z0 Z' k) = s' := ⟨_, rfl⟩
      rw [hs'] at hcg2 hpk
      have HCG := Lib.hid hcg2
      have HX := Lib.hid (hfill.out.next hsz hlt)
      have HRW : Hid (((wr.setCell ⟨G, k * 2, none⟩ (.int .i64 (k : Int))).setCell ⟨G, k * 2 + 1, none⟩ (.int .i64 (T.posN k))).ownsRow G 88 2 (.slice (some ⟨G, 0, none⟩) n n) n _) := Lib.hid (own_set (own_set hrow.out _) _)
      have HBW : Hid (Below G w3 ((wr.setCell ⟨G, k * 2, none⟩ (.int .i64 (k : Int))).setCell ⟨G, k * 2 + 1, none⟩ (.int .i64 (T.posN k)))) := Lib.hid ((hbr.out.setCell (p := ⟨G, k * 2, none⟩) (Nat.le_refl _) _).setCell (p := ⟨G, k * 2 + 1, none⟩) (Nat.le_refl _) _)
      have n1 : (0 : Int) ≤ (k : Int) := by omega
      have n2 : (k : Int) < (n : Int) := by omega
      have n3 : (k : Int) < ((n + 1 : Nat) : Int) := by omega
      clear hvr hrr hcg hfill hsz hcg2
      go_wp2_with fail
      go_roundw
      case rel => exact ⟨k + 1, s', _, by omega, by go_num, rfl, HCG, HRW, HX, HBW⟩
      case measure => simp [RowKit.intOf]; omega
    · obtain rfl : k = n := by omega
      go_wp2_with fail
      go_ret
      exact ⟨_, _, xs, rfl, own_more hrow.out HGC.out, hfill.out, HB3.out.trans (hbr.out.mono HGC.out)⟩
end Go.Proofs.YtipihchlhkjdjaaDoor
