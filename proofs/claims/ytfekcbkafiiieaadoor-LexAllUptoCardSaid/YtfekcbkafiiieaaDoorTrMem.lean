/-
  Words for memory that holds a slice of structs of three ints; such a slice that comes in as an argument. Plain definitions and lemmas; no condition.
-/
import Derived.Test.YtfekcbkafiiieaaDoorBsOps
import Derived.Test.YtfekcbkafiiieaaDoorBsOpen
import Derived.ProofKit
import Derived.OpenShut
import Derived.Deep.Slices
import Derived.Lib.SmallJoins
namespace Go.Proofs.YtfekcbkafiiieaaDoor
open Go.ChangeShapes Go.WideShapes Go.ChangeAt Go.RowKit Go.Deep Go.Joins

/-- three of a list, zeros beyond it -/
def tr3 (ts : List (Int × Int × Int)) (k : Nat) : Int × Int × Int := ts.getD k (0, 0, 0)
/-- each of the three is an int of 64 bits -/
def In3 (t : Int × Int × Int) : Prop := (-9223372036854775808 ≤ t.1 ∧ t.1 ≤ 9223372036854775807) ∧ (-9223372036854775808 ≤ t.2.1 ∧ t.2.1 ≤ 9223372036854775807) ∧ (-9223372036854775808 ≤ t.2.2 ∧ t.2.2 ≤ 9223372036854775807)
/-- the three cells of one element -/
def Cell3 (w : World) (b o : Nat) (t : Int × Int × Int) : Prop := w.cell? ⟨b, o, none⟩ = some (.int .i64 t.1) ∧ w.cell? ⟨b, o + 1, none⟩ = some (.int .i64 t.2.1) ∧ w.cell? ⟨b, o + 2, none⟩ = some (.int .i64 t.2.2)

/-- a slice of structs of three ints -/
structure Rd3 (w : World) (B : Nat) (A : Option Addr) (ts : List (Int × Int × Int)) : Prop where
  int : ∀ k, In3 (tr3 ts k)
  room : ts.length ≤ 1099511627776
  rd : 0 < ts.length → ∃ b off, A = some ⟨b, off, none⟩ ∧ b < B ∧ ∀ k, k < ts.length → Cell3 w b (off + k * 3) (tr3 ts k)
theorem Cell3.keep {w w' : World} {B b o : Nat} {t : Int × Int × Int} (h : Cell3 w b o t) (hb : b < B) (hk : ∀ b o, b < B → w'.cell? ⟨b, o, none⟩ = w.cell? ⟨b, o, none⟩) : Cell3 w' b o t :=
  ⟨(hk b _ hb).trans h.1, (hk b _ hb).trans h.2.1, (hk b _ hb).trans h.2.2⟩
theorem Rd3.keep {w w' : World} {B : Nat} {A : Option Addr} {ts : List (Int × Int × Int)} (h : Rd3 w B A ts) (hk : ∀ b o, b < B → w'.cell? ⟨b, o, none⟩ = w.cell? ⟨b, o, none⟩) : Rd3 w' B A ts :=
  ⟨h.int, h.room, fun hn => by
    obtain ⟨b, off, hA, hb, hc⟩ := h.rd hn
    exact ⟨b, off, hA, hb, fun k hk' => (hc k hk').keep hb hk⟩⟩
theorem Rd3.below {w w' : World} {B : Nat} {A : Option Addr} {ts : List (Int × Int × Int)} (h : Rd3 w B A ts) (hb : Below B w w') : Rd3 w' B A ts := h.keep fun b o hlt => hb.cell (p := ⟨b, o, none⟩) hlt
theorem Rd3.more {w : World} {B B' : Nat} {A : Option Addr} {ts : List (Int × Int × Int)} (h : Rd3 w B A ts) (hB : B ≤ B') : Rd3 w B' A ts :=
  ⟨h.int, h.room, fun hn => by
    obtain ⟨b, off, hA, hb, hc⟩ := h.rd hn
    exact ⟨b, off, hA, by omega, hc⟩⟩
theorem Rd3.step {w w' : World} {A : Option Addr} {ts : List (Int × Int × Int)} (h : Rd3 w w.heap.size A ts) (hb : Below w.heap.size w w') : Rd3 w' w'.heap.size A ts := (h.below hb).more hb.size
theorem Rd3.nil (w : World) : Rd3 w w.heap.size none [] := ⟨fun k => by simp [tr3, In3], by simp, fun h => absurd h (by simp)⟩

theorem cell3_of {W : World} {b off k : Nat} {q : Int × Int × Int} (h : W.cell? ((⟨b, off, none⟩ : Addr).add (k * 3)) = some (.int .i64 q.1) ∧ W.cell? ((⟨b, off, none⟩ : Addr).add (k * 3 + 1)) = some (.int .i64 q.2.1) ∧ W.cell? ((⟨b, off, none⟩ : Addr).add (k * 3 + 2)) = some (.int .i64 q.2.2)) : Cell3 W b (off + k * 3) q := by
  obtain ⟨h1, h2, h3⟩ := h
  rw [add_plain] at h1 h2 h3
  rw [← Nat.add_assoc] at h2 h3
  exact ⟨h1, h2, h3⟩

/-- a slice of structs of three ints, opened -/
theorem open_trips {H : Type} {enc : TypeId × Value → H} {P : Program} {W : World} {tt te : TypeId} {g0 g1 g2 : Field} {fuel : Nat} {v : Value} {y : DataW H × List MemPlace}
    (hts : P.underlying tt = some (.slice te)) (hte : P.underlying te = some (.struct #[g0, g1, g2])) (ce : P.cellsOf te = 3) (o0 : g0.offset = 0) (o1 : g1.offset = 1) (o2 : g2.offset = 2) (c0 : P.cellsOf g0.type = 1) (c1 : P.cellsOf g1.type = 1) (c2 : P.cellsOf g2.type = 1)
    (i0 : P.underlying g0.type = some (.int .i64)) (i1 : P.underlying g1.type = some (.int .i64)) (i2 : P.underlying g2.type = some (.int .i64))
    (h : DataW.trod enc P W 0 (fun _ => true) true fuel tt [v] = some y) (hlt : ∀ x ∈ y.2, x.block < W.heap.size) :
    ∃ (A : Option Addr) (cap : Nat) (ts : List (Int × Int × Int)), v = .slice A ts.length cap ∧ ts.length ≤ cap ∧ SliceLen y.1 ts.length ∧ (ts.length ≤ 1099511627776 → Rd3 W W.heap.size A ts) := by
  rcases open_slice hts h with ⟨hcs, hx⟩ | ⟨a, len, cap, m, n, D, Pl, hcs, _, hl, _, hmm, hx, hV⟩
  · simp at hcs
    subst hcs
    subst hx
    exact ⟨none, 0, [], rfl, Nat.le_refl _, .inl ⟨rfl, rfl⟩, fun _ => ⟨fun k => by simp [tr3, In3], by simp, fun hn => by simp at hn⟩⟩
  · simp at hcs
    subst hcs
    have hlm : len ≤ m := by rw [hmm]; split <;> omega
    have hint : ∀ i, ∃ q : Int × Int × Int, i < m → In3 q ∧ (W.cell? (a.add (i * 3)) = some (.int .i64 q.1) ∧ W.cell? (a.add (i * 3 + 1)) = some (.int .i64 q.2.1) ∧ W.cell? (a.add (i * 3 + 2)) = some (.int .i64 q.2.2)) := fun i => by
      by_cases hi : i < m
      · obtain ⟨cs', h1, h2⟩ := hV i hi
        rw [ce] at h1
        obtain ⟨_, hlen, hcell⟩ := World.cells?_some h1
        obtain ⟨xs, k, _, _, _, hxl, hf⟩ := DataW.trod_struct hte h2
        match xs, hxl, cs', hlen with
        | [y0, y1, y2], _, [v0, v1, v2], _ =>
          have f0 := hf 0 g0 rfl
          have f1 := hf 1 g1 rfl
          have f2 := hf 2 g2 rfl
          simp [o0, o1, o2, c0, c1, c2] at f0 f1 f2
          obtain ⟨x0, e0, _, b0⟩ := DataW.trod_int i0 f0
          obtain ⟨x1, e1, _, b1⟩ := DataW.trod_int i1 f1
          obtain ⟨x2, e2, _, b2⟩ := DataW.trod_int i2 f2
          simp at e0 e1 e2
          have p0 := hcell 0 (by omega)
          have p1 := hcell 1 (by omega)
          have p2 := hcell 2 (by omega)
          rw [add_add] at p0 p1 p2
          simp at p0 p1 p2
          rw [e0] at p0
          rw [e1] at p1
          rw [e2] at p2
          exact ⟨(x0, x1, x2), fun _ => ⟨⟨bounds_i64 b0, bounds_i64 b1, bounds_i64 b2⟩, p0, p1, p2⟩⟩
      · exact ⟨(0, 0, 0), fun h => absurd h hi⟩
    let ts : List (Int × Int × Int) := (List.range len).map fun i => (hint i).choose
    have hlen : ts.length = len := by simp [ts]
    have htr : ∀ k, k < len → tr3 ts k = (hint k).choose := fun k hk => by unfold tr3; simp [ts, List.getD, hk]
    have hout : ∀ k, len ≤ k → tr3 ts k = (0, 0, 0) := fun k hk => by unfold tr3; simp [ts, List.getD, hk]
    refine ⟨some a, cap, ts, by rw [hlen], by omega, .inr ⟨_, _, by rw [hx], by simp [hlen]⟩, fun hroom => ⟨fun k => ?_, hroom, fun hn => ?_⟩⟩
    · rcases Nat.lt_or_ge k len with hk | hk
      · rw [htr k hk]; exact ((hint k).choose_spec (by omega)).1
      · rw [hout k hk]; simp [In3]
    · rw [hlen] at hn ⊢
      obtain ⟨b, off, spot⟩ := a
      have hspot : spot = none := by simpa [Addr.add] using World.cell?_spot ((hint 0).choose_spec (by omega)).2.1
      subst hspot
      refine ⟨b, off, rfl, ?_, fun k hk => ?_⟩
      · have hmem : MemPlace.cell b off ∈ y.2 := by
          rw [hx, ce]
          exact List.mem_append_left _ (MemPlace.mem_row.2 ⟨0, by omega, by simp⟩)
        exact hlt _ hmem
      · rw [htr k hk]
        exact cell3_of ((hint k).choose_spec (by omega)).2
end Go.Proofs.YtfekcbkafiiieaaDoor
