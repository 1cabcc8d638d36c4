/-
  What the second form's bound says of the length of a slice that comes in.
  A graph that comes in as an argument: what its reading as data says of memory. No condition.
-/
import Derived.Test.YtipihchlhkjdjaaDoorRows
import Derived.Test.YtipihchlhkjdjaaDoorPk15
import Derived.Test.YtipihchlhkjdjaaDoorPk02
import Derived.ProofKit
import Derived.OpenShut
import Derived.Deep.SlicePairs
import Derived.Lib.SmallJoins
namespace Go.Proofs.YtipihchlhkjdjaaDoor

theorem bulk_pos {H : Type} (d : DataW H) : 1 ≤ Rows.uptoBulk d := by
  cases d with
  | lit l => cases l <;> simp [Rows.uptoBulk]
  | _ => simp [Rows.uptoBulk]
theorem bulk_len {H : Type} (l : List (DataW H)) : l.length ≤ Rows.uptoBulkAll l := by
  induction l with
  | nil => simp
  | cons d r ih =>
    have := bulk_pos d
    simp only [Rows.uptoBulkAll, List.length_cons]
    omega
theorem bulk_slice {H : Type} {d : DataW H} {n : Nat} (h : SliceLen d n) : n ≤ Rows.uptoBulk d := by
  rcases h with ⟨rfl, rfl⟩ | ⟨elems, spare, rfl, rfl⟩
  · omega
  · have := bulk_len elems
    simp only [Rows.uptoBulk]
    omega
theorem small_le {H : Type} {l : List (DataW H)} (hk : Rows.uptoSmall H l = true) : Rows.uptoBulkAll l ≤ 1048576 := of_decide_eq_true hk

end Go.Proofs.YtipihchlhkjdjaaDoor

namespace Go.Proofs.YtipihchlhkjdjaaDoor
open Go.ChangeShapes Go.WideShapes Go.ChangeAt Go.RowKit Go.Deep Go.Joins

/-- a slice of pairs of ints -/
theorem open_edges {H : Type} {enc : TypeId × Value → H} {P : Program} {W : World} {tt te : TypeId} {g0 g1 : Field} {fuel : Nat} {v : Value} {y : DataW H × List MemPlace}
    (hts : P.underlying tt = some (.slice te)) (hte : P.underlying te = some (.struct #[g0, g1])) (ce : P.cellsOf te = 2) (o0 : g0.offset = 0) (o1 : g1.offset = 1) (c0 : P.cellsOf g0.type = 1) (c1 : P.cellsOf g1.type = 1)
    (i0 : P.underlying g0.type = some (.int .i64)) (i1 : P.underlying g1.type = some (.int .i64))
    (h : DataW.trod enc P W 0 (fun _ => true) true fuel tt [v] = some y) (hlt : ∀ x ∈ y.2, x.block < W.heap.size) :
    ∃ (A : Option Addr) (cap : Nat) (es : List (Int × Int)), v = .slice A es.length cap ∧ SliceLen y.1 es.length ∧ (es.length ≤ 1099511627776 → RdE W W.heap.size A es) := by
  rcases open_slice_pairs hts hte ce o0 o1 c0 c1 h with ⟨hcs, hx⟩ | ⟨a, len, cap, m, n, V0, V1, D0, D1, P0, P1, hcs, _, hl, hm, hmm, hx, hV⟩
  · simp at hcs
    subst hcs
    subst hx
    exact ⟨none, 0, [], rfl, .inl ⟨rfl, rfl⟩, fun _ => ⟨fun k => by simp [ed], fun k => by simp [ed], fun k => by simp [ed], fun k => by simp [ed], by simp, fun hn => by simp at hn⟩⟩
  · simp at hcs
    subst hcs
    have hlm : len ≤ m := by rw [hmm]; split <;> omega
    have hint : ∀ i, ∃ q : Int × Int, i < m → V0 i = .int .i64 q.1 ∧ V1 i = .int .i64 q.2 ∧ (-9223372036854775808 ≤ q.1 ∧ q.1 ≤ 9223372036854775807) ∧ (-9223372036854775808 ≤ q.2 ∧ q.2 ≤ 9223372036854775807) := fun i => by
      by_cases hi : i < m
      · obtain ⟨_, _, h3, h4⟩ := hV i hi
        obtain ⟨x, e0, _, w0⟩ := DataW.trod_int i0 h3
        obtain ⟨x', e1, _, w1⟩ := DataW.trod_int i1 h4
        simp at e0 e1
        exact ⟨(x, x'), fun _ => ⟨e0, e1, bounds_i64 w0, bounds_i64 w1⟩⟩
      · exact ⟨(0, 0), fun h => absurd h hi⟩
    let es : List (Int × Int) := (List.range len).map fun i => (hint i).choose
    have hlen : es.length = len := by simp [es]
    have hed : ∀ k, k < len → ed es k = (hint k).choose := fun k hk => by unfold ed; simp [es, List.getD, hk]
    have hout : ∀ k, len ≤ k → ed es k = (0, 0) := fun k hk => by unfold ed; simp [es, List.getD, hk]
    have hall : ∀ k, (-9223372036854775808 ≤ (ed es k).1 ∧ (ed es k).1 ≤ 9223372036854775807) ∧ (-9223372036854775808 ≤ (ed es k).2 ∧ (ed es k).2 ≤ 9223372036854775807) := fun k => by
      rcases Nat.lt_or_ge k len with hk | hk
      · rw [hed k hk]; exact ((hint k).choose_spec (by omega)).2.2
      · rw [hout k hk]; simp
    refine ⟨some a, cap, es, by rw [hlen], .inr ⟨_, _, by rw [hx], by simp [hlen]⟩, fun hroom => ⟨fun k => (hall k).1.1, fun k => (hall k).1.2, fun k => (hall k).2.1, fun k => (hall k).2.2, hroom, fun hn => ?_⟩⟩
    rw [hlen] at hn ⊢
    obtain ⟨b, off, spot⟩ := a
    have hspot : spot = none := by simpa [Addr.add] using World.cell?_spot (hV 0 (by omega)).1
    subst hspot
    refine ⟨b, off, rfl, ?_, fun k hk => ?_⟩
    · have hmem : MemPlace.cell b off ∈ y.2 := by
        rw [hx]
        exact List.mem_append_left _ (MemPlace.mem_row.2 ⟨0, by omega, by simp⟩)
      exact hlt _ hmem
    · obtain ⟨h1, h2, _, _⟩ := hV k (by omega)
      rw [add_plain] at h1 h2
      rw [← Nat.add_assoc] at h2
      have hs := (hint k).choose_spec (by omega)
      rw [hed k hk]
      exact ⟨h1.trans (congrArg some hs.1), h2.trans (congrArg some hs.2.1)⟩

/-- a graph -/
theorem open_graph {H : Type} {enc : TypeId × Value → H} {P : Program} {W : World} {r : Reach} {b0 : Nat} {tg te : TypeId} {f0 f1 g0 g1 : Field} {v : Value} {d : DataW H} {p : List MemPlace}
    (htg : P.underlying tg = some (.struct #[f0, f1])) (hone : oneCellFields P #[f0, f1] = true) (hC : P.cellsOf tg = 2) (hf0 : P.underlying f0.type = some (.int .i64)) (hts : P.underlying f1.type = some (.slice te))
    (hte : P.underlying te = some (.struct #[g0, g1])) (ce : P.cellsOf te = 2) (o0 : g0.offset = 0) (o1 : g1.offset = 1) (c0 : P.cellsOf g0.type = 1) (c1 : P.cellsOf g1.type = 1)
    (i0 : P.underlying g0.type = some (.int .i64)) (i1 : P.underlying g1.type = some (.int .i64))
    (hv : Value.okWide P W r b0 tg v) (h : DataW.Trod enc P W 0 (fun _ => true) true tg v d p) (hlt : ∀ x ∈ p, x.block < W.heap.size) :
    ∃ (N : Int) (A : Option Addr) (cap : Nat) (es : List (Int × Int)) (d0 d1 : DataW H), v = .agg #[.int .i64 N, .slice A es.length cap] ∧ d = .agg [d0, d1] ∧ SliceLen d1 es.length ∧ (es.length ≤ 1099511627776 → RdE W W.heap.size A es) := by
  obtain ⟨v0, v1, y0, y1, n, rfl, rfl, rfl, h0, h1⟩ := open_agg2 htg hone hC hv h
  obtain ⟨N, e0, _, _⟩ := DataW.trod_int hf0 h0
  simp at e0
  subst e0
  obtain ⟨A, cap, es, rfl, hs, hr⟩ := open_edges hts hte ce o0 o1 c0 c1 i0 i1 h1 (fun x hx => hlt x (List.mem_append_right _ hx))
  exact ⟨N, A, cap, es, y0.1, y1.1, rfl, rfl, hs, hr⟩
end Go.Proofs.YtipihchlhkjdjaaDoor
