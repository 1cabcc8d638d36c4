/-
  A slice of tokens that comes in as an argument: what its reading as data says of memory. No condition.
-/
import Derived.Test.YtfekcbkafiiieaaDoorLxI
import Derived.Test.YtfekcbkafiiieaaDoorRows
import Derived.Test.YtfekcbkafiiieaaDoorBsBulk
import Derived.Test.YtfekcbkafiiieaaDoorTrMem
import Derived.ProofKit
import Derived.OpenShut
import Derived.Deep.Slices
import Derived.Lib.SmallJoins
namespace Go.Proofs.YtfekcbkafiiieaaDoor
open Go.ChangeShapes Go.WideShapes Go.ChangeAt Go.RowKit Go.Deep Go.Joins

theorem joinB_len {H : Type} (f : Nat → RTk) (D : Nat → DataW H) : ∀ n : Nat, (∀ k, k < n → (f k).2.2.size + 1 ≤ Rows.uptoBulk (D k)) → (joinA ((List.range n).map f)).length ≤ Rows.uptoBulkAll ((List.range n).map D) := by
  have app : ∀ l r : List (DataW H), Rows.uptoBulkAll (l ++ r) = Rows.uptoBulkAll l + Rows.uptoBulkAll r := fun l r => by
    induction l with
    | nil => simp [Rows.uptoBulkAll]
    | cons d l ih => simp only [List.cons_append, Rows.uptoBulkAll, ih]; omega
  intro n
  induction n with
  | zero => exact fun _ => Nat.zero_le _
  | succ n ih =>
    intro h
    have h1 := ih fun k hk => h k (by omega)
    have h2 := h n (by omega)
    rw [List.range_succ, List.map_append, List.map_append, app]
    unfold joinA at h1 ⊢
    rw [List.flatMap_append, List.length_append]
    simp only [List.map_cons, List.map_nil, List.flatMap_cons, List.flatMap_nil, List.append_nil, List.length_cons, Rows.uptoBulkAll]
    have e : (f n).2.2.data.toList.length = (f n).2.2.size := by simp
    omega
set_option maxRecDepth 100000 in
/-- a slice of tokens, opened -/
theorem open_toks {H : Type} {enc : TypeId × Value → H} {P : Program} {W : World} {tt te : TypeId} {g0 g1 g2 : Field} {fuel : Nat} {v : Value} {y : DataW H × List MemPlace}
    (hts : P.underlying tt = some (.slice te)) (hte : P.underlying te = some (.struct #[g0, g1, g2])) (ce : P.cellsOf te = 3) (o0 : g0.offset = 0) (o1 : g1.offset = 1) (o2 : g2.offset = 2) (c0 : P.cellsOf g0.type = 1) (c1 : P.cellsOf g1.type = 1) (c2 : P.cellsOf g2.type = 1)
    (i0 : P.underlying g0.type = some (.int .i64)) (i1 : P.underlying g1.type = some (.int .i64)) (i2 : P.underlying g2.type = some .string)
    (h : DataW.trod enc P W 0 (fun _ => true) true fuel tt [v] = some y) (hlt : ∀ x ∈ y.2, x.block < W.heap.size) :
    ∃ (A : Option Addr) (cap : Nat) (ts : List RTk), v = .slice A ts.length cap ∧ ts.length ≤ cap ∧ SliceLen y.1 ts.length ∧ (joinA ts).length ≤ Rows.uptoBulk y.1 ∧ (ts.length ≤ 1099511627776 → RdT W W.heap.size A ts) := by
  rcases open_slice hts h with ⟨hcs, hx⟩ | ⟨a, len, cap, m, n, D, Pl, hcs, _, hl, _, hmm, hx, hV⟩
  · simp at hcs
    subst hcs
    subst hx
    exact ⟨none, 0, [], rfl, Nat.le_refl _, .inl ⟨rfl, rfl⟩, Nat.zero_le _, fun _ => ⟨by simp, fun hn => by simp at hn⟩⟩
  · simp at hcs
    subst hcs
    have hlm : len ≤ m := by rw [hmm]; split <;> omega
    have hint : ∀ i, ∃ q : RTk, i < m → q.2.2.size + 1 ≤ Rows.uptoBulk (D i) ∧ (W.cell? (a.add (i * 3)) = some (.int .i64 q.1) ∧ W.cell? (a.add (i * 3 + 1)) = some (.int .i64 q.2.1) ∧ W.cell? (a.add (i * 3 + 2)) = some (.string q.2.2)) := fun i => by
      by_cases hi : i < m
      · obtain ⟨cs', h1, h2⟩ := hV i hi
        rw [ce] at h1
        obtain ⟨_, hlen, hcell⟩ := World.cells?_some h1
        obtain ⟨xs, k, hk, hD, _, hxl, hf⟩ := DataW.trod_struct hte h2
        match xs, hxl, cs', hlen with
        | [y0, y1, y2], _, [v0, v1, v2], _ =>
          have f0 := hf 0 g0 rfl
          have f1 := hf 1 g1 rfl
          have f2 := hf 2 g2 rfl
          simp [o0, o1, o2, c0, c1, c2] at f0 f1 f2
          obtain ⟨x0, e0, _, b0⟩ := DataW.trod_int i0 f0
          obtain ⟨x1, e1, _, b1⟩ := DataW.trod_int i1 f1
          obtain ⟨x2, e2, d2, b2⟩ := DataW.trod_string i2 f2
          simp at e0 e1 e2
          have p0 := hcell 0 (by omega)
          have p1 := hcell 1 (by omega)
          have p2 := hcell 2 (by omega)
          rw [add_add] at p0 p1 p2
          simp at p0 p1 p2
          rw [e0] at p0
          rw [e1] at p1
          rw [e2] at p2
          have hDi : D i = .agg [y0.1, y1.1, y2.1] := by
            have := congrArg Prod.fst hD
            simpa using this
          refine ⟨(x0, x1, x2), fun _ => ⟨?_, p0, p1, p2⟩⟩
          rw [hDi, d2]
          simp only [Rows.uptoBulk, Rows.uptoBulkAll]
          have e : x2.data.toList.length = x2.size := by simp
          omega
      · exact ⟨(0, 0, ByteArray.empty), fun h => absurd h hi⟩
    let ts : List RTk := (List.range len).map fun i => (hint i).choose
    have hlen : ts.length = len := by simp [ts]
    have htr : ∀ k, k < len → rtk ts k = (hint k).choose := fun k hk => by unfold rtk; simp [ts, List.getD, hk]
    refine ⟨some a, cap, ts, by rw [hlen], by omega, .inr ⟨_, _, by rw [hx], by simp [hlen]⟩, ?_, fun hroom => ⟨hroom, fun hn => ?_⟩⟩
    · have := joinB_len (fun i => (hint i).choose) D len fun k hk => ((hint k).choose_spec (by omega)).1
      rw [hx]
      simp only [Rows.uptoBulk]
      refine Nat.le_trans this ?_
      omega
    · rw [hlen] at hn ⊢
      obtain ⟨b, off, spot⟩ := a
      have hspot : spot = none := by simpa [Addr.add] using World.cell?_spot ((hint 0).choose_spec (by omega)).2.1
      subst hspot
      refine ⟨b, off, rfl, ?_, fun k hk => ?_⟩
      · have hmem : MemPlace.cell b off ∈ y.2 := by
          rw [hx, ce]
          exact List.mem_append_left _ (MemPlace.mem_row.2 ⟨0, by omega, by simp⟩)
        exact hlt _ hmem
      · have key : W.cell? ((⟨b, off, none⟩ : Addr).add (k * 3)) = some (.int .i64 (rtk ts k).1) ∧ W.cell? ((⟨b, off, none⟩ : Addr).add (k * 3 + 1)) = some (.int .i64 (rtk ts k).2.1) ∧ W.cell? ((⟨b, off, none⟩ : Addr).add (k * 3 + 2)) = some (.string (rtk ts k).2.2) := by
          rw [htr k hk]
          exact ((hint k).choose_spec (by omega)).2
        obtain ⟨h1, h2, h3⟩ := key
        rw [add_plain] at h1 h2 h3
        rw [← Nat.add_assoc] at h2 h3
        exact ⟨h1, h2, h3⟩
end Go.Proofs.YtfekcbkafiiieaaDoor
