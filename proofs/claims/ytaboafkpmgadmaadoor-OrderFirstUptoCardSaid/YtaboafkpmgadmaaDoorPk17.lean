/-
  A slice of words, and a slice of ints, that comes in as an argument: what its reading as data says of memory. No condition.
  What the second form's bound says of the length of a slice that comes in.
  A graph that comes in as an argument: what its reading as data says of memory. No condition.
  GraphLeast: without an edge of the core what it led to does not follow; an edge of the core is an edge. Plain lemmas.
-/
import Derived.Test.YtaboafkpmgadmaaDoorPk00
import Derived.ProofKit
import Derived.OpenShut
import Derived.Test.YtaboafkpmgadmaaDoorRows
import Derived.Test.YtaboafkpmgadmaaDoorPk02
import Derived.Deep.SlicePairs
import Derived.Lib.SmallJoins
import Derived.Test.YtaboafkpmgadmaaDoorPk10
namespace Go.Proofs.YtaboafkpmgadmaaDoor
open Go.ChangeShapes Go.WideShapes Go.ChangeAt Go.RowKit

/-- what an argument's datum looks like -/
def SliceLen {H : Type} (d : DataW H) (n : Nat) : Prop := (d = .nil ∧ n = 0) ∨ ∃ elems spare, d = .slice elems spare ∧ elems.length = n

theorem open_words {H : Type} {enc : TypeId × Value → H} {P : Program} {W : World} {tt te : TypeId} (hts : P.underlying tt = some (.slice te)) (hte : P.underlying te = some (.int .u64)) (hc : P.cellsOf te = 1)
    {a0 : Option Addr} {len cap : Nat} {d : DataW H} {p : List MemPlace} (h : DataW.Trod enc P W 0 (fun _ => true) true tt (.slice a0 len cap) d p) (hlt : ∀ x ∈ p, x.block < W.heap.size) :
    ∃ xs : List Nat, xs.length = len ∧ (∀ k, wd xs k < 18446744073709551616) ∧ Rd W W.heap.size a0 len (fun k => .int .u64 (wd xs k : Int)) ∧ SliceLen d len := by
  obtain ⟨fuel, hf⟩ := h
  rcases open_ints hts hte hc hf with ⟨hcs, hx⟩ | ⟨a, len', cap', zs, hcs, _, hl, hm, hz, hx, hcell, hwz⟩
  · simp [Value.cells] at hcs
    obtain ⟨rfl, rfl, rfl⟩ := hcs
    simp only [Prod.mk.injEq] at hx
    obtain ⟨rfl, rfl⟩ := hx
    exact ⟨[], rfl, fun k => by simp [wd], fun hn => absurd hn (by omega), .inl ⟨rfl, rfl⟩⟩
  · simp [Value.cells] at hcs
    obtain ⟨rfl, rfl, rfl⟩ := hcs
    simp only [Prod.mk.injEq] at hx
    obtain ⟨rfl, rfl⟩ := hx
    simp only [if_true] at hz
    have hb : ∀ k, 0 ≤ zs.getD k 0 ∧ zs.getD k 0 ≤ 18446744073709551615 := fun k => by
      have := range_u64 hwz k
      simpa [List.getD] using this
    have hwd : ∀ k, wd ((zs.take len).map Int.toNat) k = if k < len then (zs.getD k 0).toNat else 0 := fun k => by
      unfold wd
      by_cases hk : k < len
      · simp [List.getD, hk, show k < zs.length by omega]
      · rw [if_neg hk]; simp only [List.getD]; rw [List.getElem?_eq_none (by simp; omega)]; rfl
    refine ⟨(zs.take len).map Int.toNat, by simp; omega, fun k => ?_, fun hn => ?_, .inr ⟨_, _, rfl, by simp [lits]; omega⟩⟩
    · rw [hwd]; split
      · have := hb k; omega
      · omega
    · obtain ⟨b, off, spot⟩ := a
      have hspot : spot = none := by simpa [Addr.add] using World.cell?_spot (hcell 0 (by omega))
      subst hspot
      refine ⟨b, off, rfl, hlt (.cell b off) (MemPlace.mem_row.2 ⟨0, by omega, by simp⟩), fun k hk => ?_⟩
      have h1 := hcell k (by omega)
      rw [add_plain] at h1
      show _ = some (Value.int .u64 (wd ((zs.take len).map Int.toNat) k : Int))
      rw [h1, hwd, if_pos hk]
      have := hb k
      have e : (((zs.getD k 0).toNat : Nat) : Int) = zs.getD k 0 := by omega
      rw [e]

theorem open_nums {H : Type} {enc : TypeId × Value → H} {P : Program} {W : World} {tt te : TypeId} (hts : P.underlying tt = some (.slice te)) (hte : P.underlying te = some (.int .i64)) (hc : P.cellsOf te = 1)
    {a0 : Option Addr} {len cap : Nat} {d : DataW H} {p : List MemPlace} (h : DataW.Trod enc P W 0 (fun _ => true) true tt (.slice a0 len cap) d p) (hlt : ∀ x ∈ p, x.block < W.heap.size) :
    ∃ xs : List Int, xs.length = len ∧ (∀ k, -9223372036854775808 ≤ zd xs k) ∧ (∀ k, zd xs k ≤ 9223372036854775807) ∧ Rd W W.heap.size a0 len (fun k => .int .i64 (zd xs k)) ∧ SliceLen d len := by
  obtain ⟨fuel, hf⟩ := h
  rcases open_ints hts hte hc hf with ⟨hcs, hx⟩ | ⟨a, len', cap', zs, hcs, _, hl, hm, hz, hx, hcell, hwz⟩
  · simp [Value.cells] at hcs
    obtain ⟨rfl, rfl, rfl⟩ := hcs
    simp only [Prod.mk.injEq] at hx
    obtain ⟨rfl, rfl⟩ := hx
    exact ⟨[], rfl, fun k => by simp [zd], fun k => by simp [zd], fun hn => absurd hn (by omega), .inl ⟨rfl, rfl⟩⟩
  · simp [Value.cells] at hcs
    obtain ⟨rfl, rfl, rfl⟩ := hcs
    simp only [Prod.mk.injEq] at hx
    obtain ⟨rfl, rfl⟩ := hx
    simp only [if_true] at hz
    have hwd : ∀ k, zd (zs.take len) k = if k < len then zs.getD k 0 else 0 := fun k => by
      unfold zd
      by_cases hk : k < len
      · simp [List.getD, hk]
      · rw [if_neg hk]; simp only [List.getD]; rw [List.getElem?_eq_none (by simp; omega)]; rfl
    have hb : ∀ k, -9223372036854775808 ≤ zs.getD k 0 ∧ zs.getD k 0 ≤ 9223372036854775807 := fun k => by
      have := range_i64 hwz k
      simpa [List.getD] using this
    refine ⟨zs.take len, by simp; omega, fun k => ?_, fun k => ?_, fun hn => ?_, .inr ⟨_, _, rfl, by simp [lits]; omega⟩⟩
    · rw [hwd]; split
      · exact (hb k).1
      · omega
    · rw [hwd]; split
      · exact (hb k).2
      · omega
    · obtain ⟨b, off, spot⟩ := a
      have hspot : spot = none := by simpa [Addr.add] using World.cell?_spot (hcell 0 (by omega))
      subst hspot
      refine ⟨b, off, rfl, hlt (.cell b off) (MemPlace.mem_row.2 ⟨0, by omega, by simp⟩), fun k hk => ?_⟩
      have h1 := hcell k (by omega)
      rw [add_plain] at h1
      show _ = some (Value.int .i64 (zd (zs.take len) k))
      rw [h1, hwd, if_pos hk]

end Go.Proofs.YtaboafkpmgadmaaDoor

namespace Go.Proofs.YtaboafkpmgadmaaDoor

theorem bulk_pos {H : Type} (d : DataW H) : 1 ≤ Rows.uptoBulk d := by
  cases d with
  | lit l => cases l <;> simp [Rows.uptoBulk]
  | _ => simp [Rows.uptoBulk]
theorem bulk_len {H : Type} (l : List (DataW H)) : l.length ≤ Rows.uptoBulkAll l := by
  induction l with
  | nil => simp
  | cons d r ih =>
    have := bulk_pos d
    simp only [Rows.uptoBulkAll, List.length_cons]
    omega
theorem bulk_slice {H : Type} {d : DataW H} {n : Nat} (h : SliceLen d n) : n ≤ Rows.uptoBulk d := by
  rcases h with ⟨rfl, rfl⟩ | ⟨elems, spare, rfl, rfl⟩
  · omega
  · have := bulk_len elems
    simp only [Rows.uptoBulk]
    omega
theorem small_le {H : Type} {l : List (DataW H)} (hk : Rows.uptoSmall H l = true) : Rows.uptoBulkAll l ≤ 1048576 := of_decide_eq_true hk

end Go.Proofs.YtaboafkpmgadmaaDoor

namespace Go.Proofs.YtaboafkpmgadmaaDoor
open Go.ChangeShapes Go.WideShapes Go.ChangeAt Go.RowKit Go.Deep Go.Joins

/-- a slice of pairs of ints -/
theorem open_edges {H : Type} {enc : TypeId × Value → H} {P : Program} {W : World} {tt te : TypeId} {g0 g1 : Field} {fuel : Nat} {v : Value} {y : DataW H × List MemPlace}
    (hts : P.underlying tt = some (.slice te)) (hte : P.underlying te = some (.struct #[g0, g1])) (ce : P.cellsOf te = 2) (o0 : g0.offset = 0) (o1 : g1.offset = 1) (c0 : P.cellsOf g0.type = 1) (c1 : P.cellsOf g1.type = 1)
    (i0 : P.underlying g0.type = some (.int .i64)) (i1 : P.underlying g1.type = some (.int .i64))
    (h : DataW.trod enc P W 0 (fun _ => true) true fuel tt [v] = some y) (hlt : ∀ x ∈ y.2, x.block < W.heap.size) :
    ∃ (A : Option Addr) (cap : Nat) (es : List (Int × Int)), v = .slice A es.length cap ∧ SliceLen y.1 es.length ∧ (es.length ≤ 1099511627776 → RdE W W.heap.size A es) := by
  rcases open_slice_pairs hts hte ce o0 o1 c0 c1 h with ⟨hcs, hx⟩ | ⟨a, len, cap, m, n, V0, V1, D0, D1, P0, P1, hcs, _, hl, hm, hmm, hx, hV⟩
  · simp at hcs
    subst hcs
    subst hx
    exact ⟨none, 0, [], rfl, .inl ⟨rfl, rfl⟩, fun _ => ⟨fun k => by simp [ed], fun k => by simp [ed], fun k => by simp [ed], fun k => by simp [ed], by simp, fun hn => by simp at hn⟩⟩
  · simp at hcs
    subst hcs
    have hlm : len ≤ m := by rw [hmm]; split <;> omega
    have hint : ∀ i, ∃ q : Int × Int, i < m → V0 i = .int .i64 q.1 ∧ V1 i = .int .i64 q.2 ∧ (-9223372036854775808 ≤ q.1 ∧ q.1 ≤ 9223372036854775807) ∧ (-9223372036854775808 ≤ q.2 ∧ q.2 ≤ 9223372036854775807) := fun i => by
      by_cases hi : i < m
      · obtain ⟨_, _, h3, h4⟩ := hV i hi
        obtain ⟨x, e0, _, w0⟩ := DataW.trod_int i0 h3
        obtain ⟨x', e1, _, w1⟩ := DataW.trod_int i1 h4
        simp at e0 e1
        exact ⟨(x, x'), fun _ => ⟨e0, e1, bounds_i64 w0, bounds_i64 w1⟩⟩
      · exact ⟨(0, 0), fun h => absurd h hi⟩
    let es : List (Int × Int) := (List.range len).map fun i => (hint i).choose
    have hlen : es.length = len := by simp [es]
    have hed : ∀ k, k < len → ed es k = (hint k).choose := fun k hk => by unfold ed; simp [es, List.getD, hk]
    have hout : ∀ k, len ≤ k → ed es k = (0, 0) := fun k hk => by unfold ed; simp [es, List.getD, hk]
    have hall : ∀ k, (-9223372036854775808 ≤ (ed es k).1 ∧ (ed es k).1 ≤ 9223372036854775807) ∧ (-9223372036854775808 ≤ (ed es k).2 ∧ (ed es k).2 ≤ 9223372036854775807) := fun k => by
      rcases Nat.lt_or_ge k len with hk | hk
      · rw [hed k hk]; exact ((hint k).choose_spec (by omega)).2.2
      · rw [hout k hk]; simp
    refine ⟨some a, cap, es, by rw [hlen], .inr ⟨_, _, by rw [hx], by simp [hlen]⟩, fun hroom => ⟨fun k => (hall k).1.1, fun k => (hall k).1.2, fun k => (hall k).2.1, fun k => (hall k).2.2, hroom, fun hn => ?_⟩⟩
    rw [hlen] at hn ⊢
    obtain ⟨b, off, spot⟩ := a
    have hspot : spot = none := by simpa [Addr.add] using World.cell?_spot (hV 0 (by omega)).1
    subst hspot
    refine ⟨b, off, rfl, ?_, fun k hk => ?_⟩
    · have hmem : MemPlace.cell b off ∈ y.2 := by
        rw [hx]
        exact List.mem_append_left _ (MemPlace.mem_row.2 ⟨0, by omega, by simp⟩)
      exact hlt _ hmem
    · obtain ⟨h1, h2, _, _⟩ := hV k (by omega)
      rw [add_plain] at h1 h2
      rw [← Nat.add_assoc] at h2
      have hs := (hint k).choose_spec (by omega)
      rw [hed k hk]
      exact ⟨h1.trans (congrArg some hs.1), h2.trans (congrArg some hs.2.1)⟩

/-- a graph -/
theorem open_graph {H : Type} {enc : TypeId × Value → H} {P : Program} {W : World} {r : Reach} {b0 : Nat} {tg te : TypeId} {f0 f1 g0 g1 : Field} {v : Value} {d : DataW H} {p : List MemPlace}
    (htg : P.underlying tg = some (.struct #[f0, f1])) (hone : oneCellFields P #[f0, f1] = true) (hC : P.cellsOf tg = 2) (hf0 : P.underlying f0.type = some (.int .i64)) (hts : P.underlying f1.type = some (.slice te))
    (hte : P.underlying te = some (.struct #[g0, g1])) (ce : P.cellsOf te = 2) (o0 : g0.offset = 0) (o1 : g1.offset = 1) (c0 : P.cellsOf g0.type = 1) (c1 : P.cellsOf g1.type = 1)
    (i0 : P.underlying g0.type = some (.int .i64)) (i1 : P.underlying g1.type = some (.int .i64))
    (hv : Value.okWide P W r b0 tg v) (h : DataW.Trod enc P W 0 (fun _ => true) true tg v d p) (hlt : ∀ x ∈ p, x.block < W.heap.size) :
    ∃ (N : Int) (A : Option Addr) (cap : Nat) (es : List (Int × Int)) (d0 d1 : DataW H), v = .agg #[.int .i64 N, .slice A es.length cap] ∧ d = .agg [d0, d1] ∧ SliceLen d1 es.length ∧ (es.length ≤ 1099511627776 → RdE W W.heap.size A es) := by
  obtain ⟨v0, v1, y0, y1, n, rfl, rfl, rfl, h0, h1⟩ := open_agg2 htg hone hC hv h
  obtain ⟨N, e0, _, _⟩ := DataW.trod_int hf0 h0
  simp at e0
  subst e0
  obtain ⟨A, cap, es, rfl, hs, hr⟩ := open_edges hts hte ce o0 o1 c0 c1 i0 i1 h1 (fun x hx => hlt x (List.mem_append_right _ hx))
  exact ⟨N, A, cap, es, y0.1, y1.1, rfl, rfl, hs, hr⟩
end Go.Proofs.YtaboafkpmgadmaaDoor

namespace Go.Proofs.YtaboafkpmgadmaaDoor
open Go.RowKit

/-- all but place k -/
def lss (es : List (Int × Int)) (k : Nat) : List (Int × Int) := es.take k ++ es.drop (k + 1)
theorem lss_len {es : List (Int × Int)} {k : Nat} (h : k < es.length) : (lss es k).length = es.length - 1 := by
  unfold lss; simp; omega
theorem lss_sub {es : List (Int × Int)} {k : Nat} {e : Int × Int} (h : e ∈ lss es k) : e ∈ es := by
  unfold lss at h
  rcases List.mem_append.1 h with h | h
  · exact List.mem_of_mem_take h
  · exact List.mem_of_mem_drop h
theorem elist_nodup (xss : List (List Nat)) : ∀ m, (elist xss m).Nodup
  | 0 => by simp [elist]
  | m + 1 => by
    rw [elist_succ, List.nodup_append]
    refine ⟨elist_nodup xss m, ?_, ?_⟩
    · unfold List.Nodup
      rw [List.pairwise_map]
      exact (mem_nodup (st xss m)).imp fun h e => by injection e with _ e; exact h e
    · intro a ha b hb e
      subst e
      obtain ⟨j, _, rfl⟩ := List.mem_map.1 hb
      have := (mem_elist.1 ha).1
      omega
theorem elist_len_le {xss : List (List Nat)} {m : Nat} (hb : ∀ k, k < m → ∀ j, bitB (st xss k) j = true → j < m) : ∀ k, k ≤ m → (elist xss k).length ≤ k * m
  | 0, _ => by simp [elist]
  | k + 1, h => by
    have h1 := elist_len_le hb k (by omega)
    have h2 := nodup_le m _ (mem_nodup (st xss k)) fun x hx => hb k (by omega) x (mem_iff.1 hx)
    rw [elist_succ, List.length_append, List.length_map, Nat.succ_mul]
    omega
theorem cor_len {m : Nat} {es : List (Int × Int)} (h : inR m es = true) : (elist (cors m es) m).length ≤ 40000 := by
  have h1 := elist_len_le (cors_bits h) m (Nat.le_refl _)
  have h2 := Nat.mul_le_mul (show m ≤ 200 by have := okN_of h; omega) (show m ≤ 200 by have := okN_of h; omega)
  omega
theorem elI_nodup {l : List (Nat × Nat)} (h : l.Nodup) : (elI l).Nodup := by
  unfold elI List.Nodup
  rw [List.pairwise_map]
  refine h.imp fun {a b} hne e => hne ?_
  injection e with e1 e2
  obtain ⟨a1, a2⟩ := a
  obtain ⟨b1, b2⟩ := b
  dsimp only at e1 e2
  rw [show a1 = b1 by omega, show a2 = b2 by omega]
theorem lss_out {es : List (Int × Int)} (h : es.Nodup) {k : Nat} (hk : k < es.length) : ed es k ∉ lss es k := by
  have e0 : es = es.take k ++ ed es k :: es.drop (k + 1) := by
    have h1 := (List.take_append_drop k es).symm
    rw [List.drop_eq_getElem_cons hk] at h1
    have h2 : ed es k = es[k] := by unfold ed; simp [List.getD, hk]
    rw [h2]
    exact h1
  rw [e0, List.nodup_append] at h
  obtain ⟨_, h2, h3⟩ := h
  rw [List.nodup_cons] at h2
  unfold lss
  intro hm
  rcases List.mem_append.1 hm with hm | hm
  · exact h3 _ hm _ (List.mem_cons_self ..) rfl
  · exact h2.1 hm

theorem core_edge {m : Nat} {es : List (Int × Int)} (h : inR m es = true) {i j : Nat} (he : gR (elI (elist (cors m es) m)) i j = true) :
    fw (gR es) m i j = true ∧ ∀ c, ¬ (fw (gR es) m i c = true ∧ fw (gR es) m c j = true) := by
  obtain ⟨hi, hb⟩ := (gR_elist _ _ _ _).1 he
  rw [st_cors _ hi, corS_bit h, Bool.and_eq_true, Bool.not_eq_true', ← Bool.not_eq_true, List.any_eq_true] at hb
  refine ⟨hb.1, fun c hc => hb.2 ⟨c, List.mem_range.2 (fw_lt h hc.1).2, ?_⟩⟩
  rw [hc.1, hc.2]
  rfl
theorem corG_of {m : Nat} {es : List (Int × Int)} (h : inR m es = true) (hfull : (ordr m es).length = m) : corG m es = elI (elist (cors m es) m) := by
  unfold corG; rw [if_pos (errn_ok h hfull), Int.toNat_natCast]
/-- an edge of the core: its ends, that it is an edge, and that no way is left without it -/
theorem least_all {m : Nat} {es : List (Int × Int)} (h : inR m es = true) (hfull : (ordr m es).length = m) {k : Nat} (hk : k < (corG m es).length) :
    ∃ i j : Nat, ed (corG m es) k = ((i : Int), (j : Int)) ∧ i < m ∧ j < m ∧ ((i : Int), (j : Int)) ∈ es ∧ errn m (lss (corG m es) k) = 0 ∧ bitB (beh m (lss (corG m es) k) i) j = false := by
  have hm := okN_of h
  have hcor := corG_of h hfull
  have hin2 : inR m (corG m es) = true := by rw [hcor]; exact inR_elist (by omega) (cors_bits h)
  have hme := ed_mem _ _ hk
  obtain ⟨⟨a, b⟩, he⟩ : ∃ e, e = ed (corG m es) k := ⟨_, rfl⟩
  rw [← he] at hme
  have hab := edge_in hin2 hme
  obtain ⟨i, rfl⟩ : ∃ i : Nat, a = (i : Int) := ⟨a.toNat, by omega⟩
  obtain ⟨j, rfl⟩ : ∃ j : Nat, b = (j : Int) := ⟨b.toNat, by omega⟩
  have hg : gR (elI (elist (cors m es) m)) i j = true := by rw [← hcor]; exact decide_eq_true hme
  obtain ⟨h1, h2⟩ := core_edge h hg
  have hsub : ∀ x y, gR (lss (corG m es) k) x y = true → gR (elI (elist (cors m es) m)) x y = true := fun x y hxy => by
    rw [← hcor]
    exact decide_eq_true (lss_sub (of_decide_eq_true hxy))
  have hinl : inR m (lss (corG m es) k) = true := by
    unfold inR at hin2 ⊢
    rw [Bool.and_eq_true] at hin2 ⊢
    refine ⟨hin2.1, ?_⟩
    rw [List.all_eq_true]
    exact fun e he => List.all_eq_true.1 hin2.2 e (lss_sub he)
  have hways : ∀ x y, Path (gR (lss (corG m es) k)) x y → fw (gR es) m x y = true := fun x y p => by
    rw [fw_iff (gR_lt h)]
    exact p.into fun x y hxy => (fw_iff (gR_lt h) x y).1 (core_edge h (hsub x y hxy)).1
  have hirr := fw_irr h hfull
  have hfl : (ordr m (lss (corG m es) k)).length = m := (topo_iff (gR_lt hinl)).2 fun x p => by
    have := hways x x p
    rw [hirr] at this
    cases this
  refine ⟨i, j, he.symm, by omega, by omega, ?_, errn_ok hinl hfl, ?_⟩
  · rcases (fw_next h i j).1 h1 with e | ⟨c, e, hf⟩
    · exact of_decide_eq_true e
    · exact absurd ⟨(fw_next h i c).2 (.inl e), hf⟩ (h2 c)
  · rw [← Bool.not_eq_true, beh_bit hinl, fw_iff (gR_lt hinl)]
    intro p
    cases p with
    | one e =>
      have h3 := of_decide_eq_true e
      rw [he] at h3
      refine lss_out ?_ hk h3
      rw [hcor]
      exact elI_nodup (elist_nodup _ _)
    | step e p => exact h2 _ ⟨(core_edge h (hsub _ _ e)).1, hways _ _ p⟩
end Go.Proofs.YtaboafkpmgadmaaDoor
