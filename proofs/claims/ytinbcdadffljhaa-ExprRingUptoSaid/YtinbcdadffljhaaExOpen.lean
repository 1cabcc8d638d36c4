/-
  An expression, and a slice of bindings, that come in as arguments: what their reading as data says of memory. No condition.
-/
import Derived.Test.YtinbcdadffljhaaExNm
import Derived.Test.YtinbcdadffljhaaRows
import Derived.Test.YtinbcdadffljhaaBsBulk
import Derived.Test.YtinbcdadffljhaaTrMem
import Derived.ProofKit
import Derived.OpenShut
import Derived.Deep.Slices
import Derived.Lib.SmallJoins
namespace Go.Proofs.Ytinbcdadffljhaa
open Go.ChangeShapes Go.WideShapes Go.ChangeAt Go.RowKit Go.Deep Go.Joins

theorem inI_of {n : Int} (h : (Lit.int IntKind.i64 n).wf = true) : inI n := bounds_i64 h
theorem open_xp {H : Type} {enc : TypeId × Value → H} {P : Program} {W : World} {tt tk : TypeId} {f0 f1 f2 f3 : Field}
    (hT : P.underlying tt = some (.struct #[f0, f1, f2, f3])) (hC : P.cellsOf tt = 4) (o0 : f0.offset = 0) (o1 : f1.offset = 1) (o2 : f2.offset = 2) (o3 : f3.offset = 3)
    (i0 : P.underlying f0.type = some (.int .i64)) (c0 : P.cellsOf f0.type = 1) (i1 : P.underlying f1.type = some (.int .i64)) (c1 : P.cellsOf f1.type = 1)
    (i2 : P.underlying f2.type = some .string) (c2 : P.cellsOf f2.type = 1) (e3 : f3.type = tk) (hK : P.underlying tk = some (.slice tt)) (cK : P.cellsOf tk = 1) :
    ∀ (N n : Nat) (cs : List Value) (y : DataW H × List MemPlace), Rows.uptoBulk y.1 ≤ N → DataW.trod enc P W 0 (fun _ => true) true n tt cs = some y → (∀ x ∈ y.2, x.block < W.heap.size) →
      ∃ (T : Xp) (h : Eh), cs = h.cells.toList ∧ EIn W W.heap.size T h ∧ T.nl ≤ Rows.uptoBulk y.1 := by
  intro N
  induction N using Nat.strongRecOn with
  | _ N ih =>
    intro n cs y hN h hlt
    obtain ⟨xs, m, rfl, rfl, hl, hlen, hf⟩ := DataW.trod_struct hT h
    rw [hC] at hl
    match xs, hlen, cs, hl with
    | [y0, y1, y2, y3], _, [v0, v1, v2, v3], _ =>
      have g0 := hf 0 f0 rfl
      have g1 := hf 1 f1 rfl
      have g2 := hf 2 f2 rfl
      have g3 := hf 3 f3 rfl
      simp [o0, o1, o2, o3, c0, c1, c2, e3, cK] at g0 g1 g2 g3
      obtain ⟨k, hv0, rfl, hk0⟩ := DataW.trod_int i0 g0
      obtain ⟨z, hv1, rfl, hz0⟩ := DataW.trod_int i1 g1
      obtain ⟨s, hv2, rfl, hsl⟩ := DataW.trod_string i2 g2
      simp at hv0 hv1 hv2
      subst hv0 hv1 hv2
      have hz := inI_of hz0
      rcases open_slice hK g3 with ⟨hcs, rfl⟩ | ⟨a, len, cap, mm, nn, D, Pl, hcs, _, hle, hm, hmm, rfl, hx⟩
      · simp at hcs
        subst hcs
        by_cases hk : k = 1
        · subst hk
          exact ⟨.num z, ⟨1, z, s, none, 0, 0⟩, rfl, ⟨rfl, rfl, hz⟩, Nat.zero_le _⟩
        · by_cases hk2 : k = 2
          · subst hk2
            exact ⟨.nam s, ⟨2, z, s, none, 0, 0⟩, rfl, ⟨rfl, rfl, hsl⟩, bulk_pos _⟩
          · exact ⟨.nul, ⟨k, z, s, none, 0, 0⟩, rfl, ⟨hk, hk2, by unfold Eh.two; simp⟩, Nat.zero_le _⟩
      · simp at hcs
        subst hcs
        by_cases hk : k = 1
        · subst hk
          exact ⟨.num z, ⟨1, z, s, some a, len, cap⟩, rfl, ⟨rfl, rfl, hz⟩, Nat.zero_le _⟩
        · by_cases hk2 : k = 2
          · subst hk2
            exact ⟨.nam s, ⟨2, z, s, some a, len, cap⟩, rfl, ⟨rfl, rfl, hsl⟩, bulk_pos _⟩
          · by_cases h2 : (Eh.mk k z s (some a) len cap).two = true
            · have h2' := h2
              unfold Eh.two at h2'
              simp only [Bool.and_eq_true, decide_eq_true_eq] at h2'
              obtain ⟨⟨k3, k9⟩, hlen2⟩ := h2'
              have hlm : len ≤ mm := by rw [hmm]; split <;> omega
              obtain ⟨cs0, hc0, ht0⟩ := hx 0 (by omega)
              obtain ⟨cs1, hc1, ht1⟩ := hx 1 (by omega)
              obtain ⟨rest, hrest⟩ : ∃ rest, (List.range len).map D = D 0 :: D 1 :: rest := by
                obtain ⟨j, rfl⟩ : ∃ j, len = j + 2 := ⟨len - 2, by omega⟩
                refine ⟨(List.range j).map (D ∘ Nat.succ ∘ Nat.succ), ?_⟩
                rw [List.range_succ_eq_map, List.range_succ_eq_map]
                simp
              have hbulk : ∀ d0 d1 d2 sp, Rows.uptoBulk (D 0) + Rows.uptoBulk (D 1) + 1 ≤ Rows.uptoBulk (DataW.agg [d0, d1, d2, (DataW.slice ((List.range len).map D) sp : DataW H)]) := fun d0 d1 d2 sp => by
                simp only [Rows.uptoBulk, Rows.uptoBulkAll, hrest]
                omega
              have hb2 := hbulk (.lit (.int .i64 k)) (.lit (.int .i64 z)) (.lit (.string s.data.toList)) ((List.range (mm - len)).map fun j => D (len + j))
              have hbN : Rows.uptoBulk (D 0) + Rows.uptoBulk (D 1) + 1 ≤ N := Nat.le_trans hb2 hN
              have hlt0 : ∀ z ∈ Pl 0, z.block < W.heap.size := fun z hz => hlt z (by simp; first | exact .inr (.inr ⟨0, by omega, hz⟩) | exact .inr ⟨0, by omega, hz⟩)
              have hlt1 : ∀ z ∈ Pl 1, z.block < W.heap.size := fun z hz => hlt z (by simp; first | exact .inr (.inr ⟨1, by omega, hz⟩) | exact .inr ⟨1, by omega, hz⟩)
              obtain ⟨T0, h0, rfl, hT0, hs0⟩ := ih (Rows.uptoBulk (D 0)) (by omega) nn cs0 (D 0, Pl 0) (Nat.le_refl _) ht0 hlt0
              obtain ⟨T1, h1, rfl, hT1, hs1⟩ := ih (Rows.uptoBulk (D 1)) (by omega) nn cs1 (D 1, Pl 1) (Nat.le_refl _) ht1 hlt1
              rw [hC] at hc0 hc1
              obtain ⟨_, _, hcell0⟩ := World.cells?_some hc0
              obtain ⟨_, _, hcell1⟩ := World.cells?_some hc1
              obtain ⟨b, off, spot⟩ := a
              have hspot : spot = none := by
                have := hcell0 0 (by omega)
                simpa [Addr.add] using World.cell?_spot this
              subst hspot
              have hb : b < W.heap.size := World.block_lt_of_cell? _ _ (hcell0 0 (by omega))
              have at0 : EhAt W b off h0 := by
                refine ⟨?_, ?_, ?_, ?_⟩
                · simpa [add_plain, Eh.cells] using hcell0 0 (by omega)
                · simpa [add_plain, Eh.cells] using hcell0 1 (by omega)
                · simpa [add_plain, Eh.cells] using hcell0 2 (by omega)
                · simpa [add_plain, Eh.cells] using hcell0 3 (by omega)
              have at1 : EhAt W b (off + 4) h1 := by
                refine ⟨?_, ?_, ?_, ?_⟩
                · simpa [add_plain, Eh.cells] using hcell1 0 (by omega)
                · simpa [add_plain, Eh.cells] using hcell1 1 (by omega)
                · simpa [add_plain, Eh.cells] using hcell1 2 (by omega)
                · simpa [add_plain, Eh.cells] using hcell1 3 (by omega)
              refine ⟨.op k T0 T1, ⟨k, z, s, some ⟨b, off, none⟩, len, cap⟩, rfl, ⟨rfl, k3, k9, hlen2, b, off, h0, h1, rfl, hb, at0, at1, hT0, hT1⟩, Nat.le_trans ?_ hb2⟩
              dsimp only at hs0 hs1
              show T0.nl + T1.nl ≤ _
              omega
            · have h2f : (Eh.mk k z s (some a) len cap).two = false := by simpa using h2
              exact ⟨.nul, ⟨k, z, s, some a, len, cap⟩, rfl, ⟨hk, hk2, h2f⟩, Nat.zero_le _⟩

/-- a binding, opened -/
theorem open_bind {H : Type} {enc : TypeId × Value → H} {P : Program} {W : World} {te : TypeId} {g0 g1 : Field} {fuel : Nat} {cs : List Value} {y : DataW H × List MemPlace}
    (hte : P.underlying te = some (.struct #[g0, g1])) (o0 : g0.offset = 0) (o1 : g1.offset = 1) (c0 : P.cellsOf g0.type = 1) (c1 : P.cellsOf g1.type = 1)
    (i0 : P.underlying g0.type = some .string) (i1 : P.underlying g1.type = some (.int .i64)) (ce : P.cellsOf te = 2)
    (h : DataW.trod enc P W 0 (fun _ => true) true fuel te cs = some y) : ∃ (s : ByteArray) (x : Int), cs = (#[.string s, .int .i64 x] : Array Value).toList ∧ inI x ∧ s.size ≤ maxLen := by
  obtain ⟨xs, k, _, _, hl, hxl, hf⟩ := DataW.trod_struct hte h
  rw [ce] at hl
  match xs, hxl, cs, hl with
  | [y0, y1], _, [v0, v1], _ =>
    have f0 := hf 0 g0 rfl
    have f1 := hf 1 g1 rfl
    simp [o0, o1, c0, c1] at f0 f1
    obtain ⟨x0, e0, _, b0⟩ := DataW.trod_string i0 f0
    obtain ⟨x1, e1, _, b1⟩ := DataW.trod_int i1 f1
    simp at e0 e1
    subst e0 e1
    exact ⟨x0, x1, rfl, inI_of b1, b0⟩
/-- two cells of a binding -/
theorem bind_of {W : World} {b off k : Nat} {q : ByteArray × Int} (h : W.cell? ((⟨b, off, none⟩ : Addr).add (k * 2)) = some (.string q.1) ∧ W.cell? ((⟨b, off, none⟩ : Addr).add (k * 2 + 1)) = some (.int .i64 q.2)) : W.cell? ⟨b, off + k * 2, none⟩ = some (.string q.1) ∧ W.cell? ⟨b, off + k * 2 + 1, none⟩ = some (.int .i64 q.2) := by
  obtain ⟨h1, h2⟩ := h
  rw [add_plain] at h1 h2
  rw [← Nat.add_assoc] at h2
  exact ⟨h1, h2⟩
/-- a slice of bindings, opened -/
theorem open_binds {H : Type} {enc : TypeId × Value → H} {P : Program} {W : World} {tt te : TypeId} {g0 g1 : Field} {fuel : Nat} {v : Value} {y : DataW H × List MemPlace}
    (hts : P.underlying tt = some (.slice te)) (hte : P.underlying te = some (.struct #[g0, g1])) (ce : P.cellsOf te = 2) (o0 : g0.offset = 0) (o1 : g1.offset = 1) (c0 : P.cellsOf g0.type = 1) (c1 : P.cellsOf g1.type = 1)
    (i0 : P.underlying g0.type = some .string) (i1 : P.underlying g1.type = some (.int .i64))
    (h : DataW.trod enc P W 0 (fun _ => true) true fuel tt [v] = some y) (hlt : ∀ x ∈ y.2, x.block < W.heap.size) :
    ∃ (A : Option Addr) (cap : Nat) (ts : List (ByteArray × Int)), v = .slice A ts.length cap ∧ ts.length ≤ cap ∧ SliceLen y.1 ts.length ∧ (ts.length ≤ 1099511627776 → RdB W W.heap.size A ts) := by
  rcases open_slice hts h with ⟨hcs, hx⟩ | ⟨a, len, cap, m, n, D, Pl, hcs, _, hl, _, hmm, hx, hV⟩
  · simp at hcs
    subst hcs
    subst hx
    exact ⟨none, 0, [], rfl, Nat.le_refl _, .inl ⟨rfl, rfl⟩, fun _ => RdB.nil W⟩
  · simp at hcs
    subst hcs
    have hlm : len ≤ m := by rw [hmm]; split <;> omega
    have hint : ∀ i, ∃ q : ByteArray × Int, i < m → (inI q.2 ∧ q.1.size ≤ maxLen) ∧ (W.cell? (a.add (i * 2)) = some (.string q.1) ∧ W.cell? (a.add (i * 2 + 1)) = some (.int .i64 q.2)) := fun i => by
      by_cases hi : i < m
      · obtain ⟨cs', h1, h2⟩ := hV i hi
        rw [ce] at h1
        obtain ⟨_, hlen, hcell⟩ := World.cells?_some h1
        obtain ⟨xs, k, _, _, _, hxl, hf⟩ := DataW.trod_struct hte h2
        match xs, hxl, cs', hlen with
        | [y0, y1], _, [v0, v1], _ =>
          have f0 := hf 0 g0 rfl
          have f1 := hf 1 g1 rfl
          simp [o0, o1, c0, c1] at f0 f1
          obtain ⟨x0, e0, _, b0⟩ := DataW.trod_string i0 f0
          obtain ⟨x1, e1, _, b1⟩ := DataW.trod_int i1 f1
          simp at e0 e1
          have p0 := hcell 0 (by omega)
          have p1 := hcell 1 (by omega)
          rw [add_add] at p0 p1
          simp at p0 p1
          rw [e0] at p0
          rw [e1] at p1
          exact ⟨(x0, x1), fun _ => ⟨⟨inI_of b1, b0⟩, p0, p1⟩⟩
      · exact ⟨(ByteArray.empty, 0), fun h => absurd h hi⟩
    let ts : List (ByteArray × Int) := (List.range len).map fun i => (hint i).choose
    have hlen : ts.length = len := by simp [ts]
    have htr : ∀ k, k < len → bd ts k = (hint k).choose := fun k hk => by unfold bd; simp [ts, List.getD, hk]
    refine ⟨some a, cap, ts, by rw [hlen], by omega, .inr ⟨_, _, by rw [hx], by simp [hlen]⟩, fun hroom => ⟨fun q hq => ?_, hroom, fun hn => ?_, fun q hq => ?_⟩⟩
    · obtain ⟨i, hi, rfl⟩ := List.mem_map.1 hq
      exact ((hint i).choose_spec (by have := List.mem_range.1 hi; omega)).1.1
    · rw [hlen] at hn ⊢
      obtain ⟨b, off, spot⟩ := a
      have hspot : spot = none := by simpa [Addr.add] using World.cell?_spot ((hint 0).choose_spec (by omega)).2.1
      subst hspot
      refine ⟨b, off, rfl, ?_, fun k hk => ?_⟩
      · have hmem : MemPlace.cell b off ∈ y.2 := by
          rw [hx, ce]
          exact List.mem_append_left _ (MemPlace.mem_row.2 ⟨0, by omega, by simp⟩)
        exact hlt _ hmem
      · rw [htr k hk]
        exact bind_of ((hint k).choose_spec (by omega)).2
    · obtain ⟨i, hi, rfl⟩ := List.mem_map.1 hq
      exact ((hint i).choose_spec (by have := List.mem_range.1 hi; omega)).1.2
end Go.Proofs.Ytinbcdadffljhaa
