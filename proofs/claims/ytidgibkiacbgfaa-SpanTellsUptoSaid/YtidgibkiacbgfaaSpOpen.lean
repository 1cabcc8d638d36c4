/-
  A term that comes in as an argument: what its reading as data says of memory. No condition.
-/
import Derived.Test.YtidgibkiacbgfaaSpMem
import Derived.Test.YtidgibkiacbgfaaRows
import Derived.ProofKit
import Derived.OpenShut
import Derived.Deep.Slices
import Derived.Lib.SmallJoins
namespace Go.Proofs.Ytidgibkiacbgfaa
open Go.ChangeShapes Go.WideShapes Go.ChangeAt Go.RowKit Go.Deep Go.Joins

theorem bulk_pos {H : Type} (d : DataW H) : 1 ≤ Rows.uptoBulk d := by
  cases d with
  | lit l => cases l <;> simp [Rows.uptoBulk]
  | _ => simp [Rows.uptoBulk]
theorem small_le {H : Type} {l : List (DataW H)} (hk : Rows.uptoSmall H l = true) : Rows.uptoBulkAll l ≤ 1048576 := of_decide_eq_true hk

theorem open_tm {H : Type} {enc : TypeId × Value → H} {P : Program} {W : World} {tt ta tk : TypeId} {f0 f1 f2 a0 a1 a2 : Field}
    (hT : P.underlying tt = some (.struct #[f0, f1, f2])) (hC : P.cellsOf tt = 5) (o0 : f0.offset = 0) (o1 : f1.offset = 1) (o2 : f2.offset = 4) (i0 : P.underlying f0.type = some (.int .i64)) (c0 : P.cellsOf f0.type = 1)
    (e1 : f1.type = ta) (hA : P.underlying ta = some (.struct #[a0, a1, a2])) (cA : P.cellsOf ta = 3) (p0 : a0.offset = 0) (p1 : a1.offset = 1) (p2 : a2.offset = 2)
    (q0 : P.underlying a0.type = some (.int .i64)) (q1 : P.underlying a1.type = some .bool) (q2 : P.underlying a2.type = some (.int .i64)) (r0 : P.cellsOf a0.type = 1) (r1 : P.cellsOf a1.type = 1) (r2 : P.cellsOf a2.type = 1)
    (e2 : f2.type = tk) (hK : P.underlying tk = some (.slice tt)) (cK : P.cellsOf tk = 1) :
    ∀ (N n : Nat) (cs : List Value) (y : DataW H × List MemPlace), Rows.uptoBulk y.1 ≤ N → DataW.trod enc P W 0 (fun _ => true) true n tt cs = some y → (∀ x ∈ y.2, x.block < W.heap.size) →
      ∃ (T : Tm) (h : Hd), cs = h.cells.toList ∧ TIn W W.heap.size T h ∧ T.sz ≤ Rows.uptoBulk y.1 := by
  intro N
  induction N using Nat.strongRecOn with
  | _ N ih =>
    intro n cs y hN h hlt
    obtain ⟨xs, m, rfl, rfl, hl, hlen, hf⟩ := DataW.trod_struct hT h
    rw [hC] at hl
    match xs, hlen, cs, hl with
    | [y0, y1, y2], _, [v0, v1, v2, v3, v4], _ =>
      have g0 := hf 0 f0 rfl
      have g1 := hf 1 f1 rfl
      have g2 := hf 2 f2 rfl
      simp [o0, o1, o2, c0, e1, e2, cA, cK] at g0 g1 g2
      obtain ⟨k, hv0, rfl, _⟩ := DataW.trod_int i0 g0
      obtain ⟨zs, m', rfl, rfl, _, hlen', hf'⟩ := DataW.trod_struct hA g1
      match zs, hlen' with
      | [z0, z1, z2], _ =>
        have k0 := hf' 0 a0 rfl
        have k1 := hf' 1 a1 rfl
        have k2 := hf' 2 a2 rfl
        simp [p0, p1, p2, r0, r1, r2] at k0 k1 k2
        obtain ⟨c, hv1, rfl, _⟩ := DataW.trod_int q0 k0
        obtain ⟨x, hv2, rfl⟩ := DataW.trod_bool q1 k1
        obtain ⟨l, hv3, rfl, _⟩ := DataW.trod_int q2 k2
        simp at hv0 hv1 hv2 hv3
        subst hv0 hv1 hv2 hv3
        rcases open_slice hK g2 with ⟨hcs, rfl⟩ | ⟨a, len, cap, mm, nn, D, Pl, hcs, _, hle, hm, hmm, rfl, hx⟩
        · simp at hcs
          subst hcs
          by_cases hk : k = 1
          · subst hk
            refine ⟨.one (c, x, l), ⟨1, c, x, l, none, 0, 0⟩, rfl, ⟨rfl, rfl⟩, ?_⟩
            have := bulk_pos (DataW.agg (H := H) [.lit (.int .i64 1), .agg [.lit (.int .i64 c), .lit (.bool x), .lit (.int .i64 l)], .nil])
            simpa [Tm.sz] using this
          · exact ⟨.nil, ⟨k, c, x, l, none, 0, 0⟩, rfl, ⟨hk, .inr (show (0 : Nat) < 2 by omega)⟩, Nat.zero_le _⟩
        · simp at hcs
          subst hcs
          by_cases hk : k = 1
          · subst hk
            refine ⟨.one (c, x, l), ⟨1, c, x, l, some a, len, cap⟩, rfl, ⟨rfl, rfl⟩, ?_⟩
            exact bulk_pos _
          · by_cases hk2 : (k = 2 ∨ k = 3) ∧ 2 ≤ len
            · obtain ⟨hk3, hlen2⟩ := hk2
              have hlm : len ≤ mm := by rw [hmm]; split <;> omega
              obtain ⟨cs0, hc0, ht0⟩ := hx 0 (by omega)
              obtain ⟨cs1, hc1, ht1⟩ := hx 1 (by omega)
              obtain ⟨rest, hrest⟩ : ∃ rest, (List.range len).map D = D 0 :: D 1 :: rest := by
                obtain ⟨j, rfl⟩ : ∃ j, len = j + 2 := ⟨len - 2, by omega⟩
                refine ⟨(List.range j).map (D ∘ Nat.succ ∘ Nat.succ), ?_⟩
                rw [List.range_succ_eq_map, List.range_succ_eq_map]
                simp
              have hbulk : Rows.uptoBulk (D 0) + Rows.uptoBulk (D 1) + 1 ≤ Rows.uptoBulk (DataW.agg (([((DataW.lit (.int .i64 k), []) : DataW H × List MemPlace), (DataW.agg ([((DataW.lit (.int .i64 c), []) : DataW H × List MemPlace), (.lit (.bool x), []), (.lit (.int .i64 l), [])].map (·.1)), [((DataW.lit (.int .i64 c), []) : DataW H × List MemPlace), (.lit (.bool x), []), (.lit (.int .i64 l), [])].flatMap (·.2)), (.slice ((List.range len).map D) ((List.range (mm - len)).map fun j => D (len + j)), MemPlace.row a (mm * P.cellsOf tt) ++ (List.range mm).flatMap Pl)]).map (·.1))) := by
                simp only [List.map_cons, List.map_nil, Rows.uptoBulk, Rows.uptoBulkAll, hrest]
                omega
              have hlt0 : ∀ z ∈ Pl 0, z.block < W.heap.size := fun z hz => hlt z (by simp; first | exact .inr (.inr ⟨0, by omega, hz⟩) | exact .inr ⟨0, by omega, hz⟩)
              have hlt1 : ∀ z ∈ Pl 1, z.block < W.heap.size := fun z hz => hlt z (by simp; first | exact .inr (.inr ⟨1, by omega, hz⟩) | exact .inr ⟨1, by omega, hz⟩)
              have hbN := Nat.le_trans hbulk hN
              obtain ⟨T0, h0, rfl, hT0, hs0⟩ := ih (Rows.uptoBulk (D 0)) (by omega) nn cs0 (D 0, Pl 0) (Nat.le_refl _) ht0 hlt0
              obtain ⟨T1, h1, rfl, hT1, hs1⟩ := ih (Rows.uptoBulk (D 1)) (by omega) nn cs1 (D 1, Pl 1) (Nat.le_refl _) ht1 hlt1
              rw [hC] at hc0 hc1
              obtain ⟨_, _, hcell0⟩ := World.cells?_some hc0
              obtain ⟨_, _, hcell1⟩ := World.cells?_some hc1
              obtain ⟨b, off, spot⟩ := a
              have hspot : spot = none := by
                have := hcell0 0 (by omega)
                simpa [Addr.add] using World.cell?_spot this
              subst hspot
              have hb : b < W.heap.size := World.block_lt_of_cell? _ _ (hcell0 0 (by omega))
              have at0 : HdAt W b off h0 := by
                refine ⟨?_, ?_, ?_, ?_, ?_⟩
                · simpa [add_plain, Hd.cells] using hcell0 0 (by omega)
                · simpa [add_plain, Hd.cells] using hcell0 1 (by omega)
                · simpa [add_plain, Hd.cells] using hcell0 2 (by omega)
                · simpa [add_plain, Hd.cells] using hcell0 3 (by omega)
                · simpa [add_plain, Hd.cells] using hcell0 4 (by omega)
              have at1 : HdAt W b (off + 5) h1 := by
                refine ⟨?_, ?_, ?_, ?_, ?_⟩
                · simpa [add_plain, Hd.cells] using hcell1 0 (by omega)
                · simpa [add_plain, Hd.cells] using hcell1 1 (by omega)
                · simpa [add_plain, Hd.cells] using hcell1 2 (by omega)
                · simpa [add_plain, Hd.cells] using hcell1 3 (by omega)
                · simpa [add_plain, Hd.cells] using hcell1 4 (by omega)
              rcases hk3 with rfl | rfl
              · exact ⟨.seq T0 T1, ⟨2, c, x, l, some ⟨b, off, none⟩, len, cap⟩, rfl, ⟨rfl, hlen2, b, off, h0, h1, rfl, hb, at0, at1, hT0, hT1⟩, by refine Nat.le_trans ?_ (Nat.le_of_succ_le hbulk); simp only [Tm.sz]; dsimp only at hs0 hs1; omega⟩
              · exact ⟨.par T0 T1, ⟨3, c, x, l, some ⟨b, off, none⟩, len, cap⟩, rfl, ⟨rfl, hlen2, b, off, h0, h1, rfl, hb, at0, at1, hT0, hT1⟩, by refine Nat.le_trans ?_ (Nat.le_of_succ_le hbulk); simp only [Tm.sz]; dsimp only at hs0 hs1; omega⟩
            · refine ⟨.nil, ⟨k, c, x, l, some a, len, cap⟩, rfl, ⟨hk, ?_⟩, Nat.zero_le _⟩
              dsimp only
              omega
end Go.Proofs.Ytidgibkiacbgfaa
