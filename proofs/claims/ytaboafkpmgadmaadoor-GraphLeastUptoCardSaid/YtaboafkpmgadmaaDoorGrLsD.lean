/-
  GraphLeast: a list's edge taken out in memory: the cells that move, the cell that is cleared.
-/
import Derived.Test.YtaboafkpmgadmaaDoorGrFs
import Derived.Test.YtaboafkpmgadmaaDoorGrLsM
import Derived.Laws.IdiomCopy
namespace Go.Proofs.YtaboafkpmgadmaaDoor
open Go.RowKit

theorem below_setCells {B : Nat} {a : World} (b : Nat) (hb : B ≤ b) : ∀ (vs : List Value) (o : Nat) {w : World}, Below B a w → Below B a (w.setCells b o vs)
  | [], _, _, h => h
  | v :: r, o, _, h => below_setCells b hb r (o + 1) (h.setCell (p := ⟨b, o, none⟩) hb v)

theorem heap_setCells_ne (b k : Nat) (hk : k ≠ b) : ∀ (vs : List Value) (o : Nat) (w : World), (w.setCells b o vs).heap[k]? = w.heap[k]?
  | [], _, _ => rfl
  | v :: r, o, w => (heap_setCells_ne b k hk r (o + 1) (w.setCell ⟨b, o, none⟩ v)).trans (Below.heap_setCell w ⟨b, o, none⟩ v k hk)

/-- 'clear' of one edge -/
theorem run_clear_edge {P : Program} (w : World) (t e ty : TypeId) (ht : P.underlying t = some (.slice e)) (hv : ∀ w, (zeroValue e).run P w = .ok (.agg #[.int .i64 0, .int .i64 0]) w) (b o c : Nat)
    (hc : ∀ j, j < 2 → (w.cell? ⟨b, o + j, none⟩).isSome = true) (hf : ∀ j, j < 2 → w.frozen? ⟨b, o + j, none⟩ = false) :
    (Builtin.clear_ #[t] ty #[.slice (some ⟨b, o, none⟩) 1 c]).run P w = .ok (.tuple #[]) (w.setCells b o [.int .i64 0, .int .i64 0]) := by
  have hzc : (Builtin.zeroCells (Value.agg #[.int .i64 0, .int .i64 0]).cells 1).toList = [.int .i64 0, .int .i64 0] := by kernel_rfl
  have hst := run_storeCells_cells (P := P) b o [.int .i64 0, .int .i64 0] 0 w (by simpa using hc) (by simpa using hf) (by intro v hv'; simp at hv'; subst hv'; rfl)
  simp only [Nat.add_zero] at hst
  simp [Builtin.clear_, run_underlying ht, hv, hzc, hst]

theorem ed_lss {es : List (Int × Int)} {k q : Nat} (hk : k < es.length) : ed (lss es k) q = if q < k then ed es q else ed es (q + 1) := by
  unfold ed lss
  rw [List.getD_eq_getElem?_getD, List.getD_eq_getElem?_getD, List.getD_eq_getElem?_getD]
  have hl : (es.take k).length = k := by rw [List.length_take]; omega
  by_cases h : q < k
  · rw [if_pos h, List.getElem?_append_left (by omega), List.getElem?_take_of_lt h]
  · rw [if_neg h, List.getElem?_append_right (by omega), hl, List.getElem?_drop]
    congr 2
    omega
theorem ed_drop {es : List (Int × Int)} {k q : Nat} : ed (es.drop k) q = ed es (k + q) := by
  unfold ed
  rw [List.getD_eq_getElem?_getD, List.getD_eq_getElem?_getD, List.getElem?_drop]

/-- every cell of an owned row of edges -/
theorem own_cells {w : World} {base c g : Nat} {T : TypeId} {es : List (Int × Int)} (h : w.ownsRow base T 2 (.slice (some ⟨g, 0, none⟩) es.length c) es.length (eVals es)) :
    ∀ j, j < es.length → w.cell? ⟨g, j * 2, none⟩ = some (.int .i64 (ed es j).1) ∧ w.cell? ⟨g, j * 2 + 1, none⟩ = some (.int .i64 (ed es j).2) := fun j hj => by
  rw [h.cellAt (j * 2) (by omega), h.cellAt (j * 2 + 1) (by omega)]
  exact eVals_at es j hj
theorem own_some {w : World} {base c g : Nat} {T : TypeId} {es : List (Int × Int)} (h : w.ownsRow base T 2 (.slice (some ⟨g, 0, none⟩) es.length c) es.length (eVals es)) :
    ∀ p, p < es.length * 2 → (w.cell? ⟨g, p, none⟩).isSome = true := fun p hp => by
  have h1 := own_cells h (p / 2) (by omega)
  rcases Nat.mod_two_eq_zero_or_one p with e | e
  · rw [show p = p / 2 * 2 by omega, h1.1]; rfl
  · rw [show p = p / 2 * 2 + 1 by omega, h1.2]; rfl
theorem own_loose {w : World} {base c g n : Nat} {T : TypeId} {xs : List Value} (h : w.ownsRow base T 2 (.slice (some ⟨g, 0, none⟩) n c) n xs) (o : Nat) : w.frozen? ⟨g, o, none⟩ = false := by
  rcases h.2 with ⟨h0, _⟩ | ⟨g', cap, cur, hv, _, hg, _⟩
  · cases h0
  · injection hv with hA
    injection hA with hA
    injection hA with hA
    subst hA
    simp [World.frozen?, hg]

theorem del_mem {w : World} {base c g k : Nat} {T : TypeId} {es : List (Int × Int)} (hown : w.ownsRow base T 2 (.slice (some ⟨g, 0, none⟩) es.length c) es.length (eVals es)) (hk : k < es.length)
    (hlo1 : ∀ k, -9223372036854775808 ≤ (ed es k).1) (hhi1 : ∀ k, (ed es k).1 ≤ 9223372036854775807) (hlo2 : ∀ k, -9223372036854775808 ≤ (ed es k).2) (hhi2 : ∀ k, (ed es k).2 ≤ 9223372036854775807) (hroom : es.length ≤ 1099511627776)
    (W1 W2 : World) (hW1 : W1 = w.setCells g (k * 2) (eVals (es.drop (k + 1)))) (hW2 : W2 = W1.setCells g ((es.length - 1) * 2) [.int .i64 0, .int .i64 0]) :
    RdE W2 W2.heap.size (some ⟨g, 0, none⟩) (lss es k) ∧ Below base w W2 ∧ (∀ j, j < 2 → (W1.cell? ⟨g, (es.length - 1) * 2 + j, none⟩).isSome = true) ∧ ∀ o, W1.frozen? ⟨g, o, none⟩ = false := by
  have hC := own_cells hown
  have hS := own_some hown
  have hF := own_loose hown
  have hgb : base ≤ g ∧ g < w.heap.size := hown.lt g rfl
  have hB1 : Below base w W1 := by rw [hW1]; exact below_setCells g hgb.1 _ _ (Below.refl _ _)
  have hB2 : Below base w W2 := by rw [hW2]; exact below_setCells g hgb.1 _ _ hB1
  have hlen : (eVals (es.drop (k + 1))).length = (es.length - (k + 1)) * 2 := by rw [eVals_len, List.length_drop]
  have hin : ∀ j, j < (eVals (es.drop (k + 1))).length → (w.cell? ⟨g, k * 2 + j, none⟩).isSome = true := fun j hj => hS _ (by omega)
  have h1 : ∀ q, q + 1 < es.length → W1.cell? ⟨g, q * 2, none⟩ = some (.int .i64 (ed (lss es k) q).1) ∧ W1.cell? ⟨g, q * 2 + 1, none⟩ = some (.int .i64 (ed (lss es k) q).2) := fun q hq => by
    rw [ed_lss hk, hW1]
    by_cases h : q < k
    · rw [if_pos h, World.cell?_setCells_out _ _ _ _ _ (fun _ _ => .inl (by show q * 2 < k * 2; omega)), World.cell?_setCells_out _ _ _ _ _ (fun _ _ => .inl (by show q * 2 + 1 < k * 2; omega))]
      exact hC q (by omega)
    · rw [if_neg h]
      have h2 := eVals_at (es.drop (k + 1)) (q - k) (by rw [List.length_drop]; omega)
      rw [ed_drop, show k + 1 + (q - k) = q + 1 by omega] at h2
      have i1 := World.cell?_setCells_in g (eVals (es.drop (k + 1))) (k * 2) w hin ((q - k) * 2) (by omega)
      have i2 := World.cell?_setCells_in g (eVals (es.drop (k + 1))) (k * 2) w hin ((q - k) * 2 + 1) (by omega)
      rw [show k * 2 + (q - k) * 2 = q * 2 by omega] at i1
      rw [show k * 2 + ((q - k) * 2 + 1) = q * 2 + 1 by omega] at i2
      rw [i1, i2]
      exact ⟨(List.getElem?_eq_getElem _).symm.trans h2.1, (List.getElem?_eq_getElem _).symm.trans h2.2⟩
  have hs2 : w.heap.size ≤ W2.heap.size := hB2.size
  refine ⟨⟨fun q => ?_, fun q => ?_, fun q => ?_, fun q => ?_, by rw [lss_len hk]; omega, fun hn => ⟨g, 0, rfl, by omega, fun q hq => ?_⟩⟩, hB2, fun j hj => ?_, fun o => ?_⟩
  · rw [ed_lss hk]; split; exact hlo1 _; exact hlo1 _
  · rw [ed_lss hk]; split; exact hhi1 _; exact hhi1 _
  · rw [ed_lss hk]; split; exact hlo2 _; exact hlo2 _
  · rw [ed_lss hk]; split; exact hhi2 _; exact hhi2 _
  · rw [lss_len hk] at hq
    rw [Nat.zero_add, hW2, World.cell?_setCells_out _ _ _ _ _ (fun _ _ => .inl (by show q * 2 < (es.length - 1) * 2; omega)), World.cell?_setCells_out _ _ _ _ _ (fun _ _ => .inl (by show q * 2 + 1 < (es.length - 1) * 2; omega))]
    exact h1 q (by omega)
  · obtain ⟨u, hu⟩ := Option.isSome_iff_exists.1 (hS ((es.length - 1) * 2 + j) (by omega))
    rw [hW1]
    by_cases h : (es.length - 1) * 2 + j < k * 2 + (eVals (es.drop (k + 1))).length
    · omega
    · rw [World.cell?_setCells_out _ _ _ _ _ (fun _ _ => .inr (by show _ ≤ (es.length - 1) * 2 + j; omega)), hu]
      rfl
  · rw [hW1, World.frozen?_setCells]
    exact hF o
end Go.Proofs.YtaboafkpmgadmaaDoor
