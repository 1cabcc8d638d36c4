/-
  GraphLeast: a list's edge taken out in memory: the cells that move, the cell that is cleared.
  GraphLeast: contracts of slices.Clone and slices.Delete at a slice of edges.
  Contract of the law OrderMore.
  Contract of the law OrderMore.
-/
import Derived.Test.YtaboafkpmgadmaaDoorPk08
import Derived.Test.YtaboafkpmgadmaaDoorPk17
import Derived.Laws.IdiomCopy
import Derived.Deep.RegionLaw
import Derived.Lib.SliceRun
import Derived.Shelf.RegionOpenPlain
import Derived.Test.YtaboafkpmgadmaaDoorPk16
import Derived.Deep.AppendLies
namespace Go.Proofs.YtaboafkpmgadmaaDoor
open Go.RowKit

theorem below_setCells {B : Nat} {a : World} (b : Nat) (hb : B ≤ b) : ∀ (vs : List Value) (o : Nat) {w : World}, Below B a w → Below B a (w.setCells b o vs)
  | [], _, _, h => h
  | v :: r, o, _, h => below_setCells b hb r (o + 1) (h.setCell (p := ⟨b, o, none⟩) hb v)

theorem heap_setCells_ne (b k : Nat) (hk : k ≠ b) : ∀ (vs : List Value) (o : Nat) (w : World), (w.setCells b o vs).heap[k]? = w.heap[k]?
  | [], _, _ => rfl
  | v :: r, o, w => (heap_setCells_ne b k hk r (o + 1) (w.setCell ⟨b, o, none⟩ v)).trans (Below.heap_setCell w ⟨b, o, none⟩ v k hk)

/-- 'clear' of one edge -/
theorem run_clear_edge {P : Program} (w : World) (t e ty : TypeId) (ht : P.underlying t = some (.slice e)) (hv : ∀ w, (zeroValue e).run P w = .ok (.agg #[.int .i64 0, .int .i64 0]) w) (b o c : Nat)
    (hc : ∀ j, j < 2 → (w.cell? ⟨b, o + j, none⟩).isSome = true) (hf : ∀ j, j < 2 → w.frozen? ⟨b, o + j, none⟩ = false) :
    (Builtin.clear_ #[t] ty #[.slice (some ⟨b, o, none⟩) 1 c]).run P w = .ok (.tuple #[]) (w.setCells b o [.int .i64 0, .int .i64 0]) := by
  have hzc : (Builtin.zeroCells (Value.agg #[.int .i64 0, .int .i64 0]).cells 1).toList = [.int .i64 0, .int .i64 0] := by kernel_rfl
  have hst := run_storeCells_cells (P := P) b o [.int .i64 0, .int .i64 0] 0 w (by simpa using hc) (by simpa using hf) (by intro v hv'; simp at hv'; subst hv'; rfl)
  simp only [Nat.add_zero] at hst
  simp [Builtin.clear_, run_underlying ht, hv, hzc, hst]

theorem ed_lss {es : List (Int × Int)} {k q : Nat} (hk : k < es.length) : ed (lss es k) q = if q < k then ed es q else ed es (q + 1) := by
  unfold ed lss
  rw [List.getD_eq_getElem?_getD, List.getD_eq_getElem?_getD, List.getD_eq_getElem?_getD]
  have hl : (es.take k).length = k := by rw [List.length_take]; omega
  by_cases h : q < k
  · rw [if_pos h, List.getElem?_append_left (by omega), List.getElem?_take_of_lt h]
  · rw [if_neg h, List.getElem?_append_right (by omega), hl, List.getElem?_drop]
    congr 2
    omega
theorem ed_drop {es : List (Int × Int)} {k q : Nat} : ed (es.drop k) q = ed es (k + q) := by
  unfold ed
  rw [List.getD_eq_getElem?_getD, List.getD_eq_getElem?_getD, List.getElem?_drop]

/-- every cell of an owned row of edges -/
theorem own_cells {w : World} {base c g : Nat} {T : TypeId} {es : List (Int × Int)} (h : w.ownsRow base T 2 (.slice (some ⟨g, 0, none⟩) es.length c) es.length (eVals es)) :
    ∀ j, j < es.length → w.cell? ⟨g, j * 2, none⟩ = some (.int .i64 (ed es j).1) ∧ w.cell? ⟨g, j * 2 + 1, none⟩ = some (.int .i64 (ed es j).2) := fun j hj => by
  rw [h.cellAt (j * 2) (by omega), h.cellAt (j * 2 + 1) (by omega)]
  exact eVals_at es j hj
theorem own_some {w : World} {base c g : Nat} {T : TypeId} {es : List (Int × Int)} (h : w.ownsRow base T 2 (.slice (some ⟨g, 0, none⟩) es.length c) es.length (eVals es)) :
    ∀ p, p < es.length * 2 → (w.cell? ⟨g, p, none⟩).isSome = true := fun p hp => by
  have h1 := own_cells h (p / 2) (by omega)
  rcases Nat.mod_two_eq_zero_or_one p with e | e
  · rw [show p = p / 2 * 2 by omega, h1.1]; rfl
  · rw [show p = p / 2 * 2 + 1 by omega, h1.2]; rfl
theorem own_loose {w : World} {base c g n : Nat} {T : TypeId} {xs : List Value} (h : w.ownsRow base T 2 (.slice (some ⟨g, 0, none⟩) n c) n xs) (o : Nat) : w.frozen? ⟨g, o, none⟩ = false := by
  rcases h.2 with ⟨h0, _⟩ | ⟨g', cap, cur, hv, _, hg, _⟩
  · cases h0
  · injection hv with hA
    injection hA with hA
    injection hA with hA
    subst hA
    simp [World.frozen?, hg]

theorem del_mem {w : World} {base c g k : Nat} {T : TypeId} {es : List (Int × Int)} (hown : w.ownsRow base T 2 (.slice (some ⟨g, 0, none⟩) es.length c) es.length (eVals es)) (hk : k < es.length)
    (hlo1 : ∀ k, -9223372036854775808 ≤ (ed es k).1) (hhi1 : ∀ k, (ed es k).1 ≤ 9223372036854775807) (hlo2 : ∀ k, -9223372036854775808 ≤ (ed es k).2) (hhi2 : ∀ k, (ed es k).2 ≤ 9223372036854775807) (hroom : es.length ≤ 1099511627776)
    (W1 W2 : World) (hW1 : W1 = w.setCells g (k * 2) (eVals (es.drop (k + 1)))) (hW2 : W2 = W1.setCells g ((es.length - 1) * 2) [.int .i64 0, .int .i64 0]) :
    RdE W2 W2.heap.size (some ⟨g, 0, none⟩) (lss es k) ∧ Below base w W2 ∧ (∀ j, j < 2 → (W1.cell? ⟨g, (es.length - 1) * 2 + j, none⟩).isSome = true) ∧ ∀ o, W1.frozen? ⟨g, o, none⟩ = false := by
  have hC := own_cells hown
  have hS := own_some hown
  have hF := own_loose hown
  have hgb : base ≤ g ∧ g < w.heap.size := hown.lt g rfl
  have hB1 : Below base w W1 := by rw [hW1]; exact below_setCells g hgb.1 _ _ (Below.refl _ _)
  have hB2 : Below base w W2 := by rw [hW2]; exact below_setCells g hgb.1 _ _ hB1
  have hlen : (eVals (es.drop (k + 1))).length = (es.length - (k + 1)) * 2 := by rw [eVals_len, List.length_drop]
  have hin : ∀ j, j < (eVals (es.drop (k + 1))).length → (w.cell? ⟨g, k * 2 + j, none⟩).isSome = true := fun j hj => hS _ (by omega)
  have h1 : ∀ q, q + 1 < es.length → W1.cell? ⟨g, q * 2, none⟩ = some (.int .i64 (ed (lss es k) q).1) ∧ W1.cell? ⟨g, q * 2 + 1, none⟩ = some (.int .i64 (ed (lss es k) q).2) := fun q hq => by
    rw [ed_lss hk, hW1]
    by_cases h : q < k
    · rw [if_pos h, World.cell?_setCells_out _ _ _ _ _ (fun _ _ => .inl (by show q * 2 < k * 2; omega)), World.cell?_setCells_out _ _ _ _ _ (fun _ _ => .inl (by show q * 2 + 1 < k * 2; omega))]
      exact hC q (by omega)
    · rw [if_neg h]
      have h2 := eVals_at (es.drop (k + 1)) (q - k) (by rw [List.length_drop]; omega)
      rw [ed_drop, show k + 1 + (q - k) = q + 1 by omega] at h2
      have i1 := World.cell?_setCells_in g (eVals (es.drop (k + 1))) (k * 2) w hin ((q - k) * 2) (by omega)
      have i2 := World.cell?_setCells_in g (eVals (es.drop (k + 1))) (k * 2) w hin ((q - k) * 2 + 1) (by omega)
      rw [show k * 2 + (q - k) * 2 = q * 2 by omega] at i1
      rw [show k * 2 + ((q - k) * 2 + 1) = q * 2 + 1 by omega] at i2
      rw [i1, i2]
      exact ⟨(List.getElem?_eq_getElem _).symm.trans h2.1, (List.getElem?_eq_getElem _).symm.trans h2.2⟩
  have hs2 : w.heap.size ≤ W2.heap.size := hB2.size
  refine ⟨⟨fun q => ?_, fun q => ?_, fun q => ?_, fun q => ?_, by rw [lss_len hk]; omega, fun hn => ⟨g, 0, rfl, by omega, fun q hq => ?_⟩⟩, hB2, fun j hj => ?_, fun o => ?_⟩
  · rw [ed_lss hk]; split; exact hlo1 _; exact hlo1 _
  · rw [ed_lss hk]; split; exact hhi1 _; exact hhi1 _
  · rw [ed_lss hk]; split; exact hlo2 _; exact hlo2 _
  · rw [ed_lss hk]; split; exact hhi2 _; exact hhi2 _
  · rw [lss_len hk] at hq
    rw [Nat.zero_add, hW2, World.cell?_setCells_out _ _ _ _ _ (fun _ _ => .inl (by show q * 2 < (es.length - 1) * 2; omega)), World.cell?_setCells_out _ _ _ _ _ (fun _ _ => .inl (by show q * 2 + 1 < (es.length - 1) * 2; omega))]
    exact h1 q (by omega)
  · obtain ⟨u, hu⟩ := Option.isSome_iff_exists.1 (hS ((es.length - 1) * 2 + j) (by omega))
    rw [hW1]
    by_cases h : (es.length - 1) * 2 + j < k * 2 + (eVals (es.drop (k + 1))).length
    · omega
    · rw [World.cell?_setCells_out _ _ _ _ _ (fun _ _ => .inr (by show _ ≤ (es.length - 1) * 2 + j; omega)), hu]
      rfl
  · rw [hW1, World.frozen?_setCells]
    exact hF o
end Go.Proofs.YtaboafkpmgadmaaDoor

namespace Go.Proofs.YtaboafkpmgadmaaDoor
open Go.RowKit Go.Shelf Go.Lib
set_option maxRecDepth 100000

set_option maxHeartbeats 2000000 in
theorem cloneE_any (A : Option Addr) (c : Nat) (es : List (Int × Int)) (w : World) (he : RdE w w.heap.size A es) (hp : 0 < es.length) (hl : es.length ≤ 8796093022208) :
    Calls Tryd.prog 25 #[.slice A es.length c] w fun e w' => ∃ v', e = .returned v' ∧ w'.ownsRow w.heap.size 38 2 v' es.length (eVals es) ∧ Below w.heap.size w w' := by
  obtain ⟨i0, hi, hz0, hz1, hz2⟩ := info_parts Tryd.infoEd
  have q22 : ∀ (w : World) (a : Option Addr) (n c n' c' : Nat), (binOp .eql 22 (.slice a n c) (.slice none n' c')).run Tryd.prog w = .ok (.bool a.isNone) w := fun w a n c n' c' => Lib.run_eql_slice_nil w _ _ a n c n' c' Tryd.underlying22
  obtain ⟨b, off, rfl, _, hc⟩ := he.rd hp
  have X : Aside (∀ k, k < es.length → w.cell? ⟨b, off + k * 2, none⟩ = some (.int .i64 (ed es k).1) ∧ w.cell? ⟨b, off + k * 2 + 1, none⟩ = some (.int .i64 (ed es k).2)) := hc
  clear hc he
  go_enter Tryd.func25, Tryd.ntmps25
  go_wp2_with (at_builtin; refine wpList_append_own _ rfl _ _ 22 rfl w.heap.size 38 i0 (.agg #[.int .i64 0, .int .i64 0]) 2 16 Tryd.underlying22 hi hz0 hz1 hz2 rfl (by decide) _ _ _ rfl (World.ownsRow_made w #[] 0 (Nat.le_refl _) (Nat.zero_le _) rfl) ⟨b, off, none⟩ es.length c (eVals es) rfl ?qc1 ?qc2 ?qc3 ?qc4 ?qc5 ?qc6 ?_)
  case qc1 => exact eVals_len es
  case qc2 =>
    intro j u hj
    have hjn : j < es.length * 2 := by
      have := (List.getElem?_eq_some_iff.1 hj).1
      rwa [eVals_len] at this
    rw [Addr.add_lit]
    refine Lib.cell?_alloc_some _ ?_
    have h1 := X.out (j / 2) (by omega)
    have h2 := eVals_at es (j / 2) (by omega)
    rcases Nat.mod_two_eq_zero_or_one j with e | e
    · rw [show off + j = off + j / 2 * 2 by omega, h1.1, ← h2.1, ← hj]
      congr 1; omega
    · rw [show off + j = off + j / 2 * 2 + 1 by omega, h1.2, ← h2.2, ← hj]
      congr 1; omega
  case qc3 =>
    intro u hu
    unfold eVals at hu
    obtain ⟨x, _, hx⟩ := List.mem_flatMap.1 hu
    simp at hx
    rcases hx with rfl | rfl <;> rfl
  case qc4 => unfold maxLen; omega
  case qc5 => omega
  case qc6 => simp
  intro v' w1 hown hgrow hnil
  go_wp2
  go_ret
  refine ⟨v', rfl, by simpa using hown, ?_⟩
  exact ((Below.refl _ w).alloc (Nat.le_refl _) _).grown hgrow (by simp) (by intro k hk; simp [Value.ownBlock] at hk; omega)

set_option maxHeartbeats 4000000 in
theorem deleteE_any (base g c k j n : Nat) (hj : j = k + 1) (es : List (Int × Int)) (hn : es.length = n) (w : World) (hown : w.ownsRow base 38 2 (.slice (some ⟨g, 0, none⟩) es.length c) es.length (eVals es)) (hk : k < n)
    (hlo1 : ∀ k, -9223372036854775808 ≤ (ed es k).1) (hhi1 : ∀ k, (ed es k).1 ≤ 9223372036854775807) (hlo2 : ∀ k, -9223372036854775808 ≤ (ed es k).2) (hhi2 : ∀ k, (ed es k).2 ≤ 9223372036854775807) (hroom : es.length ≤ 1048576) :
    Calls Tryd.prog 24 #[.slice (some ⟨g, 0, none⟩) n c, .int .i64 k, .int .i64 j] w fun e w' => e = .returned (.slice (some ⟨g, 0, none⟩) (n - 1) c) ∧ RdE w' w'.heap.size (some ⟨g, 0, none⟩) (lss es k) ∧ Below base w w' ∧ ∀ b, b ≠ g → w'.heap[b]? = w.heap[b]? := by
  obtain ⟨i0, hi0, hz0, hz1, hz2⟩ := info_parts Tryd.infoEd
  have hdw : w.drew.ownsRow base 38 2 (.slice (some ⟨g, 0, none⟩) es.length c) es.length (eVals es) := hown
  obtain ⟨W1, hW1⟩ : ∃ W1, W1 = w.drew.setCells g (k * 2) (eVals (es.drop (k + 1))) := ⟨_, rfl⟩
  obtain ⟨W2, hW2⟩ : ∃ W2, W2 = W1.setCells g ((es.length - 1) * 2) [.int .i64 0, .int .i64 0] := ⟨_, rfl⟩
  obtain ⟨hR, hB, hS, hF⟩ := del_mem hdw (hn.symm ▸ hk) hlo1 hhi1 hlo2 hhi2 (by omega) W1 W2 hW1 hW2
  have hne0 : ∀ b, b ≠ g → W2.heap[b]? = w.heap[b]? := fun b hb => by
    rw [hW2, heap_setCells_ne _ _ hb, hW1, heap_setCells_ne _ _ hb]
    rfl
  have HNE := Lib.hid hne0
  have hcap : n ≤ c ∧ c ≤ maxLen := by
    rcases hown.2 with ⟨h0, _⟩ | ⟨g', cap, cur, hv, _, _, h1, h2, _⟩
    · cases h0
    · injection hv with _ _ hc
      subst hc
      exact ⟨hn ▸ h1, h2⟩
  obtain ⟨hc1, hc2⟩ := hcap
  unfold maxLen at hc2
  have hlen : (eVals (es.drop (k + 1))).length = (n - j) * 2 := by rw [eVals_len, List.length_drop, hn, hj]
  obtain ⟨A, hA, hsrc⟩ : ∃ A : Addr, (if c = j then some (⟨g, 0, none⟩ : Addr) else some ⟨g, j * 2, none⟩) = some A ∧ Hid (∀ t u, (eVals (es.drop (k + 1)))[t]? = some u → w.drew.cell? (A.add t) = some u) := by
    by_cases h : c = j
    · refine ⟨⟨g, 0, none⟩, by simp [h], fun t u hu => ?_⟩
      have := (List.getElem?_eq_some_iff.1 hu).1
      omega
    · refine ⟨⟨g, j * 2, none⟩, by simp [h], fun t u hu => ?_⟩
      have ht := (List.getElem?_eq_some_iff.1 hu).1
      have h1 := own_cells hdw (j + t / 2) (by omega)
      have h2 := eVals_at (es.drop (k + 1)) (t / 2) (by rw [List.length_drop]; omega)
      rw [ed_drop, ← hj] at h2
      rw [Addr.add_lit]
      rcases Nat.mod_two_eq_zero_or_one t with e | e
      · have e2 : t / 2 * 2 = t := by omega
        rw [e2] at h2
        rw [← hj] at hu
        rw [show j * 2 + t = (j + t / 2) * 2 by omega, h1.1]
        exact h2.1.symm.trans hu
      · have e2 : t / 2 * 2 + 1 = t := by omega
        rw [e2] at h2
        rw [← hj] at hu
        rw [show j * 2 + t = (j + t / 2) * 2 + 1 by omega, h1.2]
        exact h2.2.symm.trans hu
  have s1 : Hid ((eVals (es.drop (k + 1))).length = (n - j) * 2) := hlen
  have s2 : Hid (∀ u ∈ eVals (es.drop (k + 1)), u.oneCell' = true) := by
    intro u hu
    unfold eVals at hu
    obtain ⟨x, _, hx⟩ := List.mem_flatMap.1 hu
    simp at hx
    rcases hx with rfl | rfl <;> rfl
  have s3 : Hid (∀ t, t < (eVals (es.drop (k + 1))).length → (w.drew.cell? ⟨g, 0 + k * 2 + t, none⟩).isSome = true ∧ w.drew.frozen? ⟨g, 0 + k * 2 + t, none⟩ = false) := fun t ht => ⟨own_some hdw _ (by omega), own_loose hdw _⟩
  obtain ⟨news, hnews⟩ : ∃ news, news = eVals (es.drop (k + 1)) := ⟨_, rfl⟩
  rw [← hnews] at hsrc s1 s2 s3 hW1
  have hW : Hid (W1 = w.drew.setCells g (0 + k * 2) news) := by rw [Nat.zero_add]; exact hW1
  have hcl : ∀ ty cc, (Builtin.clear_ #[22] ty #[.slice (some ⟨g, (n - 1) * 2, none⟩) 1 cc]).run Tryd.prog W1 = .ok (.tuple #[]) W2 := fun ty cc => by
    rw [hW2, hn]
    exact run_clear_edge W1 _ 38 ty Tryd.underlying22 (fun w => by kernel_rfl) g ((n - 1) * 2) cc (by rw [← hn]; exact hS) (fun j _ => hF _)
  have hmo : Tryd.prog.follows .mixedOrders = true := by kernel_rfl
  have h1n : n - (n - 1) = 1 := by omega
  have hlt : k < j := by omega
  have hjn : j ≤ n := by omega
  have hic : k ≤ c := by omega
  have hjc : j ≤ c := by omega
  have HR := Lib.hid hR
  have HB := Lib.hid hB
  have HJ := Lib.hid hj
  have en : k + (n - j) = n - 1 := by omega
  have HEN := Lib.hid en
  clear hR hB hS hF hne0 hW1 hW2 hdw hown hlen hnews hn hlo1 hhi1 hlo2 hhi2 hroom hj en
  go_enter Tryd.func24, Tryd.ntmps24
  go_wp2_with fail
  go_region_law_o (refine step_append_room rfl (.tmp 22) (.tmp 25) 22 rfl 38 i0 2 Tryd.underlying22 hi0 hz1 g 0 k c (by simp [Act.eval, Act.put]) A (n - j) (c - j) news (by simp [Act.eval, Act.put]) s1.out hsrc.out s2.out (by omega) s3.out ?_; rw [← hW.out, HEN.out])
  go_wp2
  go_ret
  exact ⟨rfl, HR.out, ((Below.refl base w).drew).trans HB.out, HNE.out⟩
end Go.Proofs.YtaboafkpmgadmaaDoor

namespace Go.Proofs.YtaboafkpmgadmaaDoor
open Go.RowKit Go.Shelf Go.Lib
set_option maxRecDepth 100000

set_option maxHeartbeats 2000000 in
theorem cloneE0_any (A : Option Addr) (c : Nat) (es : List (Int × Int)) (w : World) (he : RdE w w.heap.size A es) (hl : es.length ≤ 8796093022208) :
    Calls Tryd.prog 25 #[.slice A es.length c] w fun e w' => ∃ v', e = .returned v' ∧ w'.ownsRow w.heap.size 38 2 v' es.length (eVals es) ∧ Below w.heap.size w w' := by
  rcases Nat.eq_zero_or_pos es.length with h0 | hp
  · obtain rfl : es = [] := List.length_eq_zero_iff.1 h0
    obtain ⟨i0, hi, hz0, hz1, hz2⟩ := info_parts Tryd.infoEd
    have q22 : ∀ (w : World) (a : Option Addr) (n c n' c' : Nat), (binOp .eql 22 (.slice a n c) (.slice none n' c')).run Tryd.prog w = .ok (.bool a.isNone) w := fun w a n c n' c' => Lib.run_eql_slice_nil w _ _ a n c n' c' Tryd.underlying22
    clear he
    cases A with
    | none =>
      go_enter Tryd.func25, Tryd.ntmps25
      go_wp2_with fail
      go_ret
      exact ⟨_, rfl, World.ownsRow_nil _ _ _ _, Below.refl _ _⟩
    | some a =>
      go_enter Tryd.func25, Tryd.ntmps25
      go_wp2_with (at_builtin; refine wpList_append_own _ rfl _ _ 22 rfl w.heap.size 38 i0 (.agg #[.int .i64 0, .int .i64 0]) 2 16 Tryd.underlying22 hi hz0 hz1 hz2 rfl (by decide) _ _ _ rfl (World.ownsRow_made w #[] 0 (Nat.le_refl _) (Nat.zero_le _) rfl) a 0 c [] rfl rfl (by simp) (by simp) (by unfold maxLen; omega) (by omega) (by simp) ?_)
      intro v' w1 hown hgrow hnil
      go_wp2
      go_ret
      refine ⟨v', rfl, by simpa [eVals] using hown, ?_⟩
      exact ((Below.refl _ w).alloc (Nat.le_refl _) _).grown hgrow (by simp) (by intro k hk; simp [Value.ownBlock] at hk; omega)
  · exact cloneE_any A c es w he hp hl

/-- two boxes of two cells, and all that lay -/
abbrev HeldN (w1 : World) (B B' : Nat) (x : Int) (v : Value) (y z : Int) (w' : World) : Prop := w'.cell? ⟨B, 0, none⟩ = some (.int .i64 x) ∧ w'.cell? ⟨B, 1, none⟩ = some v ∧ w'.cell? ⟨B', 0, none⟩ = some (.int .i64 y) ∧ w'.cell? ⟨B', 1, none⟩ = some (.int .i64 z) ∧ Below w1.heap.size w1 w'
theorem HeldN.drew {w1 W : World} {B B' : Nat} {x y z : Int} {v : Value} (h : HeldN w1 B B' x v y z W) : HeldN w1 B B' x v y z W.drew := ⟨h.1, h.2.1, h.2.2.1, h.2.2.2.1, h.2.2.2.2.drew⟩
theorem HeldN.below {w1 W w2 : World} {B B' : Nat} {x y z : Int} {v : Value} (h : HeldN w1 B B' x v y z W) (hl : B < w1.heap.size ∧ B' < w1.heap.size) (hb : Below w1.heap.size W w2) : HeldN w1 B B' x v y z w2 :=
  ⟨(hb.cell (p := ⟨B, 0, none⟩) hl.1).trans h.1, (hb.cell (p := ⟨B, 1, none⟩) hl.1).trans h.2.1, (hb.cell (p := ⟨B', 0, none⟩) hl.2).trans h.2.2.1, (hb.cell (p := ⟨B', 1, none⟩) hl.2).trans h.2.2.2.1, h.2.2.2.2.trans hb⟩
theorem HeldN.step {w1 W w2 : World} {B B' : Nat} {x y z : Int} {v : Value} (h : HeldN w1 B B' x v y z W) (hl : B < w1.heap.size ∧ B' < w1.heap.size) (hb : Below W.heap.size W w2) : HeldN w1 B B' x v y z w2 :=
  h.below hl (hb.mono h.2.2.2.2.size)
theorem HeldN.alloc {w1 W : World} {B B' : Nat} {x y z : Int} {v : Value} (hl : B < w1.heap.size ∧ B' < w1.heap.size) (h : HeldN w1 B B' x v y z W) (o : Obj) : HeldN w1 B B' x v y z (W.alloc o) := h.step hl (below_alloc _ _)
theorem HeldN.set2 {w1 W : World} {B B' D : Nat} {x y z : Int} {v : Value} (hl : B < w1.heap.size ∧ B' < w1.heap.size) (hD : w1.heap.size ≤ D) (a b : Value) (h : HeldN w1 B B' x v y z W) : HeldN w1 B B' x v y z ((W.setCell ⟨D, 0, none⟩ a).setCell ⟨D, 1, none⟩ b) :=
  h.below hl (((Below.refl _ W).setCell (p := ⟨D, 0, none⟩) hD a).setCell (p := ⟨D, 1, none⟩) hD b)
end Go.Proofs.YtaboafkpmgadmaaDoor

namespace Go.Proofs.YtaboafkpmgadmaaDoor
open Go.RowKit Go.Shelf
set_option maxRecDepth 100000

/-- a new block of two ints -/
def TB (T : Nat) (x y : Int) (W : World) : Prop := W.heap[T]? = some (.cells #[.int .i64 x, .int .i64 y] 38 (0, 0))
theorem TB.new' {W : World} {T : Nat} {x y : Int} (h : T = W.heap.size) : TB T x y (W.alloc (.cells #[.int .i64 x, .int .i64 y] 38)) := by subst h; exact World.alloc_heap_new W _
theorem TB.lt {T : Nat} {x y : Int} {W : World} (h : TB T x y W) : T < W.heap.size := (Array.getElem?_eq_some_iff.1 h).1
theorem TB.step {T : Nat} {x y : Int} {W W2 : World} (h : TB T x y W) (hb : Below W.heap.size W W2) : TB T x y W2 := (hb.block T h.lt).trans h
theorem TB.alloc {T : Nat} {x y : Int} {W : World} (h : TB T x y W) (o : Obj) : TB T x y (W.alloc o) := h.step (below_alloc _ _)
theorem TB.drew {T : Nat} {x y : Int} {W : World} (h : TB T x y W) : TB T x y W.drew := h
/-- a new graph's box, empty -/
def DB (D : Nat) (W : World) : Prop := GB 24 W D 0 (.slice none 0 0)
theorem DB.new' {W : World} {D : Nat} (h : D = W.heap.size) : DB D (W.alloc (.cells #[.int .i64 0, .slice none 0 0] 24)) := by subst h; exact GB.new W _ _ _
theorem DB.step {D : Nat} {W W2 : World} (h : DB D W) (hb : Below W.heap.size W W2) : DB D W2 := GB.step h hb
theorem DB.alloc {D : Nat} {W : World} (h : DB D W) (o : Obj) : DB D (W.alloc o) := GB.alloc h o
theorem DB.drew {D : Nat} {W : World} (h : DB D W) : DB D W.drew := h
theorem DB.grown {D base size n : Nat} {v : Value} {xs : List Value} {W W' : World} (hg : W.grownBy W' v.ownBlock) (ho : W.ownsRow base 38 size v n xs) (h : DB D W) : DB D W' := GB.kept h hg (GB.not_row h (by decide) ho)
theorem rdE_set2 {es : List (Int × Int)} {base size n cap g D : Nat} {xs : List Value} {W : World} (h : RdE W W.heap.size (some ⟨g, 0, none⟩) es) (ho : W.ownsRow base 38 size (.slice (some ⟨g, 0, none⟩) n cap) n xs) (hD : DB D W) (a b : Value) :
    RdE ((W.setCell ⟨D, 0, none⟩ a).setCell ⟨D, 1, none⟩ b) ((W.setCell ⟨D, 0, none⟩ a).setCell ⟨D, 1, none⟩ b).heap.size (some ⟨g, 0, none⟩) es := by
  have hne : (Value.slice (some ⟨g, 0, none⟩) n cap).ownBlock ≠ some D := fun e => GB.not_row hD (by decide) ho e.symm
  simpa using (h.set (p := ⟨D, 0, none⟩) (n := n) (c := cap) hne a).set (p := ⟨D, 1, none⟩) (n := n) (c := cap) hne b
theorem own_dr {w : World} {base e size n : Nat} {v : Value} {xs : List Value} (h : w.ownsRow base e size v n xs) : w.drew.ownsRow base e size v n xs := h
theorem own_al {w : World} {base e size n : Nat} {v : Value} {xs : List Value} (h : w.ownsRow base e size v n xs) (o : Obj) : (w.alloc o).ownsRow base e size v n xs := h.alloc o
theorem eVals_app (es : List (Int × Int)) (x y : Int) : eVals (es ++ [(x, y)]) = eVals es ++ [.int .i64 x, .int .i64 y] := by unfold eVals; simp
theorem rdE_app {es : List (Int × Int)} {x y : Int} {W : World} {base g cap : Nat} (h : W.ownsRow base 38 2 (.slice (some ⟨g, 0, none⟩) (es.length + 1) cap) (es.length + 1) (eVals es ++ [.int .i64 x, .int .i64 y]))
    (hb : ∀ e ∈ es ++ [(x, y)], (-9223372036854775808 ≤ e.1 ∧ e.1 ≤ 9223372036854775807) ∧ -9223372036854775808 ≤ e.2 ∧ e.2 ≤ 9223372036854775807) (hl : es.length + 1 ≤ 1099511627776) : RdE W W.heap.size (some ⟨g, 0, none⟩) (es ++ [(x, y)]) := by
  rw [← eVals_app] at h
  have hbd : ∀ k, (-9223372036854775808 ≤ (ed (es ++ [(x, y)]) k).1 ∧ (ed (es ++ [(x, y)]) k).1 ≤ 9223372036854775807) ∧ -9223372036854775808 ≤ (ed (es ++ [(x, y)]) k).2 ∧ (ed (es ++ [(x, y)]) k).2 ≤ 9223372036854775807 := fun k => by
    unfold ed
    rw [List.getD_eq_getElem?_getD]
    cases he : (es ++ [(x, y)])[k]? with
    | none => simp
    | some e => exact hb e (List.mem_of_getElem? he)
  refine ⟨fun k => (hbd k).1.1, fun k => (hbd k).1.2, fun k => (hbd k).2.1, fun k => (hbd k).2.2, by simpa using hl, fun _ => ⟨g, 0, rfl, ?_, fun k hk => ?_⟩⟩
  · rcases h.2 with ⟨h0, _⟩ | ⟨g', cap', cur, hv, _, hg, _⟩
    · cases h0
    · injection hv with hA _ _
      injection hA with hA
      injection hA with hA _
      subst hA
      exact (Array.getElem?_eq_some_iff.1 hg).1
  · rw [List.length_append, List.length_singleton] at hk
    have h1 := eVals_at (es ++ [(x, y)]) k (by rw [List.length_append, List.length_singleton]; exact hk)
    rw [Nat.zero_add, h.cellAt (k * 2) (by omega), h.cellAt (k * 2 + 1) (by omega)]
    exact h1

set_option maxHeartbeats 16000000 in
theorem moreLaw_any (A : Option Addr) (c : Nat) (N : Int) (es : List (Int × Int)) (x y : Int) (w : World) (he : RdE w w.heap.size A es) (hl : es.length ≤ 1048576) (hx : -9223372036854775808 ≤ x ∧ x ≤ 9223372036854775807) (hy : -9223372036854775808 ≤ y ∧ y ≤ 9223372036854775807) (hT : Tab w) :
    Calls Tryd.prog 12 #[.agg #[.int .i64 N, .slice A es.length c], .agg #[.int .i64 x, .int .i64 y]] w fun e w' => e = .returned (.bool true) ∧ Below w.heap.size w w' := by
  obtain ⟨i0, hi, hz0, hz1, hz2⟩ := info_parts Tryd.infoEd
  have hbd : ∀ e ∈ es ++ [(x, y)], (-9223372036854775808 ≤ e.1 ∧ e.1 ≤ 9223372036854775807) ∧ -9223372036854775808 ≤ e.2 ∧ e.2 ≤ 9223372036854775807 := by
    intro e hm
    rcases List.mem_append.1 hm with h | h
    · obtain ⟨k, hk, rfl⟩ := List.getElem_of_mem h
      have h1 := he.lo1 k
      have h2 := he.hi1 k
      have h3 := he.lo2 k
      have h4 := he.hi2 k
      unfold ed at h1 h2 h3 h4
      simp [List.getD, hk] at h1 h2 h3 h4
      exact ⟨⟨h1, h2⟩, h3, h4⟩
    · simp at h
      subst h
      exact ⟨hx, hy⟩
  have HBD := Lib.hid hbd
  clear hbd hx hy
  go_enter Tryd.func12, Tryd.ntmps12
  go_wp2_with fail
  have g1 := (GB.new w 24 N (.slice A es.length c)).alloc (.cells #[.int .i64 x, .int .i64 y] 38)
  have X1 := TB.new' (x := x) (y := y) (W := w.alloc (.cells #[.int .i64 N, .slice A es.length c] 24)) (T := w.heap.size + 1) (by simp)
  have hB : Below w.heap.size w ((w.alloc (.cells #[.int .i64 N, .slice A es.length c] 24)).alloc (.cells #[.int .i64 x, .int .i64 y] 38)) := ((Below.refl _ _).alloc (Nat.le_refl _) _).alloc (by simp) _
  obtain ⟨w1, hw1⟩ : ∃ w1, w1 = (w.alloc (.cells #[.int .i64 N, .slice A es.length c] 24)).alloc (.cells #[.int .i64 x, .int .i64 y] 38) := ⟨_, rfl⟩
  rw [← hw1] at g1 hB X1 ⊢
  have hs := hB.size
  replace he := he.step hB
  replace hT := hT.step hB
  clear hw1
  refine (alive3_any _ hT).mono ?_
  rintro e w2 ⟨rfl, hb⟩
  replace g1 := g1.step hb
  replace X1 := X1.step hb
  replace he := he.step hb
  replace hT := hT.step hb
  replace hB := below_step hB hs hb
  replace hs := hB.size
  clear hb
  have n1 := g1.n
  have e1 := g1.e
  go_wp2_with fail
  have x1 : w2.cell? ⟨w.heap.size + 1, 0, none⟩ = some (.int .i64 x) := by have h := X1; unfold TB at h; unfold World.cell?; dsimp only; rw [h]; rfl
  have y1 : w2.cell? ⟨w.heap.size + 1, 1, none⟩ = some (.int .i64 y) := by have h := X1; unfold TB at h; unfold World.cell?; dsimp only; rw [h]; rfl
  have hl2 : w.heap.size < w2.heap.size ∧ w.heap.size + 1 < w2.heap.size := ⟨g1.lt, X1.lt⟩
  have H1 : Hid (∀ W : World, HeldN w2 w.heap.size (w.heap.size + 1) N (.slice A es.length c) x y W → Calls Tryd.prog 25 #[.slice A es.length c] W fun e w' => ∃ v', e = .returned v' ∧ w'.ownsRow w2.heap.size 38 2 v' es.length (eVals es) ∧ Below W.heap.size W w' ∧ HeldN w2 w.heap.size (w.heap.size + 1) N (.slice A es.length c) x y w') := Lib.hid fun W hW => by
    refine (cloneE0_any A c es W ((he.below hW.2.2.2.2).more hW.2.2.2.2.size) (by omega)).mono ?_
    rintro e w' ⟨v', rfl, hown, hbe⟩
    exact ⟨v', rfl, own_mono hown hW.2.2.2.2.size, hbe, hW.step hl2 hbe⟩
  have HL2 := Lib.hid hl2
  have hb0 := Below.refl w2.heap.size w2
  have h63 : es.length + 1 ≤ maxLen := by unfold maxLen; omega
  have h47 : (es.length + 1) * 16 ≤ 140737488355328 := by omega
  have HG := Lib.hid g1
  have HXX := Lib.hid X1
  have HHE := Lib.hid he
  have HHT := Lib.hid hT
  have HHB := Lib.hid hB
  clear g1 X1 he hT hB hl2
  go_cut [5] from 20 to 28 (fun t wx => ∃ D g c', t = .pointer (some ⟨D, 0, none⟩) ∧ GB 24 wx D N (.slice (some ⟨g, 0, none⟩) (es.length + 1) c') ∧ RdE wx wx.heap.size (some ⟨g, 0, none⟩) (es ++ [(x, y)]) ∧ Below w2.heap.size w2 wx)
  case first =>
    go_region_held3 (HeldN w2 w.heap.size (w.heap.size + 1) N (.slice A es.length c) x y)
      (first
        | (go_split_ands; refine ⟨?_, ?_, ?_, ?_, ?_⟩ <;> assumption)
        | (go_split_ands; exact HeldN.drew ⟨‹_›, ‹_›, ‹_›, ‹_›, ‹_›⟩)
        | (go_split_ands; exact HeldN.alloc HL2.out ⟨‹_›, ‹_›, ‹_›, ‹_›, ‹_›⟩ _)
        | (go_split_ands; exact HeldN.drew (HeldN.alloc HL2.out ⟨‹_›, ‹_›, ‹_›, ‹_›, ‹_›⟩ _))
        | (go_split_ands; exact HeldN.set2 HL2.out (by first | omega | (simp; omega)) _ _ ⟨‹_›, ‹_›, ‹_›, ‹_›, ‹_›⟩))
      (first
        | (go_at_call 25; refine (H1.out _ (by assumption)).mono ?_; rintro e w6 ⟨v6, rfl, ho6, hb6, hq6⟩; have hs6 := hq6.2.2.2.2.size; (try (have hT6 : TB w2.heap.size x y w6 := TB.step (by (first | with_reducible assumption | (refine TB.new' ?_; first | rfl | exact (World.size_alloc _ _).symm | omega) | ((first | with_reducible refine TB.alloc ?_ _ | with_reducible refine TB.drew ?_); first | with_reducible assumption | (refine TB.new' ?_; first | rfl | exact (World.size_alloc _ _).symm | omega) | ((first | with_reducible refine TB.alloc ?_ _ | with_reducible refine TB.drew ?_); first | with_reducible assumption | (refine TB.new' ?_; first | rfl | exact (World.size_alloc _ _).symm | omega) | ((first | with_reducible refine TB.alloc ?_ _ | with_reducible refine TB.drew ?_); first | with_reducible assumption | (refine TB.new' ?_; first | rfl | exact (World.size_alloc _ _).symm | omega) | ((first | with_reducible refine TB.alloc ?_ _ | with_reducible refine TB.drew ?_); first | with_reducible assumption | (refine TB.new' ?_; first | rfl | exact (World.size_alloc _ _).symm | omega) | ((first | with_reducible refine TB.alloc ?_ _ | with_reducible refine TB.drew ?_); fail))))))) hb6)); (try (have hT6 : TB (w2.heap.size + 1) x y w6 := TB.step (by (first | with_reducible assumption | (refine TB.new' ?_; first | rfl | exact (World.size_alloc _ _).symm | omega) | ((first | with_reducible refine TB.alloc ?_ _ | with_reducible refine TB.drew ?_); first | with_reducible assumption | (refine TB.new' ?_; first | rfl | exact (World.size_alloc _ _).symm | omega) | ((first | with_reducible refine TB.alloc ?_ _ | with_reducible refine TB.drew ?_); first | with_reducible assumption | (refine TB.new' ?_; first | rfl | exact (World.size_alloc _ _).symm | omega) | ((first | with_reducible refine TB.alloc ?_ _ | with_reducible refine TB.drew ?_); first | with_reducible assumption | (refine TB.new' ?_; first | rfl | exact (World.size_alloc _ _).symm | omega) | ((first | with_reducible refine TB.alloc ?_ _ | with_reducible refine TB.drew ?_); first | with_reducible assumption | (refine TB.new' ?_; first | rfl | exact (World.size_alloc _ _).symm | omega) | ((first | with_reducible refine TB.alloc ?_ _ | with_reducible refine TB.drew ?_); fail))))))) hb6)); (try (have hD6 : DB w2.heap.size w6 := DB.step (by (first | with_reducible assumption | (refine DB.new' ?_; first | rfl | exact (World.size_alloc _ _).symm | omega) | ((first | with_reducible refine DB.alloc ?_ _ | with_reducible refine DB.drew ?_); first | with_reducible assumption | (refine DB.new' ?_; first | rfl | exact (World.size_alloc _ _).symm | omega) | ((first | with_reducible refine DB.alloc ?_ _ | with_reducible refine DB.drew ?_); first | with_reducible assumption | (refine DB.new' ?_; first | rfl | exact (World.size_alloc _ _).symm | omega) | ((first | with_reducible refine DB.alloc ?_ _ | with_reducible refine DB.drew ?_); first | with_reducible assumption | (refine DB.new' ?_; first | rfl | exact (World.size_alloc _ _).symm | omega) | ((first | with_reducible refine DB.alloc ?_ _ | with_reducible refine DB.drew ?_); first | with_reducible assumption | (refine DB.new' ?_; first | rfl | exact (World.size_alloc _ _).symm | omega) | ((first | with_reducible refine DB.alloc ?_ _ | with_reducible refine DB.drew ?_); fail))))))) hb6)); (try (have hD6 : DB (w2.heap.size + 1) w6 := DB.step (by (first | with_reducible assumption | (refine DB.new' ?_; first | rfl | exact (World.size_alloc _ _).symm | omega) | ((first | with_reducible refine DB.alloc ?_ _ | with_reducible refine DB.drew ?_); first | with_reducible assumption | (refine DB.new' ?_; first | rfl | exact (World.size_alloc _ _).symm | omega) | ((first | with_reducible refine DB.alloc ?_ _ | with_reducible refine DB.drew ?_); first | with_reducible assumption | (refine DB.new' ?_; first | rfl | exact (World.size_alloc _ _).symm | omega) | ((first | with_reducible refine DB.alloc ?_ _ | with_reducible refine DB.drew ?_); first | with_reducible assumption | (refine DB.new' ?_; first | rfl | exact (World.size_alloc _ _).symm | omega) | ((first | with_reducible refine DB.alloc ?_ _ | with_reducible refine DB.drew ?_); first | with_reducible assumption | (refine DB.new' ?_; first | rfl | exact (World.size_alloc _ _).symm | omega) | ((first | with_reducible refine DB.alloc ?_ _ | with_reducible refine DB.drew ?_); fail))))))) hb6)))
        | (refine step_append_lies _ (by rfl) _ _ _ (by rfl) w2.heap.size 38 i0 _ 2 16 Tryd.underlying22 hi hz0 hz1 hz2 rfl (by omega) v6 es.length (eVals es) (by rfl) (by (first | with_reducible assumption | ((first | with_reducible refine own_al ?_ _ | with_reducible refine own_dr ?_); first | with_reducible assumption | ((first | with_reducible refine own_al ?_ _ | with_reducible refine own_dr ?_); first | with_reducible assumption | ((first | with_reducible refine own_al ?_ _ | with_reducible refine own_dr ?_); first | with_reducible assumption | ((first | with_reducible refine own_al ?_ _ | with_reducible refine own_dr ?_); first | with_reducible assumption | ((first | with_reducible refine own_al ?_ _ | with_reducible refine own_dr ?_); fail))))))) ⟨w6.heap.size, 0, none⟩ 1 1 [.int .i64 x, .int .i64 y] (by rfl) (by rfl) (World.news_of_block (cs := #[.int .i64 x, .int .i64 y]) (t := 38) (fr := (0, 0)) (show TB w6.heap.size x y _ from (by (first | with_reducible assumption | (refine TB.new' ?_; first | rfl | exact (World.size_alloc _ _).symm | omega) | ((first | with_reducible refine TB.alloc ?_ _ | with_reducible refine TB.drew ?_); first | with_reducible assumption | (refine TB.new' ?_; first | rfl | exact (World.size_alloc _ _).symm | omega) | ((first | with_reducible refine TB.alloc ?_ _ | with_reducible refine TB.drew ?_); first | with_reducible assumption | (refine TB.new' ?_; first | rfl | exact (World.size_alloc _ _).symm | omega) | ((first | with_reducible refine TB.alloc ?_ _ | with_reducible refine TB.drew ?_); first | with_reducible assumption | (refine TB.new' ?_; first | rfl | exact (World.size_alloc _ _).symm | omega) | ((first | with_reducible refine TB.alloc ?_ _ | with_reducible refine TB.drew ?_); first | with_reducible assumption | (refine TB.new' ?_; first | rfl | exact (World.size_alloc _ _).symm | omega) | ((first | with_reducible refine TB.alloc ?_ _ | with_reducible refine TB.drew ?_); fail))))))))) (by simp [Value.oneCell']) (by omega) h63 h47 (by first | omega | (simp; omega)) _ rfl ?_; intro gg cap w7 hown7 hgrow hat hlt7; have hq7 := HeldN.below (by assumption) HL2.out ((Below.refl w2.heap.size _).grown hgrow (by first | omega | (simp; omega)) (own_base ho6)); have hs7 := hq7.2.2.2.2.size; (try (have hD7 : DB w2.heap.size w7 := DB.grown (base := w2.heap.size) (size := 2) (n := es.length) (xs := eVals es) hgrow (by (first | with_reducible assumption | ((first | with_reducible refine own_al ?_ _ | with_reducible refine own_dr ?_); first | with_reducible assumption | ((first | with_reducible refine own_al ?_ _ | with_reducible refine own_dr ?_); first | with_reducible assumption | ((first | with_reducible refine own_al ?_ _ | with_reducible refine own_dr ?_); first | with_reducible assumption | ((first | with_reducible refine own_al ?_ _ | with_reducible refine own_dr ?_); first | with_reducible assumption | ((first | with_reducible refine own_al ?_ _ | with_reducible refine own_dr ?_); fail))))))) (by (first | with_reducible assumption | (refine DB.new' ?_; first | rfl | exact (World.size_alloc _ _).symm | omega) | ((first | with_reducible refine DB.alloc ?_ _ | with_reducible refine DB.drew ?_); first | with_reducible assumption | (refine DB.new' ?_; first | rfl | exact (World.size_alloc _ _).symm | omega) | ((first | with_reducible refine DB.alloc ?_ _ | with_reducible refine DB.drew ?_); first | with_reducible assumption | (refine DB.new' ?_; first | rfl | exact (World.size_alloc _ _).symm | omega) | ((first | with_reducible refine DB.alloc ?_ _ | with_reducible refine DB.drew ?_); first | with_reducible assumption | (refine DB.new' ?_; first | rfl | exact (World.size_alloc _ _).symm | omega) | ((first | with_reducible refine DB.alloc ?_ _ | with_reducible refine DB.drew ?_); first | with_reducible assumption | (refine DB.new' ?_; first | rfl | exact (World.size_alloc _ _).symm | omega) | ((first | with_reducible refine DB.alloc ?_ _ | with_reducible refine DB.drew ?_); fail))))))); have hDn := GB.n hD7; have hDe := GB.e hD7; have hDf := GB.frozen hD7)); (try (have hD7 : DB (w2.heap.size + 1) w7 := DB.grown (base := w2.heap.size) (size := 2) (n := es.length) (xs := eVals es) hgrow (by (first | with_reducible assumption | ((first | with_reducible refine own_al ?_ _ | with_reducible refine own_dr ?_); first | with_reducible assumption | ((first | with_reducible refine own_al ?_ _ | with_reducible refine own_dr ?_); first | with_reducible assumption | ((first | with_reducible refine own_al ?_ _ | with_reducible refine own_dr ?_); first | with_reducible assumption | ((first | with_reducible refine own_al ?_ _ | with_reducible refine own_dr ?_); first | with_reducible assumption | ((first | with_reducible refine own_al ?_ _ | with_reducible refine own_dr ?_); fail))))))) (by (first | with_reducible assumption | (refine DB.new' ?_; first | rfl | exact (World.size_alloc _ _).symm | omega) | ((first | with_reducible refine DB.alloc ?_ _ | with_reducible refine DB.drew ?_); first | with_reducible assumption | (refine DB.new' ?_; first | rfl | exact (World.size_alloc _ _).symm | omega) | ((first | with_reducible refine DB.alloc ?_ _ | with_reducible refine DB.drew ?_); first | with_reducible assumption | (refine DB.new' ?_; first | rfl | exact (World.size_alloc _ _).symm | omega) | ((first | with_reducible refine DB.alloc ?_ _ | with_reducible refine DB.drew ?_); first | with_reducible assumption | (refine DB.new' ?_; first | rfl | exact (World.size_alloc _ _).symm | omega) | ((first | with_reducible refine DB.alloc ?_ _ | with_reducible refine DB.drew ?_); first | with_reducible assumption | (refine DB.new' ?_; first | rfl | exact (World.size_alloc _ _).symm | omega) | ((first | with_reducible refine DB.alloc ?_ _ | with_reducible refine DB.drew ?_); fail))))))); have hDn := GB.n hD7; have hDe := GB.e hD7; have hDf := GB.frozen hD7)); (try (have hD7 : DB w6.heap.size w7 := DB.grown (base := w2.heap.size) (size := 2) (n := es.length) (xs := eVals es) hgrow (by (first | with_reducible assumption | ((first | with_reducible refine own_al ?_ _ | with_reducible refine own_dr ?_); first | with_reducible assumption | ((first | with_reducible refine own_al ?_ _ | with_reducible refine own_dr ?_); first | with_reducible assumption | ((first | with_reducible refine own_al ?_ _ | with_reducible refine own_dr ?_); first | with_reducible assumption | ((first | with_reducible refine own_al ?_ _ | with_reducible refine own_dr ?_); first | with_reducible assumption | ((first | with_reducible refine own_al ?_ _ | with_reducible refine own_dr ?_); fail))))))) (by (first | with_reducible assumption | (refine DB.new' ?_; first | rfl | exact (World.size_alloc _ _).symm | omega) | ((first | with_reducible refine DB.alloc ?_ _ | with_reducible refine DB.drew ?_); first | with_reducible assumption | (refine DB.new' ?_; first | rfl | exact (World.size_alloc _ _).symm | omega) | ((first | with_reducible refine DB.alloc ?_ _ | with_reducible refine DB.drew ?_); first | with_reducible assumption | (refine DB.new' ?_; first | rfl | exact (World.size_alloc _ _).symm | omega) | ((first | with_reducible refine DB.alloc ?_ _ | with_reducible refine DB.drew ?_); first | with_reducible assumption | (refine DB.new' ?_; first | rfl | exact (World.size_alloc _ _).symm | omega) | ((first | with_reducible refine DB.alloc ?_ _ | with_reducible refine DB.drew ?_); first | with_reducible assumption | (refine DB.new' ?_; first | rfl | exact (World.size_alloc _ _).symm | omega) | ((first | with_reducible refine DB.alloc ?_ _ | with_reducible refine DB.drew ?_); fail))))))); have hDn := GB.n hD7; have hDe := GB.e hD7; have hDf := GB.frozen hD7)); (try (have hD7 : DB (w6.heap.size + 1) w7 := DB.grown (base := w2.heap.size) (size := 2) (n := es.length) (xs := eVals es) hgrow (by (first | with_reducible assumption | ((first | with_reducible refine own_al ?_ _ | with_reducible refine own_dr ?_); first | with_reducible assumption | ((first | with_reducible refine own_al ?_ _ | with_reducible refine own_dr ?_); first | with_reducible assumption | ((first | with_reducible refine own_al ?_ _ | with_reducible refine own_dr ?_); first | with_reducible assumption | ((first | with_reducible refine own_al ?_ _ | with_reducible refine own_dr ?_); first | with_reducible assumption | ((first | with_reducible refine own_al ?_ _ | with_reducible refine own_dr ?_); fail))))))) (by (first | with_reducible assumption | (refine DB.new' ?_; first | rfl | exact (World.size_alloc _ _).symm | omega) | ((first | with_reducible refine DB.alloc ?_ _ | with_reducible refine DB.drew ?_); first | with_reducible assumption | (refine DB.new' ?_; first | rfl | exact (World.size_alloc _ _).symm | omega) | ((first | with_reducible refine DB.alloc ?_ _ | with_reducible refine DB.drew ?_); first | with_reducible assumption | (refine DB.new' ?_; first | rfl | exact (World.size_alloc _ _).symm | omega) | ((first | with_reducible refine DB.alloc ?_ _ | with_reducible refine DB.drew ?_); first | with_reducible assumption | (refine DB.new' ?_; first | rfl | exact (World.size_alloc _ _).symm | omega) | ((first | with_reducible refine DB.alloc ?_ _ | with_reducible refine DB.drew ?_); first | with_reducible assumption | (refine DB.new' ?_; first | rfl | exact (World.size_alloc _ _).symm | omega) | ((first | with_reducible refine DB.alloc ?_ _ | with_reducible refine DB.drew ?_); fail))))))); have hDn := GB.n hD7; have hDe := GB.e hD7; have hDf := GB.frozen hD7)))
        | (refine step_append_lies _ (by rfl) _ _ _ (by rfl) w2.heap.size 38 i0 _ 2 16 Tryd.underlying22 hi hz0 hz1 hz2 rfl (by omega) v6 es.length (eVals es) (by rfl) (by (first | with_reducible assumption | ((first | with_reducible refine own_al ?_ _ | with_reducible refine own_dr ?_); first | with_reducible assumption | ((first | with_reducible refine own_al ?_ _ | with_reducible refine own_dr ?_); first | with_reducible assumption | ((first | with_reducible refine own_al ?_ _ | with_reducible refine own_dr ?_); first | with_reducible assumption | ((first | with_reducible refine own_al ?_ _ | with_reducible refine own_dr ?_); first | with_reducible assumption | ((first | with_reducible refine own_al ?_ _ | with_reducible refine own_dr ?_); fail))))))) ⟨(w6.heap.size + 1), 0, none⟩ 1 1 [.int .i64 x, .int .i64 y] (by rfl) (by rfl) (World.news_of_block (cs := #[.int .i64 x, .int .i64 y]) (t := 38) (fr := (0, 0)) (show TB (w6.heap.size + 1) x y _ from (by (first | with_reducible assumption | (refine TB.new' ?_; first | rfl | exact (World.size_alloc _ _).symm | omega) | ((first | with_reducible refine TB.alloc ?_ _ | with_reducible refine TB.drew ?_); first | with_reducible assumption | (refine TB.new' ?_; first | rfl | exact (World.size_alloc _ _).symm | omega) | ((first | with_reducible refine TB.alloc ?_ _ | with_reducible refine TB.drew ?_); first | with_reducible assumption | (refine TB.new' ?_; first | rfl | exact (World.size_alloc _ _).symm | omega) | ((first | with_reducible refine TB.alloc ?_ _ | with_reducible refine TB.drew ?_); first | with_reducible assumption | (refine TB.new' ?_; first | rfl | exact (World.size_alloc _ _).symm | omega) | ((first | with_reducible refine TB.alloc ?_ _ | with_reducible refine TB.drew ?_); first | with_reducible assumption | (refine TB.new' ?_; first | rfl | exact (World.size_alloc _ _).symm | omega) | ((first | with_reducible refine TB.alloc ?_ _ | with_reducible refine TB.drew ?_); fail))))))))) (by simp [Value.oneCell']) (by omega) h63 h47 (by first | omega | (simp; omega)) _ rfl ?_; intro gg cap w7 hown7 hgrow hat hlt7; have hq7 := HeldN.below (by assumption) HL2.out ((Below.refl w2.heap.size _).grown hgrow (by first | omega | (simp; omega)) (own_base ho6)); have hs7 := hq7.2.2.2.2.size; (try (have hD7 : DB w2.heap.size w7 := DB.grown (base := w2.heap.size) (size := 2) (n := es.length) (xs := eVals es) hgrow (by (first | with_reducible assumption | ((first | with_reducible refine own_al ?_ _ | with_reducible refine own_dr ?_); first | with_reducible assumption | ((first | with_reducible refine own_al ?_ _ | with_reducible refine own_dr ?_); first | with_reducible assumption | ((first | with_reducible refine own_al ?_ _ | with_reducible refine own_dr ?_); first | with_reducible assumption | ((first | with_reducible refine own_al ?_ _ | with_reducible refine own_dr ?_); first | with_reducible assumption | ((first | with_reducible refine own_al ?_ _ | with_reducible refine own_dr ?_); fail))))))) (by (first | with_reducible assumption | (refine DB.new' ?_; first | rfl | exact (World.size_alloc _ _).symm | omega) | ((first | with_reducible refine DB.alloc ?_ _ | with_reducible refine DB.drew ?_); first | with_reducible assumption | (refine DB.new' ?_; first | rfl | exact (World.size_alloc _ _).symm | omega) | ((first | with_reducible refine DB.alloc ?_ _ | with_reducible refine DB.drew ?_); first | with_reducible assumption | (refine DB.new' ?_; first | rfl | exact (World.size_alloc _ _).symm | omega) | ((first | with_reducible refine DB.alloc ?_ _ | with_reducible refine DB.drew ?_); first | with_reducible assumption | (refine DB.new' ?_; first | rfl | exact (World.size_alloc _ _).symm | omega) | ((first | with_reducible refine DB.alloc ?_ _ | with_reducible refine DB.drew ?_); first | with_reducible assumption | (refine DB.new' ?_; first | rfl | exact (World.size_alloc _ _).symm | omega) | ((first | with_reducible refine DB.alloc ?_ _ | with_reducible refine DB.drew ?_); fail))))))); have hDn := GB.n hD7; have hDe := GB.e hD7; have hDf := GB.frozen hD7)); (try (have hD7 : DB (w2.heap.size + 1) w7 := DB.grown (base := w2.heap.size) (size := 2) (n := es.length) (xs := eVals es) hgrow (by (first | with_reducible assumption | ((first | with_reducible refine own_al ?_ _ | with_reducible refine own_dr ?_); first | with_reducible assumption | ((first | with_reducible refine own_al ?_ _ | with_reducible refine own_dr ?_); first | with_reducible assumption | ((first | with_reducible refine own_al ?_ _ | with_reducible refine own_dr ?_); first | with_reducible assumption | ((first | with_reducible refine own_al ?_ _ | with_reducible refine own_dr ?_); first | with_reducible assumption | ((first | with_reducible refine own_al ?_ _ | with_reducible refine own_dr ?_); fail))))))) (by (first | with_reducible assumption | (refine DB.new' ?_; first | rfl | exact (World.size_alloc _ _).symm | omega) | ((first | with_reducible refine DB.alloc ?_ _ | with_reducible refine DB.drew ?_); first | with_reducible assumption | (refine DB.new' ?_; first | rfl | exact (World.size_alloc _ _).symm | omega) | ((first | with_reducible refine DB.alloc ?_ _ | with_reducible refine DB.drew ?_); first | with_reducible assumption | (refine DB.new' ?_; first | rfl | exact (World.size_alloc _ _).symm | omega) | ((first | with_reducible refine DB.alloc ?_ _ | with_reducible refine DB.drew ?_); first | with_reducible assumption | (refine DB.new' ?_; first | rfl | exact (World.size_alloc _ _).symm | omega) | ((first | with_reducible refine DB.alloc ?_ _ | with_reducible refine DB.drew ?_); first | with_reducible assumption | (refine DB.new' ?_; first | rfl | exact (World.size_alloc _ _).symm | omega) | ((first | with_reducible refine DB.alloc ?_ _ | with_reducible refine DB.drew ?_); fail))))))); have hDn := GB.n hD7; have hDe := GB.e hD7; have hDf := GB.frozen hD7)); (try (have hD7 : DB w6.heap.size w7 := DB.grown (base := w2.heap.size) (size := 2) (n := es.length) (xs := eVals es) hgrow (by (first | with_reducible assumption | ((first | with_reducible refine own_al ?_ _ | with_reducible refine own_dr ?_); first | with_reducible assumption | ((first | with_reducible refine own_al ?_ _ | with_reducible refine own_dr ?_); first | with_reducible assumption | ((first | with_reducible refine own_al ?_ _ | with_reducible refine own_dr ?_); first | with_reducible assumption | ((first | with_reducible refine own_al ?_ _ | with_reducible refine own_dr ?_); first | with_reducible assumption | ((first | with_reducible refine own_al ?_ _ | with_reducible refine own_dr ?_); fail))))))) (by (first | with_reducible assumption | (refine DB.new' ?_; first | rfl | exact (World.size_alloc _ _).symm | omega) | ((first | with_reducible refine DB.alloc ?_ _ | with_reducible refine DB.drew ?_); first | with_reducible assumption | (refine DB.new' ?_; first | rfl | exact (World.size_alloc _ _).symm | omega) | ((first | with_reducible refine DB.alloc ?_ _ | with_reducible refine DB.drew ?_); first | with_reducible assumption | (refine DB.new' ?_; first | rfl | exact (World.size_alloc _ _).symm | omega) | ((first | with_reducible refine DB.alloc ?_ _ | with_reducible refine DB.drew ?_); first | with_reducible assumption | (refine DB.new' ?_; first | rfl | exact (World.size_alloc _ _).symm | omega) | ((first | with_reducible refine DB.alloc ?_ _ | with_reducible refine DB.drew ?_); first | with_reducible assumption | (refine DB.new' ?_; first | rfl | exact (World.size_alloc _ _).symm | omega) | ((first | with_reducible refine DB.alloc ?_ _ | with_reducible refine DB.drew ?_); fail))))))); have hDn := GB.n hD7; have hDe := GB.e hD7; have hDf := GB.frozen hD7)); (try (have hD7 : DB (w6.heap.size + 1) w7 := DB.grown (base := w2.heap.size) (size := 2) (n := es.length) (xs := eVals es) hgrow (by (first | with_reducible assumption | ((first | with_reducible refine own_al ?_ _ | with_reducible refine own_dr ?_); first | with_reducible assumption | ((first | with_reducible refine own_al ?_ _ | with_reducible refine own_dr ?_); first | with_reducible assumption | ((first | with_reducible refine own_al ?_ _ | with_reducible refine own_dr ?_); first | with_reducible assumption | ((first | with_reducible refine own_al ?_ _ | with_reducible refine own_dr ?_); first | with_reducible assumption | ((first | with_reducible refine own_al ?_ _ | with_reducible refine own_dr ?_); fail))))))) (by (first | with_reducible assumption | (refine DB.new' ?_; first | rfl | exact (World.size_alloc _ _).symm | omega) | ((first | with_reducible refine DB.alloc ?_ _ | with_reducible refine DB.drew ?_); first | with_reducible assumption | (refine DB.new' ?_; first | rfl | exact (World.size_alloc _ _).symm | omega) | ((first | with_reducible refine DB.alloc ?_ _ | with_reducible refine DB.drew ?_); first | with_reducible assumption | (refine DB.new' ?_; first | rfl | exact (World.size_alloc _ _).symm | omega) | ((first | with_reducible refine DB.alloc ?_ _ | with_reducible refine DB.drew ?_); first | with_reducible assumption | (refine DB.new' ?_; first | rfl | exact (World.size_alloc _ _).symm | omega) | ((first | with_reducible refine DB.alloc ?_ _ | with_reducible refine DB.drew ?_); first | with_reducible assumption | (refine DB.new' ?_; first | rfl | exact (World.size_alloc _ _).symm | omega) | ((first | with_reducible refine DB.alloc ?_ _ | with_reducible refine DB.drew ?_); fail))))))); have hDn := GB.n hD7; have hDe := GB.e hD7; have hDf := GB.frozen hD7)))
        | (refine step_append_lies _ (by rfl) _ _ _ (by rfl) w2.heap.size 38 i0 _ 2 16 Tryd.underlying22 hi hz0 hz1 hz2 rfl (by omega) v6 es.length (eVals es) (by rfl) (by (first | with_reducible assumption | ((first | with_reducible refine own_al ?_ _ | with_reducible refine own_dr ?_); first | with_reducible assumption | ((first | with_reducible refine own_al ?_ _ | with_reducible refine own_dr ?_); first | with_reducible assumption | ((first | with_reducible refine own_al ?_ _ | with_reducible refine own_dr ?_); first | with_reducible assumption | ((first | with_reducible refine own_al ?_ _ | with_reducible refine own_dr ?_); first | with_reducible assumption | ((first | with_reducible refine own_al ?_ _ | with_reducible refine own_dr ?_); fail))))))) ⟨w2.heap.size, 0, none⟩ 1 1 [.int .i64 x, .int .i64 y] (by rfl) (by rfl) (World.news_of_block (cs := #[.int .i64 x, .int .i64 y]) (t := 38) (fr := (0, 0)) (show TB w2.heap.size x y _ from (by (first | with_reducible assumption | (refine TB.new' ?_; first | rfl | exact (World.size_alloc _ _).symm | omega) | ((first | with_reducible refine TB.alloc ?_ _ | with_reducible refine TB.drew ?_); first | with_reducible assumption | (refine TB.new' ?_; first | rfl | exact (World.size_alloc _ _).symm | omega) | ((first | with_reducible refine TB.alloc ?_ _ | with_reducible refine TB.drew ?_); first | with_reducible assumption | (refine TB.new' ?_; first | rfl | exact (World.size_alloc _ _).symm | omega) | ((first | with_reducible refine TB.alloc ?_ _ | with_reducible refine TB.drew ?_); first | with_reducible assumption | (refine TB.new' ?_; first | rfl | exact (World.size_alloc _ _).symm | omega) | ((first | with_reducible refine TB.alloc ?_ _ | with_reducible refine TB.drew ?_); first | with_reducible assumption | (refine TB.new' ?_; first | rfl | exact (World.size_alloc _ _).symm | omega) | ((first | with_reducible refine TB.alloc ?_ _ | with_reducible refine TB.drew ?_); fail))))))))) (by simp [Value.oneCell']) (by omega) h63 h47 (by first | omega | (simp; omega)) _ rfl ?_; intro gg cap w7 hown7 hgrow hat hlt7; have hq7 := HeldN.below (by assumption) HL2.out ((Below.refl w2.heap.size _).grown hgrow (by first | omega | (simp; omega)) (own_base ho6)); have hs7 := hq7.2.2.2.2.size; (try (have hD7 : DB w2.heap.size w7 := DB.grown (base := w2.heap.size) (size := 2) (n := es.length) (xs := eVals es) hgrow (by (first | with_reducible assumption | ((first | with_reducible refine own_al ?_ _ | with_reducible refine own_dr ?_); first | with_reducible assumption | ((first | with_reducible refine own_al ?_ _ | with_reducible refine own_dr ?_); first | with_reducible assumption | ((first | with_reducible refine own_al ?_ _ | with_reducible refine own_dr ?_); first | with_reducible assumption | ((first | with_reducible refine own_al ?_ _ | with_reducible refine own_dr ?_); first | with_reducible assumption | ((first | with_reducible refine own_al ?_ _ | with_reducible refine own_dr ?_); fail))))))) (by (first | with_reducible assumption | (refine DB.new' ?_; first | rfl | exact (World.size_alloc _ _).symm | omega) | ((first | with_reducible refine DB.alloc ?_ _ | with_reducible refine DB.drew ?_); first | with_reducible assumption | (refine DB.new' ?_; first | rfl | exact (World.size_alloc _ _).symm | omega) | ((first | with_reducible refine DB.alloc ?_ _ | with_reducible refine DB.drew ?_); first | with_reducible assumption | (refine DB.new' ?_; first | rfl | exact (World.size_alloc _ _).symm | omega) | ((first | with_reducible refine DB.alloc ?_ _ | with_reducible refine DB.drew ?_); first | with_reducible assumption | (refine DB.new' ?_; first | rfl | exact (World.size_alloc _ _).symm | omega) | ((first | with_reducible refine DB.alloc ?_ _ | with_reducible refine DB.drew ?_); first | with_reducible assumption | (refine DB.new' ?_; first | rfl | exact (World.size_alloc _ _).symm | omega) | ((first | with_reducible refine DB.alloc ?_ _ | with_reducible refine DB.drew ?_); fail))))))); have hDn := GB.n hD7; have hDe := GB.e hD7; have hDf := GB.frozen hD7)); (try (have hD7 : DB (w2.heap.size + 1) w7 := DB.grown (base := w2.heap.size) (size := 2) (n := es.length) (xs := eVals es) hgrow (by (first | with_reducible assumption | ((first | with_reducible refine own_al ?_ _ | with_reducible refine own_dr ?_); first | with_reducible assumption | ((first | with_reducible refine own_al ?_ _ | with_reducible refine own_dr ?_); first | with_reducible assumption | ((first | with_reducible refine own_al ?_ _ | with_reducible refine own_dr ?_); first | with_reducible assumption | ((first | with_reducible refine own_al ?_ _ | with_reducible refine own_dr ?_); first | with_reducible assumption | ((first | with_reducible refine own_al ?_ _ | with_reducible refine own_dr ?_); fail))))))) (by (first | with_reducible assumption | (refine DB.new' ?_; first | rfl | exact (World.size_alloc _ _).symm | omega) | ((first | with_reducible refine DB.alloc ?_ _ | with_reducible refine DB.drew ?_); first | with_reducible assumption | (refine DB.new' ?_; first | rfl | exact (World.size_alloc _ _).symm | omega) | ((first | with_reducible refine DB.alloc ?_ _ | with_reducible refine DB.drew ?_); first | with_reducible assumption | (refine DB.new' ?_; first | rfl | exact (World.size_alloc _ _).symm | omega) | ((first | with_reducible refine DB.alloc ?_ _ | with_reducible refine DB.drew ?_); first | with_reducible assumption | (refine DB.new' ?_; first | rfl | exact (World.size_alloc _ _).symm | omega) | ((first | with_reducible refine DB.alloc ?_ _ | with_reducible refine DB.drew ?_); first | with_reducible assumption | (refine DB.new' ?_; first | rfl | exact (World.size_alloc _ _).symm | omega) | ((first | with_reducible refine DB.alloc ?_ _ | with_reducible refine DB.drew ?_); fail))))))); have hDn := GB.n hD7; have hDe := GB.e hD7; have hDf := GB.frozen hD7)); (try (have hD7 : DB w6.heap.size w7 := DB.grown (base := w2.heap.size) (size := 2) (n := es.length) (xs := eVals es) hgrow (by (first | with_reducible assumption | ((first | with_reducible refine own_al ?_ _ | with_reducible refine own_dr ?_); first | with_reducible assumption | ((first | with_reducible refine own_al ?_ _ | with_reducible refine own_dr ?_); first | with_reducible assumption | ((first | with_reducible refine own_al ?_ _ | with_reducible refine own_dr ?_); first | with_reducible assumption | ((first | with_reducible refine own_al ?_ _ | with_reducible refine own_dr ?_); first | with_reducible assumption | ((first | with_reducible refine own_al ?_ _ | with_reducible refine own_dr ?_); fail))))))) (by (first | with_reducible assumption | (refine DB.new' ?_; first | rfl | exact (World.size_alloc _ _).symm | omega) | ((first | with_reducible refine DB.alloc ?_ _ | with_reducible refine DB.drew ?_); first | with_reducible assumption | (refine DB.new' ?_; first | rfl | exact (World.size_alloc _ _).symm | omega) | ((first | with_reducible refine DB.alloc ?_ _ | with_reducible refine DB.drew ?_); first | with_reducible assumption | (refine DB.new' ?_; first | rfl | exact (World.size_alloc _ _).symm | omega) | ((first | with_reducible refine DB.alloc ?_ _ | with_reducible refine DB.drew ?_); first | with_reducible assumption | (refine DB.new' ?_; first | rfl | exact (World.size_alloc _ _).symm | omega) | ((first | with_reducible refine DB.alloc ?_ _ | with_reducible refine DB.drew ?_); first | with_reducible assumption | (refine DB.new' ?_; first | rfl | exact (World.size_alloc _ _).symm | omega) | ((first | with_reducible refine DB.alloc ?_ _ | with_reducible refine DB.drew ?_); fail))))))); have hDn := GB.n hD7; have hDe := GB.e hD7; have hDf := GB.frozen hD7)); (try (have hD7 : DB (w6.heap.size + 1) w7 := DB.grown (base := w2.heap.size) (size := 2) (n := es.length) (xs := eVals es) hgrow (by (first | with_reducible assumption | ((first | with_reducible refine own_al ?_ _ | with_reducible refine own_dr ?_); first | with_reducible assumption | ((first | with_reducible refine own_al ?_ _ | with_reducible refine own_dr ?_); first | with_reducible assumption | ((first | with_reducible refine own_al ?_ _ | with_reducible refine own_dr ?_); first | with_reducible assumption | ((first | with_reducible refine own_al ?_ _ | with_reducible refine own_dr ?_); first | with_reducible assumption | ((first | with_reducible refine own_al ?_ _ | with_reducible refine own_dr ?_); fail))))))) (by (first | with_reducible assumption | (refine DB.new' ?_; first | rfl | exact (World.size_alloc _ _).symm | omega) | ((first | with_reducible refine DB.alloc ?_ _ | with_reducible refine DB.drew ?_); first | with_reducible assumption | (refine DB.new' ?_; first | rfl | exact (World.size_alloc _ _).symm | omega) | ((first | with_reducible refine DB.alloc ?_ _ | with_reducible refine DB.drew ?_); first | with_reducible assumption | (refine DB.new' ?_; first | rfl | exact (World.size_alloc _ _).symm | omega) | ((first | with_reducible refine DB.alloc ?_ _ | with_reducible refine DB.drew ?_); first | with_reducible assumption | (refine DB.new' ?_; first | rfl | exact (World.size_alloc _ _).symm | omega) | ((first | with_reducible refine DB.alloc ?_ _ | with_reducible refine DB.drew ?_); first | with_reducible assumption | (refine DB.new' ?_; first | rfl | exact (World.size_alloc _ _).symm | omega) | ((first | with_reducible refine DB.alloc ?_ _ | with_reducible refine DB.drew ?_); fail))))))); have hDn := GB.n hD7; have hDe := GB.e hD7; have hDf := GB.frozen hD7)))
        | (refine step_append_lies _ (by rfl) _ _ _ (by rfl) w2.heap.size 38 i0 _ 2 16 Tryd.underlying22 hi hz0 hz1 hz2 rfl (by omega) v6 es.length (eVals es) (by rfl) (by (first | with_reducible assumption | ((first | with_reducible refine own_al ?_ _ | with_reducible refine own_dr ?_); first | with_reducible assumption | ((first | with_reducible refine own_al ?_ _ | with_reducible refine own_dr ?_); first | with_reducible assumption | ((first | with_reducible refine own_al ?_ _ | with_reducible refine own_dr ?_); first | with_reducible assumption | ((first | with_reducible refine own_al ?_ _ | with_reducible refine own_dr ?_); first | with_reducible assumption | ((first | with_reducible refine own_al ?_ _ | with_reducible refine own_dr ?_); fail))))))) ⟨(w2.heap.size + 1), 0, none⟩ 1 1 [.int .i64 x, .int .i64 y] (by rfl) (by rfl) (World.news_of_block (cs := #[.int .i64 x, .int .i64 y]) (t := 38) (fr := (0, 0)) (show TB (w2.heap.size + 1) x y _ from (by (first | with_reducible assumption | (refine TB.new' ?_; first | rfl | exact (World.size_alloc _ _).symm | omega) | ((first | with_reducible refine TB.alloc ?_ _ | with_reducible refine TB.drew ?_); first | with_reducible assumption | (refine TB.new' ?_; first | rfl | exact (World.size_alloc _ _).symm | omega) | ((first | with_reducible refine TB.alloc ?_ _ | with_reducible refine TB.drew ?_); first | with_reducible assumption | (refine TB.new' ?_; first | rfl | exact (World.size_alloc _ _).symm | omega) | ((first | with_reducible refine TB.alloc ?_ _ | with_reducible refine TB.drew ?_); first | with_reducible assumption | (refine TB.new' ?_; first | rfl | exact (World.size_alloc _ _).symm | omega) | ((first | with_reducible refine TB.alloc ?_ _ | with_reducible refine TB.drew ?_); first | with_reducible assumption | (refine TB.new' ?_; first | rfl | exact (World.size_alloc _ _).symm | omega) | ((first | with_reducible refine TB.alloc ?_ _ | with_reducible refine TB.drew ?_); fail))))))))) (by simp [Value.oneCell']) (by omega) h63 h47 (by first | omega | (simp; omega)) _ rfl ?_; intro gg cap w7 hown7 hgrow hat hlt7; have hq7 := HeldN.below (by assumption) HL2.out ((Below.refl w2.heap.size _).grown hgrow (by first | omega | (simp; omega)) (own_base ho6)); have hs7 := hq7.2.2.2.2.size; (try (have hD7 : DB w2.heap.size w7 := DB.grown (base := w2.heap.size) (size := 2) (n := es.length) (xs := eVals es) hgrow (by (first | with_reducible assumption | ((first | with_reducible refine own_al ?_ _ | with_reducible refine own_dr ?_); first | with_reducible assumption | ((first | with_reducible refine own_al ?_ _ | with_reducible refine own_dr ?_); first | with_reducible assumption | ((first | with_reducible refine own_al ?_ _ | with_reducible refine own_dr ?_); first | with_reducible assumption | ((first | with_reducible refine own_al ?_ _ | with_reducible refine own_dr ?_); first | with_reducible assumption | ((first | with_reducible refine own_al ?_ _ | with_reducible refine own_dr ?_); fail))))))) (by (first | with_reducible assumption | (refine DB.new' ?_; first | rfl | exact (World.size_alloc _ _).symm | omega) | ((first | with_reducible refine DB.alloc ?_ _ | with_reducible refine DB.drew ?_); first | with_reducible assumption | (refine DB.new' ?_; first | rfl | exact (World.size_alloc _ _).symm | omega) | ((first | with_reducible refine DB.alloc ?_ _ | with_reducible refine DB.drew ?_); first | with_reducible assumption | (refine DB.new' ?_; first | rfl | exact (World.size_alloc _ _).symm | omega) | ((first | with_reducible refine DB.alloc ?_ _ | with_reducible refine DB.drew ?_); first | with_reducible assumption | (refine DB.new' ?_; first | rfl | exact (World.size_alloc _ _).symm | omega) | ((first | with_reducible refine DB.alloc ?_ _ | with_reducible refine DB.drew ?_); first | with_reducible assumption | (refine DB.new' ?_; first | rfl | exact (World.size_alloc _ _).symm | omega) | ((first | with_reducible refine DB.alloc ?_ _ | with_reducible refine DB.drew ?_); fail))))))); have hDn := GB.n hD7; have hDe := GB.e hD7; have hDf := GB.frozen hD7)); (try (have hD7 : DB (w2.heap.size + 1) w7 := DB.grown (base := w2.heap.size) (size := 2) (n := es.length) (xs := eVals es) hgrow (by (first | with_reducible assumption | ((first | with_reducible refine own_al ?_ _ | with_reducible refine own_dr ?_); first | with_reducible assumption | ((first | with_reducible refine own_al ?_ _ | with_reducible refine own_dr ?_); first | with_reducible assumption | ((first | with_reducible refine own_al ?_ _ | with_reducible refine own_dr ?_); first | with_reducible assumption | ((first | with_reducible refine own_al ?_ _ | with_reducible refine own_dr ?_); first | with_reducible assumption | ((first | with_reducible refine own_al ?_ _ | with_reducible refine own_dr ?_); fail))))))) (by (first | with_reducible assumption | (refine DB.new' ?_; first | rfl | exact (World.size_alloc _ _).symm | omega) | ((first | with_reducible refine DB.alloc ?_ _ | with_reducible refine DB.drew ?_); first | with_reducible assumption | (refine DB.new' ?_; first | rfl | exact (World.size_alloc _ _).symm | omega) | ((first | with_reducible refine DB.alloc ?_ _ | with_reducible refine DB.drew ?_); first | with_reducible assumption | (refine DB.new' ?_; first | rfl | exact (World.size_alloc _ _).symm | omega) | ((first | with_reducible refine DB.alloc ?_ _ | with_reducible refine DB.drew ?_); first | with_reducible assumption | (refine DB.new' ?_; first | rfl | exact (World.size_alloc _ _).symm | omega) | ((first | with_reducible refine DB.alloc ?_ _ | with_reducible refine DB.drew ?_); first | with_reducible assumption | (refine DB.new' ?_; first | rfl | exact (World.size_alloc _ _).symm | omega) | ((first | with_reducible refine DB.alloc ?_ _ | with_reducible refine DB.drew ?_); fail))))))); have hDn := GB.n hD7; have hDe := GB.e hD7; have hDf := GB.frozen hD7)); (try (have hD7 : DB w6.heap.size w7 := DB.grown (base := w2.heap.size) (size := 2) (n := es.length) (xs := eVals es) hgrow (by (first | with_reducible assumption | ((first | with_reducible refine own_al ?_ _ | with_reducible refine own_dr ?_); first | with_reducible assumption | ((first | with_reducible refine own_al ?_ _ | with_reducible refine own_dr ?_); first | with_reducible assumption | ((first | with_reducible refine own_al ?_ _ | with_reducible refine own_dr ?_); first | with_reducible assumption | ((first | with_reducible refine own_al ?_ _ | with_reducible refine own_dr ?_); first | with_reducible assumption | ((first | with_reducible refine own_al ?_ _ | with_reducible refine own_dr ?_); fail))))))) (by (first | with_reducible assumption | (refine DB.new' ?_; first | rfl | exact (World.size_alloc _ _).symm | omega) | ((first | with_reducible refine DB.alloc ?_ _ | with_reducible refine DB.drew ?_); first | with_reducible assumption | (refine DB.new' ?_; first | rfl | exact (World.size_alloc _ _).symm | omega) | ((first | with_reducible refine DB.alloc ?_ _ | with_reducible refine DB.drew ?_); first | with_reducible assumption | (refine DB.new' ?_; first | rfl | exact (World.size_alloc _ _).symm | omega) | ((first | with_reducible refine DB.alloc ?_ _ | with_reducible refine DB.drew ?_); first | with_reducible assumption | (refine DB.new' ?_; first | rfl | exact (World.size_alloc _ _).symm | omega) | ((first | with_reducible refine DB.alloc ?_ _ | with_reducible refine DB.drew ?_); first | with_reducible assumption | (refine DB.new' ?_; first | rfl | exact (World.size_alloc _ _).symm | omega) | ((first | with_reducible refine DB.alloc ?_ _ | with_reducible refine DB.drew ?_); fail))))))); have hDn := GB.n hD7; have hDe := GB.e hD7; have hDf := GB.frozen hD7)); (try (have hD7 : DB (w6.heap.size + 1) w7 := DB.grown (base := w2.heap.size) (size := 2) (n := es.length) (xs := eVals es) hgrow (by (first | with_reducible assumption | ((first | with_reducible refine own_al ?_ _ | with_reducible refine own_dr ?_); first | with_reducible assumption | ((first | with_reducible refine own_al ?_ _ | with_reducible refine own_dr ?_); first | with_reducible assumption | ((first | with_reducible refine own_al ?_ _ | with_reducible refine own_dr ?_); first | with_reducible assumption | ((first | with_reducible refine own_al ?_ _ | with_reducible refine own_dr ?_); first | with_reducible assumption | ((first | with_reducible refine own_al ?_ _ | with_reducible refine own_dr ?_); fail))))))) (by (first | with_reducible assumption | (refine DB.new' ?_; first | rfl | exact (World.size_alloc _ _).symm | omega) | ((first | with_reducible refine DB.alloc ?_ _ | with_reducible refine DB.drew ?_); first | with_reducible assumption | (refine DB.new' ?_; first | rfl | exact (World.size_alloc _ _).symm | omega) | ((first | with_reducible refine DB.alloc ?_ _ | with_reducible refine DB.drew ?_); first | with_reducible assumption | (refine DB.new' ?_; first | rfl | exact (World.size_alloc _ _).symm | omega) | ((first | with_reducible refine DB.alloc ?_ _ | with_reducible refine DB.drew ?_); first | with_reducible assumption | (refine DB.new' ?_; first | rfl | exact (World.size_alloc _ _).symm | omega) | ((first | with_reducible refine DB.alloc ?_ _ | with_reducible refine DB.drew ?_); first | with_reducible assumption | (refine DB.new' ?_; first | rfl | exact (World.size_alloc _ _).symm | omega) | ((first | with_reducible refine DB.alloc ?_ _ | with_reducible refine DB.drew ?_); fail))))))); have hDn := GB.n hD7; have hDe := GB.e hD7; have hDf := GB.frozen hD7))))
    all_goals
      have hr7 := rdE_app hown7 HBD.out (by omega)
      have ho7 := own_base hown7
      go_wp2_with fail
      go_meet
      case rel =>
        first
          | exact ⟨_, gg, cap, rfl, GB.new w7 _ _ _, hr7.step (below_alloc w7 _), hq7.2.2.2.2.trans ((below_alloc w7 _).mono hs7)⟩
          | exact ⟨_, gg, cap, rfl, ((show GB 24 w7 w2.heap.size 0 (.slice none 0 0) from hD7).set0 N).set _, rdE_set2 hr7 hown7 hD7 _ _, (hq7.2.2.2.2.setCell (p := ⟨w2.heap.size, 0, none⟩) (by first | omega | exact Nat.le_refl _ | exact Nat.le_succ _ | (simp; omega)) _).setCell (p := ⟨w2.heap.size, 1, none⟩) (by first | omega | exact Nat.le_refl _ | exact Nat.le_succ _ | (simp; omega)) _⟩
          | exact ⟨_, gg, cap, rfl, ((show GB 24 w7 (w2.heap.size + 1) 0 (.slice none 0 0) from hD7).set0 N).set _, rdE_set2 hr7 hown7 hD7 _ _, (hq7.2.2.2.2.setCell (p := ⟨(w2.heap.size + 1), 0, none⟩) (by first | omega | exact Nat.le_refl _ | exact Nat.le_succ _ | (simp; omega)) _).setCell (p := ⟨(w2.heap.size + 1), 1, none⟩) (by first | omega | exact Nat.le_refl _ | exact Nat.le_succ _ | (simp; omega)) _⟩
          | exact ⟨_, gg, cap, rfl, ((show GB 24 w7 w6.heap.size 0 (.slice none 0 0) from hD7).set0 N).set _, rdE_set2 hr7 hown7 hD7 _ _, (hq7.2.2.2.2.setCell (p := ⟨w6.heap.size, 0, none⟩) (by first | omega | exact Nat.le_refl _ | exact Nat.le_succ _ | (simp; omega)) _).setCell (p := ⟨w6.heap.size, 1, none⟩) (by first | omega | exact Nat.le_refl _ | exact Nat.le_succ _ | (simp; omega)) _⟩
          | exact ⟨_, gg, cap, rfl, ((show GB 24 w7 (w6.heap.size + 1) 0 (.slice none 0 0) from hD7).set0 N).set _, rdE_set2 hr7 hown7 hD7 _ _, (hq7.2.2.2.2.setCell (p := ⟨(w6.heap.size + 1), 0, none⟩) (by first | omega | exact Nat.le_refl _ | exact Nat.le_succ _ | (simp; omega)) _).setCell (p := ⟨(w6.heap.size + 1), 1, none⟩) (by first | omega | exact Nat.le_refl _ | exact Nat.le_succ _ | (simp; omega)) _⟩
  case rest =>
    obtain ⟨D, g, c', rfl, gD, rD, hb⟩ := hcut
    have g1 := HG.out.step hb
    have he := HHE.out.step hb
    have hT := HHT.out.step hb
    have hB := below_step HHB.out hs hb
    replace hs := hB.size
    have hl3 : (es ++ [(x, y)]).length = es.length + 1 := by simp
    have cW := fun W h1 h2 => wrong_any (some ⟨g, 0, none⟩) c' N (es ++ [(x, y)]) W h1 h2
    have cC := fun W h1 h2 => count_any (some ⟨g, 0, none⟩) c' N (es ++ [(x, y)]) W h1 h2
    have cH := fun W h1 h2 => heightG_any (some ⟨g, 0, none⟩) c' N (es ++ [(x, y)]) W h1 h2
    have cV := fun W h1 h2 => wide_any (some ⟨g, 0, none⟩) c' N (es ++ [(x, y)]) W h1 h2
    rw [hl3] at cW cC cH cV
    have CW := Lib.hid cW
    have CC := Lib.hid cC
    have CH := Lib.hid cH
    have CV := Lib.hid cV
    clear hb n1 e1 x1 y1 hb0 H1 HG HXX HHE HHT HHB HL2 hl3 cW cC cH cV h63 h47
    have n1 := g1.n
    have e1 := g1.e
    have nD := gD.n
    have eD := gD.e
    go_wp2_with fail
    refine (CW.out _ rD hT).mono ?_
    rintro e w4 ⟨rfl, hb⟩
    replace g1 := g1.step hb
    replace gD := gD.step hb
    replace he := he.step hb
    replace rD := rD.step hb
    replace hT := hT.step hb
    replace hB := below_step hB hs hb
    replace hs := hB.size
    clear hb n1 e1 nD eD
    have n1 := g1.n
    have e1 := g1.e
    have nD := gD.n
    have eD := gD.e
    by_cases hE : errn N (es ++ [(x, y)]) = 0
    · have hE2 := errn_app hE
      obtain ⟨m, rfl, hin, hfull⟩ := errn_split hE2
      rw [hE]
      by_cases hm : m ≤ 14
      · have q1 := cnt_app hE hm
        have q2 := hgt_app hE
        have q3 := fun L L' h h' => wid_app (L := L) (L' := L') hE h h'
        obtain ⟨m', e, hin2, hfull2⟩ := errn_split hE
        obtain rfl : m = m' := by omega
        have q4 := cnt_bd hE hin2 hfull2 hm
        have q5 := cnt_bd hE2 hin hfull hm
        have QE := Lib.hid (cnt_val hE hm).2
        have QE2 := Lib.hid (cnt_val hE2 hm).2
        obtain ⟨a1, ha1⟩ : ∃ z, z = cntV m es := ⟨_, rfl⟩
        obtain ⟨a2, ha2⟩ : ∃ z, z = cntV m (es ++ [(x, y)]) := ⟨_, rfl⟩
        obtain ⟨b1, hb1⟩ : ∃ z, z = hgtG m es := ⟨_, rfl⟩
        obtain ⟨b2, hb2⟩ : ∃ z, z = hgtG m (es ++ [(x, y)]) := ⟨_, rfl⟩
        rw [← ha1] at q1 q5
        rw [← ha2] at q1 q4
        rw [← hb1, ← hb2] at q2
        have Q3 := Lib.hid q3
        have A1 := Lib.hid ha1
        have A2 := Lib.hid ha2
        have B1 := Lib.hid hb1
        have B2 := Lib.hid hb2
        have HE := Lib.hid hE
        have HE2 := Lib.hid hE2
        have hmi : ¬ (14 : Int) < (m : Int) := by omega
        obtain ⟨q4a, q4b⟩ := q4
        obtain ⟨q5a, q5b⟩ := q5
        clear hE hE2 q3 ha1 ha2 hb1 hb2 hin hfull hin2 hfull2
        go_wp2_with fail
        refine (count_any A c m es _ he hT).mono ?_
        rw [QE2.out, ← A1.out]
        rintro e w5 ⟨rfl, hb⟩
        replace g1 := g1.step hb
        replace gD := gD.step hb
        replace he := he.step hb
        replace rD := rD.step hb
        replace hT := hT.step hb
        replace hB := below_step hB hs hb
        replace hs := hB.size
        clear hb n1 e1 nD eD
        have n1 := g1.n
        have e1 := g1.e
        have nD := gD.n
        have eD := gD.e
        go_wp2_with fail
        refine (CC.out _ rD hT).mono ?_
        rw [QE.out, ← A2.out]
        rintro e w6 ⟨rfl, hb⟩
        replace g1 := g1.step hb
        replace gD := gD.step hb
        replace he := he.step hb
        replace rD := rD.step hb
        replace hT := hT.step hb
        replace hB := below_step hB hs hb
        replace hs := hB.size
        clear hb n1 e1 nD eD
        have n1 := g1.n
        have e1 := g1.e
        have nD := gD.n
        have eD := gD.e
        go_wp2_with fail
        refine (heightG_any A c m es _ he hT).mono ?_
        rw [HE2.out, ← B1.out]
        rintro e w7 ⟨rfl, hb⟩
        replace g1 := g1.step hb
        replace gD := gD.step hb
        replace he := he.step hb
        replace rD := rD.step hb
        replace hT := hT.step hb
        replace hB := below_step hB hs hb
        replace hs := hB.size
        clear hb n1 e1 nD eD
        have n1 := g1.n
        have e1 := g1.e
        have nD := gD.n
        have eD := gD.e
        go_wp2_with fail
        refine (CH.out _ rD hT).mono ?_
        rw [HE.out, ← B2.out]
        rintro e w8 ⟨rfl, hb⟩
        replace g1 := g1.step hb
        replace gD := gD.step hb
        replace he := he.step hb
        replace rD := rD.step hb
        replace hT := hT.step hb
        replace hB := below_step hB hs hb
        replace hs := hB.size
        clear hb n1 e1 nD eD
        have n1 := g1.n
        have e1 := g1.e
        have nD := gD.n
        have eD := gD.e
        go_wp2_with fail
        refine (wide_any A c m es _ he hT).mono ?_
        rw [HE2.out]
        rintro e w9 ⟨A9, c9, L9, rfl, _, hv9, hl9, hb⟩; have HV9 := Lib.hid hv9; clear hv9
        replace g1 := g1.step hb
        replace gD := gD.step hb
        replace he := he.step hb
        replace rD := rD.step hb
        replace hT := hT.step hb
        replace hB := below_step hB hs hb
        replace hs := hB.size
        clear hb n1 e1 nD eD
        have n1 := g1.n
        have e1 := g1.e
        have nD := gD.n
        have eD := gD.e
        go_wp2_with fail
        refine (CV.out _ rD hT).mono ?_
        rw [HE.out]
        rintro e wa ⟨Aa, ca, La, rfl, _, hva, hla, hb⟩; have hlen := Q3.out _ _ HV9.out hva; clear hva
        replace g1 := g1.step hb
        replace gD := gD.step hb
        replace he := he.step hb
        replace rD := rD.step hb
        replace hT := hT.step hb
        replace hB := below_step hB hs hb
        replace hs := hB.size
        clear hb n1 e1 nD eD
        have n1 := g1.n
        have e1 := g1.e
        have nD := gD.n
        have eD := gD.e
        clear n1 e1 nD eD g1 gD he rD hT
        have l1 : (La.length : Int) ≤ (L9.length : Int) := by omega
        go_wp2_with fail
        go_ret
        exact ⟨rfl, hB⟩
      · have hmi : (14 : Int) < (m : Int) := by omega
        clear hE hE2 hin hfull
        go_wp2_with fail
        go_ret
        exact ⟨rfl, hB⟩
    · have ne1 : (errn N (es ++ [(x, y)]) == 0) = false := beq_eq_false_iff_ne.2 hE
      obtain ⟨E, h38⟩ : ∃ E, E = errn N (es ++ [(x, y)]) := ⟨_, rfl⟩
      rw [← h38] at ne1 hE ⊢
      clear h38 he rD hT
      go_wp2_with fail
      go_ret
      exact ⟨rfl, hB⟩
end Go.Proofs.YtaboafkpmgadmaaDoor
