/-
  GraphLeast: contracts of slices.Clone and slices.Delete at a slice of edges.
-/
import Derived.Test.YtaboafkpmgadmaaDoorGrLsD
import Derived.Deep.RegionLaw
import Derived.Lib.SliceRun
import Derived.Shelf.RegionOpenPlain
namespace Go.Proofs.YtaboafkpmgadmaaDoor
open Go.RowKit Go.Shelf Go.Lib
set_option maxRecDepth 100000

set_option maxHeartbeats 2000000 in
theorem cloneE_any (A : Option Addr) (c : Nat) (es : List (Int × Int)) (w : World) (he : RdE w w.heap.size A es) (hp : 0 < es.length) (hl : es.length ≤ 8796093022208) :
    Calls Tryd.prog 25 #[.slice A es.length c] w fun e w' => ∃ v', e = .returned v' ∧ w'.ownsRow w.heap.size 38 2 v' es.length (eVals es) ∧ Below w.heap.size w w' := by
  obtain ⟨i0, hi, hz0, hz1, hz2⟩ := info_parts Tryd.infoEd
  have q22 : ∀ (w : World) (a : Option Addr) (n c n' c' : Nat), (binOp .eql 22 (.slice a n c) (.slice none n' c')).run Tryd.prog w = .ok (.bool a.isNone) w := fun w a n c n' c' => Lib.run_eql_slice_nil w _ _ a n c n' c' Tryd.underlying22
  obtain ⟨b, off, rfl, _, hc⟩ := he.rd hp
  have X : Aside (∀ k, k < es.length → w.cell? ⟨b, off + k * 2, none⟩ = some (.int .i64 (ed es k).1) ∧ w.cell? ⟨b, off + k * 2 + 1, none⟩ = some (.int .i64 (ed es k).2)) := hc
  clear hc he
  go_enter Tryd.func25, Tryd.ntmps25
  go_wp2_with (at_builtin; refine wpList_append_own _ rfl _ _ 22 rfl w.heap.size 38 i0 (.agg #[.int .i64 0, .int .i64 0]) 2 16 Tryd.underlying22 hi hz0 hz1 hz2 rfl (by decide) _ _ _ rfl (World.ownsRow_made w #[] 0 (Nat.le_refl _) (Nat.zero_le _) rfl) ⟨b, off, none⟩ es.length c (eVals es) rfl ?qc1 ?qc2 ?qc3 ?qc4 ?qc5 ?qc6 ?_)
  case qc1 => exact eVals_len es
  case qc2 =>
    intro j u hj
    have hjn : j < es.length * 2 := by
      have := (List.getElem?_eq_some_iff.1 hj).1
      rwa [eVals_len] at this
    rw [Addr.add_lit]
    refine Lib.cell?_alloc_some _ ?_
    have h1 := X.out (j / 2) (by omega)
    have h2 := eVals_at es (j / 2) (by omega)
    rcases Nat.mod_two_eq_zero_or_one j with e | e
    · rw [show off + j = off + j / 2 * 2 by omega, h1.1, ← h2.1, ← hj]
      congr 1; omega
    · rw [show off + j = off + j / 2 * 2 + 1 by omega, h1.2, ← h2.2, ← hj]
      congr 1; omega
  case qc3 =>
    intro u hu
    unfold eVals at hu
    obtain ⟨x, _, hx⟩ := List.mem_flatMap.1 hu
    simp at hx
    rcases hx with rfl | rfl <;> rfl
  case qc4 => unfold maxLen; omega
  case qc5 => omega
  case qc6 => simp
  intro v' w1 hown hgrow hnil
  go_wp2
  go_ret
  refine ⟨v', rfl, by simpa using hown, ?_⟩
  exact ((Below.refl _ w).alloc (Nat.le_refl _) _).grown hgrow (by simp) (by intro k hk; simp [Value.ownBlock] at hk; omega)

set_option maxHeartbeats 4000000 in
theorem deleteE_any (base g c k j n : Nat) (hj : j = k + 1) (es : List (Int × Int)) (hn : es.length = n) (w : World) (hown : w.ownsRow base 38 2 (.slice (some ⟨g, 0, none⟩) es.length c) es.length (eVals es)) (hk : k < n)
    (hlo1 : ∀ k, -9223372036854775808 ≤ (ed es k).1) (hhi1 : ∀ k, (ed es k).1 ≤ 9223372036854775807) (hlo2 : ∀ k, -9223372036854775808 ≤ (ed es k).2) (hhi2 : ∀ k, (ed es k).2 ≤ 9223372036854775807) (hroom : es.length ≤ 1048576) :
    Calls Tryd.prog 24 #[.slice (some ⟨g, 0, none⟩) n c, .int .i64 k, .int .i64 j] w fun e w' => e = .returned (.slice (some ⟨g, 0, none⟩) (n - 1) c) ∧ RdE w' w'.heap.size (some ⟨g, 0, none⟩) (lss es k) ∧ Below base w w' ∧ ∀ b, b ≠ g → w'.heap[b]? = w.heap[b]? := by
  obtain ⟨i0, hi0, hz0, hz1, hz2⟩ := info_parts Tryd.infoEd
  have hdw : w.drew.ownsRow base 38 2 (.slice (some ⟨g, 0, none⟩) es.length c) es.length (eVals es) := hown
  obtain ⟨W1, hW1⟩ : ∃ W1, W1 = w.drew.setCells g (k * 2) (eVals (es.drop (k + 1))) := ⟨_, rfl⟩
  obtain ⟨W2, hW2⟩ : ∃ W2, W2 = W1.setCells g ((es.length - 1) * 2) [.int .i64 0, .int .i64 0] := ⟨_, rfl⟩
  obtain ⟨hR, hB, hS, hF⟩ := del_mem hdw (hn.symm ▸ hk) hlo1 hhi1 hlo2 hhi2 (by omega) W1 W2 hW1 hW2
  have hne0 : ∀ b, b ≠ g → W2.heap[b]? = w.heap[b]? := fun b hb => by
    rw [hW2, heap_setCells_ne _ _ hb, hW1, heap_setCells_ne _ _ hb]
    rfl
  have HNE := Lib.hid hne0
  have hcap : n ≤ c ∧ c ≤ maxLen := by
    rcases hown.2 with ⟨h0, _⟩ | ⟨g', cap, cur, hv, _, _, h1, h2, _⟩
    · cases h0
    · injection hv with _ _ hc
      subst hc
      exact ⟨hn ▸ h1, h2⟩
  obtain ⟨hc1, hc2⟩ := hcap
  unfold maxLen at hc2
  have hlen : (eVals (es.drop (k + 1))).length = (n - j) * 2 := by rw [eVals_len, List.length_drop, hn, hj]
  obtain ⟨A, hA, hsrc⟩ : ∃ A : Addr, (if c = j then some (⟨g, 0, none⟩ : Addr) else some ⟨g, j * 2, none⟩) = some A ∧ Hid (∀ t u, (eVals (es.drop (k + 1)))[t]? = some u → w.drew.cell? (A.add t) = some u) := by
    by_cases h : c = j
    · refine ⟨⟨g, 0, none⟩, by simp [h], fun t u hu => ?_⟩
      have := (List.getElem?_eq_some_iff.1 hu).1
      omega
    · refine ⟨⟨g, j * 2, none⟩, by simp [h], fun t u hu => ?_⟩
      have ht := (List.getElem?_eq_some_iff.1 hu).1
      have h1 := own_cells hdw (j + t / 2) (by omega)
      have h2 := eVals_at (es.drop (k + 1)) (t / 2) (by rw [List.length_drop]; omega)
      rw [ed_drop, ← hj] at h2
      rw [Addr.add_lit]
      rcases Nat.mod_two_eq_zero_or_one t with e | e
      · have e2 : t / 2 * 2 = t := by omega
        rw [e2] at h2
        rw [← hj] at hu
        rw [show j * 2 + t = (j + t / 2) * 2 by omega, h1.1]
        exact h2.1.symm.trans hu
      · have e2 : t / 2 * 2 + 1 = t := by omega
        rw [e2] at h2
        rw [← hj] at hu
        rw [show j * 2 + t = (j + t / 2) * 2 + 1 by omega, h1.2]
        exact h2.2.symm.trans hu
  have s1 : Hid ((eVals (es.drop (k + 1))).length = (n - j) * 2) := hlen
  have s2 : Hid (∀ u ∈ eVals (es.drop (k + 1)), u.oneCell' = true) := by
    intro u hu
    unfold eVals at hu
    obtain ⟨x, _, hx⟩ := List.mem_flatMap.1 hu
    simp at hx
    rcases hx with rfl | rfl <;> rfl
  have s3 : Hid (∀ t, t < (eVals (es.drop (k + 1))).length → (w.drew.cell? ⟨g, 0 + k * 2 + t, none⟩).isSome = true ∧ w.drew.frozen? ⟨g, 0 + k * 2 + t, none⟩ = false) := fun t ht => ⟨own_some hdw _ (by omega), own_loose hdw _⟩
  obtain ⟨news, hnews⟩ : ∃ news, news = eVals (es.drop (k + 1)) := ⟨_, rfl⟩
  rw [← hnews] at hsrc s1 s2 s3 hW1
  have hW : Hid (W1 = w.drew.setCells g (0 + k * 2) news) := by rw [Nat.zero_add]; exact hW1
  have hcl : ∀ ty cc, (Builtin.clear_ #[22] ty #[.slice (some ⟨g, (n - 1) * 2, none⟩) 1 cc]).run Tryd.prog W1 = .ok (.tuple #[]) W2 := fun ty cc => by
    rw [hW2, hn]
    exact run_clear_edge W1 _ 38 ty Tryd.underlying22 (fun w => by kernel_rfl) g ((n - 1) * 2) cc (by rw [← hn]; exact hS) (fun j _ => hF _)
  have hmo : Tryd.prog.follows .mixedOrders = true := by kernel_rfl
  have h1n : n - (n - 1) = 1 := by omega
  have hlt : k < j := by omega
  have hjn : j ≤ n := by omega
  have hic : k ≤ c := by omega
  have hjc : j ≤ c := by omega
  have HR := Lib.hid hR
  have HB := Lib.hid hB
  have HJ := Lib.hid hj
  have en : k + (n - j) = n - 1 := by omega
  have HEN := Lib.hid en
  clear hR hB hS hF hne0 hW1 hW2 hdw hown hlen hnews hn hlo1 hhi1 hlo2 hhi2 hroom hj en
  go_enter Tryd.func24, Tryd.ntmps24
  go_wp2_with fail
  go_region_law_o (refine step_append_room rfl (.tmp 22) (.tmp 25) 22 rfl 38 i0 2 Tryd.underlying22 hi0 hz1 g 0 k c (by simp [Act.eval, Act.put]) A (n - j) (c - j) news (by simp [Act.eval, Act.put]) s1.out hsrc.out s2.out (by omega) s3.out ?_; rw [← hW.out, HEN.out])
  go_wp2
  go_ret
  exact ⟨rfl, HR.out, ((Below.refl base w).drew).trans HB.out, HNE.out⟩
end Go.Proofs.YtaboafkpmgadmaaDoor
