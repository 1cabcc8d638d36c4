/-
  The closure of the program's Names that meets a name: it lays it down once.
-/
import Derived.Test.YtinbcdadffljhaaExVn
namespace Go.Proofs.Ytinbcdadffljhaa
open Go.RowKit Go.Maps Go.WideMaps
set_option maxRecDepth 100000

set_option maxHeartbeats 8000000 in
theorem nname_any {base f g p : Nat} {l : List ByteArray} {O : Nat → Prop} (s : ByteArray) (W : World) (hs : s.size ≤ maxLen) (hl : l.length ≤ 4194304) (hW : NS base f g p l O W) :
    Calls Try.prog 35 #[.string s, .pointer (some ⟨p, 0, none⟩), .pointer (some ⟨f, 0, none⟩)] W fun e W' => e = .returned (.agg #[]) ∧ ∃ O', NS base f g p (addN l s) O' W' ∧ StepO O O' W W' := by
  obtain ⟨i0, hi, hz0, hz1, hz2⟩ := info_parts Try.infoStr
  have hkey : keyOf Try.prog 9 (.string s) = some (.string s.data.toList) := keyOf_string_mk Try.underlying9 hs
  have hb1 : Below W.heap.size W (W.alloc (.cells #[] 59)) := (Below.refl _ _).alloc (Nat.le_refl _) _
  have e1 := World.alloc_heap_new W (.cells #[] 59)
  have z1 : (W.alloc (.cells #[] 59)).heap.size = W.heap.size + 1 := by simp
  obtain ⟨w1, hw1⟩ : ∃ w1, w1 = W.alloc (.cells #[] 59) := ⟨_, rfl⟩
  rw [← hw1] at hb1 e1 z1
  have h1 := hW.step hb1
  have hb2 : Below w1.heap.size w1 (w1.alloc (.cells #[] 59)) := (Below.refl _ _).alloc (Nat.le_refl _) _
  have z2 : (w1.alloc (.cells #[] 59)).heap.size = w1.heap.size + 1 := by simp
  obtain ⟨w2, hw2⟩ : ∃ w2, w2 = w1.alloc (.cells #[] 59) := ⟨_, rfl⟩
  rw [← hw2] at hb2 z2
  have h2 := h1.step hb2
  have p1 : w1.cell? ⟨p, 0, none⟩ = some (.map (some g)) := by simp only [World.cell?, h1.mbox]; rfl
  have p2 : w2.cell? ⟨p, 0, none⟩ = some (.map (some g)) := by simp only [World.cell?, h2.mbox]; rfl
  have e2 := (hb2.block W.heap.size (by omega)).trans e1
  have k2 : StepO O O W w2 := ⟨Keeps.of_below (below_step hb1 hb1.size hb2) (fun k hk _ => hk), fun k hk => .inl hk, fun k hk => by have := h2.top hk; omega⟩
  obtain ⟨n, Dt, hm, hn, hM⟩ := h1.map
  obtain ⟨x, ps, hrun, hx⟩ := hm.look_ok vaS_law Try.underlying57 (naN_zero w1) (zd := .agg []) (zp := []) unitElem_mk hkey
  obtain ⟨rfl, _⟩ := unitElem_inv hx
  rw [hM.has] at hrun
  obtain ⟨q, hq⟩ : ∃ q, q = decide (s ∈ l) := ⟨_, rfl⟩
  have HQ := Lib.hid hq
  rw [← hq] at hrun
  have HW1 := Lib.hid hw1
  have HW2 := Lib.hid hw2
  have H2 := Lib.hid (And.intro h2 (And.intro k2 e2))
  have HM := Lib.hid hM
  have HN := Lib.hid hn
  have HX : Hid (w2.ownsMap Try.prog 9 unitElem g n Dt) := Lib.hid (map_keep hm (hb2.block g hm.lt))
  clear hx hb1 hb2 e1 hw1 hw2 h2 k2 e2 hM hn hm hq h1
  cases q with
  | true =>
    have hmem : s ∈ l := of_decide_eq_true HQ.out.symm
    have HA := Lib.hid (show addN l s = l from if_pos hmem)
    clear hmem hW hl hs hkey p2
    go_enter Try.func35, Try.ntmps35
    go_upto_region 1 with fail
    rw [← HW1.out]
    go_upto_region 2 with fail
    rw [← HW2.out]
    go_wp2_with fail
    refine bodyPost_ret (results_cell_row rfl _ _ W.heap.size 59 _ (0, 0) _ rfl H2.out.2.2 rfl rfl Try.infoNo) rfl ?_
    refine ⟨rfl, O, ?_, H2.out.2.1⟩
    rw [HA.out]
    exact H2.out.1
  | false =>
    have hmem : ¬ s ∈ l := of_decide_eq_false HQ.out.symm
    have HA := Lib.hid (show addN l s = l ++ [s] from if_neg hmem)
    obtain ⟨w3, hst, hm3, htn⟩ := HX.out.store vaS_law Try.underlying57 (by have := HN.out; unfold maxLen; omega) hkey (unitElem_mk (H := Unit))
    have hg3 := htn.grown
    have hlow := H2.out.1.low
    have k3 : Keeps (fun k => k ≠ g) w2 w3 := (Keeps.refl _ _).grown hg3 (fun r hr _ h => by injection hr with hr; exact h hr.symm)
    obtain ⟨v, hbox, hown, hO⟩ := H2.out.1.box
    obtain ⟨A, c, rfl⟩ := own_any hown
    have hrowk : ∀ k, (Value.slice A l.length c).ownBlock = some k → k ≠ g ∧ k ≠ f ∧ k ≠ p := fun k hk => by have := own_blk hown hk; omega
    have hown3 := own_eqB hown (w' := w3) (fun k hk => k3.block k (own_blk hown hk).2 (hrowk k hk).1)
    have hbox3 := (k3.block f (Array.getElem?_eq_some_iff.1 hbox).1 hlow.2.2.1).trans hbox
    have hmb3 := (k3.block p (Array.getElem?_eq_some_iff.1 H2.out.1.mbox).1 (fun h => hlow.2.2.2.2.1 h.symm)).trans H2.out.1.mbox
    have z3 := k3.size
    have fltz : f < w3.heap.size := (Array.getElem?_eq_some_iff.1 hbox3).1
    have pltz : p < w3.heap.size := (Array.getElem?_eq_some_iff.1 hmb3).1
    have gltz : g < w3.heap.size := hm3.lt
    have hb4 : Below w3.heap.size w3 (w3.alloc (.cells #[.string s] 9)) := (Below.refl _ _).alloc (Nat.le_refl _) _
    have hownA := own_stepR hown3 hb4 (Nat.le_refl _)
    have hL : LiesR (w3.alloc (.cells #[.string s] 9)) (.slice (some ⟨w3.heap.size, 0, none⟩) 1 1) 1 [.string s] := by
      refine .inr ⟨_, 1, rfl, fun j u hj => ?_⟩
      rcases j with _ | j
      · have e := World.alloc_heap_new w3 (.cells #[.string s] 9)
        simp at hj
        subst hj
        rw [Addr.add_lit]
        simp only [World.cell?, e]
        rfl
      · simp at hj
    have zA : (w3.alloc (.cells #[.string s] 9)).heap.size = w3.heap.size + 1 := by simp
    obtain ⟨v', w4, hr, h5, h6, h7⟩ := run_append_rowsR (P := Try.prog) _ 29 29 (max (max f g) p + 1) 9 i0 _ 1 16 Try.underlying29 hi hz0 hz1 hz2 rfl (by decide) _ l.length (nVals l) hownA _ 1 [.string s] hL rfl (by intro u hu; simp at hu; subst hu; rfl) (by unfold maxLen; omega) (by omega) (by omega)
    rw [nVals_snoc] at h5
    -- what lies where
    have kA : Keeps (fun k => (Value.slice A l.length c).ownBlock ≠ some k) w3 w4 := (Keeps.of_below hb4 (fun k hk _ => hk)).grown h6 (fun r hr _ h => h hr)
    have hbox4 := (kA.block f fltz (fun h => (hrowk f h).2.1 rfl)).trans hbox3
    have hmb4 := (kA.block p pltz (fun h => (hrowk p h).2.2 rfl)).trans hmb3
    have hm4 := map_keep hm3 (kA.block g gltz (fun h => (hrowk g h).1 rfl))
    have z4 := kA.size
    have hres4 : w4.heap[W.heap.size]? = some (.cells #[] 59 (0, 0)) := by
      have hlt : W.heap.size < w2.heap.size := by omega
      have hg' : W.heap.size ≠ g := fun h => by have := hW.top ((hO g).2 (.inr (.inl rfl))); omega
      refine (kA.block W.heap.size (by omega) (fun h => ?_)).trans ((k3.block W.heap.size hlt hg').trans H2.out.2.2)
      have := hW.top ((hO _).2 (.inr (.inr h)))
      omega
    have cf : w4.cell? ⟨f, 0, none⟩ = some (.slice A l.length c) := by simp only [World.cell?, hbox4]; rfl
    have ff : w4.frozen? ⟨f, 0, none⟩ = false := by simp [World.frozen?, hbox4]
    have c3f : w3.cell? ⟨f, 0, none⟩ = some (.slice A l.length c) := by simp only [World.cell?, hbox3]; rfl
    have hfr : ∀ k, v'.ownBlock = some k → k ≠ f ∧ k ≠ g ∧ k ≠ p := fun k hk => by have := own_blk h5 hk; omega
    have hbox5 := heap_set_inE (i := 0) hbox4 v'
    have hmb5 : (w4.setCell ⟨f, 0, none⟩ v').heap[p]? = _ := (Below.heap_setCell w4 ⟨f, 0, none⟩ v' p (by show p ≠ f; exact fun h => hlow.2.2.2.1 h.symm)).trans hmb4
    have hm5 := map_keep hm4 (Below.heap_setCell w4 ⟨f, 0, none⟩ v' g (by show g ≠ f; exact fun h => hlow.2.2.1 h.symm))
    have ho5 := own_eqB h5 (w' := w4.setCell ⟨f, 0, none⟩ v') (fun k hk => Below.heap_setCell w4 ⟨f, 0, none⟩ v' k (by show k ≠ f; exact (hfr k hk).1))
    have hres5 : (w4.setCell ⟨f, 0, none⟩ v').heap[W.heap.size]? = _ := (Below.heap_setCell w4 ⟨f, 0, none⟩ v' W.heap.size (by show W.heap.size ≠ f; intro h; have := hW.top ((hO f).2 (.inl rfl)); omega)).trans hres4
    have hk5 : Keeps (fun k => ¬ O k) W (w4.setCell ⟨f, 0, none⟩ v') := by
      have a1 : Keeps (fun k => ¬ O k) w2 w3 := k3.mono (fun k _ h e => h ((hO k).2 (.inr (.inl e))))
      have a2 : Keeps (fun k => ¬ O k) w3 w4 := kA.mono (fun k _ h e => h ((hO k).2 (.inr (.inr e))))
      exact ((H2.out.2.1.keeps.trans a1).trans a2).setCell (fun _ h => h ((hO f).2 (.inl rfl))) _
    obtain ⟨O', hO'⟩ : ∃ O' : Nat → Prop, ∀ k, O' k ↔ (k = f ∨ k = g ∨ v'.ownBlock = some k) := ⟨fun k => (k = f ∨ k = g ∨ v'.ownBlock = some k), fun _ => Iff.rfl⟩
    have hNS : NS base f g p (l ++ [s]) O' (w4.setCell ⟨f, 0, none⟩ v') := ⟨hlow, ⟨v', hbox5, by rw [List.length_append]; exact ho5, hO'⟩, hmb5, ⟨n + 1, _, hm5, by have := HN.out; simp; omega, HM.out.put⟩⟩
    have hstep : StepO O O' W (w4.setCell ⟨f, 0, none⟩ v') := ⟨hk5, fun k hk => by
      rcases (hO' k).1 hk with h | h | h
      · exact .inl ((hO k).2 (.inl h))
      · exact .inl ((hO k).2 (.inr (.inl h)))
      · rcases h7 with h8 | h8
        · exact .inl ((hO k).2 (.inr (.inr (h8 ▸ h))))
        · rw [h8] at h
          injection h with h
          exact .inr (by omega), fun k hk => hNS.top hk⟩
    have HF := Lib.hid (And.intro hNS (And.intro hstep hres5))
    have HR := Lib.hid hr
    obtain ⟨A', c', rfl⟩ := own_any h5
    have oc : (Value.slice A' (l.length + 1) c').oneCell' = true := rfl
    clear hmem hW hl hs hkey hm3 htn hg3 hlow k3 hbox hown hO hrowk hown3 hbox3 hmb3 z3 fltz pltz gltz hb4 hownA hL hr h5 h6 h7 kA hbox4 hmb4 hm4 z4 hres4 hfr hbox5 hmb5 hm5 ho5 hres5 hk5 hO' hNS hstep hi hz0 hz1 hz2 zA
    go_enter Try.func35, Try.ntmps35
    go_upto_region 1 with fail
    rw [← HW1.out]
    go_upto_region 2 with fail
    rw [← HW2.out]
    go_wp2_with (at_builtin; refine Lib.wpList_append_run _ rfl _ _ _ _ rfl _ _ rfl rfl _ _ HR.out ?_)
    refine bodyPost_ret (results_cell_row rfl _ _ W.heap.size 59 _ (0, 0) _ rfl HF.out.2.2 rfl rfl Try.infoNo) rfl ?_
    refine ⟨rfl, O', ?_, HF.out.2.1⟩
    rw [HA.out]
    exact HF.out.1
end Go.Proofs.Ytinbcdadffljhaa
