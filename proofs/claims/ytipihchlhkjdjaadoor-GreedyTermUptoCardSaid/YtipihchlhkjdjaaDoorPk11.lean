/-
  GraphLeast: without an edge of the core what it led to does not follow; an edge of the core is an edge. Plain lemmas.
  GraphLeast: a list's edge taken out in memory: the cells that move, the cell that is cleared.
  slices.Insert of one number into a row of numbers that the call owns: at the end, within, with room and without.
  slices.Insert of one number into a row of numbers that the call owns: within, without room; and the whole.
-/
import Derived.Test.YtipihchlhkjdjaaDoorPk10
import Derived.Test.YtipihchlhkjdjaaDoorPk09
import Derived.Laws.IdiomCopy
import Derived.Test.YtipihchlhkjdjaaDoorPk08
import Derived.Maps.AppendAt
import Derived.Lib.AppendZerosOnto
import Derived.Lib.Overlaps
import Derived.Laws.Externs
import Derived.Lib.LazyBuf
import Derived.Shelf.Spec.SlicesInsert
namespace Go.Proofs.YtipihchlhkjdjaaDoor
open Go.RowKit

/-- all but place k -/
def lss (es : List (Int × Int)) (k : Nat) : List (Int × Int) := es.take k ++ es.drop (k + 1)
theorem lss_len {es : List (Int × Int)} {k : Nat} (h : k < es.length) : (lss es k).length = es.length - 1 := by
  unfold lss; simp; omega
theorem lss_sub {es : List (Int × Int)} {k : Nat} {e : Int × Int} (h : e ∈ lss es k) : e ∈ es := by
  unfold lss at h
  rcases List.mem_append.1 h with h | h
  · exact List.mem_of_mem_take h
  · exact List.mem_of_mem_drop h
theorem elist_nodup (xss : List (List Nat)) : ∀ m, (elist xss m).Nodup
  | 0 => by simp [elist]
  | m + 1 => by
    rw [elist_succ, List.nodup_append]
    refine ⟨elist_nodup xss m, ?_, ?_⟩
    · unfold List.Nodup
      rw [List.pairwise_map]
      exact (mem_nodup (st xss m)).imp fun h e => by injection e with _ e; exact h e
    · intro a ha b hb e
      subst e
      obtain ⟨j, _, rfl⟩ := List.mem_map.1 hb
      have := (mem_elist.1 ha).1
      omega
theorem elist_len_le {xss : List (List Nat)} {m : Nat} (hb : ∀ k, k < m → ∀ j, bitB (st xss k) j = true → j < m) : ∀ k, k ≤ m → (elist xss k).length ≤ k * m
  | 0, _ => by simp [elist]
  | k + 1, h => by
    have h1 := elist_len_le hb k (by omega)
    have h2 := nodup_le m _ (mem_nodup (st xss k)) fun x hx => hb k (by omega) x (mem_iff.1 hx)
    rw [elist_succ, List.length_append, List.length_map, Nat.succ_mul]
    omega
theorem cor_len {m : Nat} {es : List (Int × Int)} (h : inR m es = true) : (elist (cors m es) m).length ≤ 40000 := by
  have h1 := elist_len_le (cors_bits h) m (Nat.le_refl _)
  have h2 := Nat.mul_le_mul (show m ≤ 200 by have := okN_of h; omega) (show m ≤ 200 by have := okN_of h; omega)
  omega
theorem elI_nodup {l : List (Nat × Nat)} (h : l.Nodup) : (elI l).Nodup := by
  unfold elI List.Nodup
  rw [List.pairwise_map]
  refine h.imp fun {a b} hne e => hne ?_
  injection e with e1 e2
  obtain ⟨a1, a2⟩ := a
  obtain ⟨b1, b2⟩ := b
  dsimp only at e1 e2
  rw [show a1 = b1 by omega, show a2 = b2 by omega]
theorem lss_out {es : List (Int × Int)} (h : es.Nodup) {k : Nat} (hk : k < es.length) : ed es k ∉ lss es k := by
  have e0 : es = es.take k ++ ed es k :: es.drop (k + 1) := by
    have h1 := (List.take_append_drop k es).symm
    rw [List.drop_eq_getElem_cons hk] at h1
    have h2 : ed es k = es[k] := by unfold ed; simp [List.getD, hk]
    rw [h2]
    exact h1
  rw [e0, List.nodup_append] at h
  obtain ⟨_, h2, h3⟩ := h
  rw [List.nodup_cons] at h2
  unfold lss
  intro hm
  rcases List.mem_append.1 hm with hm | hm
  · exact h3 _ hm _ (List.mem_cons_self ..) rfl
  · exact h2.1 hm

theorem core_edge {m : Nat} {es : List (Int × Int)} (h : inR m es = true) {i j : Nat} (he : gR (elI (elist (cors m es) m)) i j = true) :
    fw (gR es) m i j = true ∧ ∀ c, ¬ (fw (gR es) m i c = true ∧ fw (gR es) m c j = true) := by
  obtain ⟨hi, hb⟩ := (gR_elist _ _ _ _).1 he
  rw [st_cors _ hi, corS_bit h, Bool.and_eq_true, Bool.not_eq_true', ← Bool.not_eq_true, List.any_eq_true] at hb
  refine ⟨hb.1, fun c hc => hb.2 ⟨c, List.mem_range.2 (fw_lt h hc.1).2, ?_⟩⟩
  rw [hc.1, hc.2]
  rfl
theorem corG_of {m : Nat} {es : List (Int × Int)} (h : inR m es = true) (hfull : (ordr m es).length = m) : corG m es = elI (elist (cors m es) m) := by
  unfold corG; rw [if_pos (errn_ok h hfull), Int.toNat_natCast]
/-- an edge of the core: its ends, that it is an edge, and that no way is left without it -/
theorem least_all {m : Nat} {es : List (Int × Int)} (h : inR m es = true) (hfull : (ordr m es).length = m) {k : Nat} (hk : k < (corG m es).length) :
    ∃ i j : Nat, ed (corG m es) k = ((i : Int), (j : Int)) ∧ i < m ∧ j < m ∧ ((i : Int), (j : Int)) ∈ es ∧ errn m (lss (corG m es) k) = 0 ∧ bitB (beh m (lss (corG m es) k) i) j = false := by
  have hm := okN_of h
  have hcor := corG_of h hfull
  have hin2 : inR m (corG m es) = true := by rw [hcor]; exact inR_elist (by omega) (cors_bits h)
  have hme := ed_mem _ _ hk
  obtain ⟨⟨a, b⟩, he⟩ : ∃ e, e = ed (corG m es) k := ⟨_, rfl⟩
  rw [← he] at hme
  have hab := edge_in hin2 hme
  obtain ⟨i, rfl⟩ : ∃ i : Nat, a = (i : Int) := ⟨a.toNat, by omega⟩
  obtain ⟨j, rfl⟩ : ∃ j : Nat, b = (j : Int) := ⟨b.toNat, by omega⟩
  have hg : gR (elI (elist (cors m es) m)) i j = true := by rw [← hcor]; exact decide_eq_true hme
  obtain ⟨h1, h2⟩ := core_edge h hg
  have hsub : ∀ x y, gR (lss (corG m es) k) x y = true → gR (elI (elist (cors m es) m)) x y = true := fun x y hxy => by
    rw [← hcor]
    exact decide_eq_true (lss_sub (of_decide_eq_true hxy))
  have hinl : inR m (lss (corG m es) k) = true := by
    unfold inR at hin2 ⊢
    rw [Bool.and_eq_true] at hin2 ⊢
    refine ⟨hin2.1, ?_⟩
    rw [List.all_eq_true]
    exact fun e he => List.all_eq_true.1 hin2.2 e (lss_sub he)
  have hways : ∀ x y, Path (gR (lss (corG m es) k)) x y → fw (gR es) m x y = true := fun x y p => by
    rw [fw_iff (gR_lt h)]
    exact p.into fun x y hxy => (fw_iff (gR_lt h) x y).1 (core_edge h (hsub x y hxy)).1
  have hirr := fw_irr h hfull
  have hfl : (ordr m (lss (corG m es) k)).length = m := (topo_iff (gR_lt hinl)).2 fun x p => by
    have := hways x x p
    rw [hirr] at this
    cases this
  refine ⟨i, j, he.symm, by omega, by omega, ?_, errn_ok hinl hfl, ?_⟩
  · rcases (fw_next h i j).1 h1 with e | ⟨c, e, hf⟩
    · exact of_decide_eq_true e
    · exact absurd ⟨(fw_next h i c).2 (.inl e), hf⟩ (h2 c)
  · rw [← Bool.not_eq_true, beh_bit hinl, fw_iff (gR_lt hinl)]
    intro p
    cases p with
    | one e =>
      have h3 := of_decide_eq_true e
      rw [he] at h3
      refine lss_out ?_ hk h3
      rw [hcor]
      exact elI_nodup (elist_nodup _ _)
    | step e p => exact h2 _ ⟨(core_edge h (hsub _ _ e)).1, hways _ _ p⟩
end Go.Proofs.YtipihchlhkjdjaaDoor

namespace Go.Proofs.YtipihchlhkjdjaaDoor
open Go.RowKit

theorem below_setCells {B : Nat} {a : World} (b : Nat) (hb : B ≤ b) : ∀ (vs : List Value) (o : Nat) {w : World}, Below B a w → Below B a (w.setCells b o vs)
  | [], _, _, h => h
  | v :: r, o, _, h => below_setCells b hb r (o + 1) (h.setCell (p := ⟨b, o, none⟩) hb v)

theorem heap_setCells_ne (b k : Nat) (hk : k ≠ b) : ∀ (vs : List Value) (o : Nat) (w : World), (w.setCells b o vs).heap[k]? = w.heap[k]?
  | [], _, _ => rfl
  | v :: r, o, w => (heap_setCells_ne b k hk r (o + 1) (w.setCell ⟨b, o, none⟩ v)).trans (Below.heap_setCell w ⟨b, o, none⟩ v k hk)

/-- 'clear' of one edge -/
theorem run_clear_edge {P : Program} (w : World) (t e ty : TypeId) (ht : P.underlying t = some (.slice e)) (hv : ∀ w, (zeroValue e).run P w = .ok (.agg #[.int .i64 0, .int .i64 0]) w) (b o c : Nat)
    (hc : ∀ j, j < 2 → (w.cell? ⟨b, o + j, none⟩).isSome = true) (hf : ∀ j, j < 2 → w.frozen? ⟨b, o + j, none⟩ = false) :
    (Builtin.clear_ #[t] ty #[.slice (some ⟨b, o, none⟩) 1 c]).run P w = .ok (.tuple #[]) (w.setCells b o [.int .i64 0, .int .i64 0]) := by
  have hzc : (Builtin.zeroCells (Value.agg #[.int .i64 0, .int .i64 0]).cells 1).toList = [.int .i64 0, .int .i64 0] := by kernel_rfl
  have hst := run_storeCells_cells (P := P) b o [.int .i64 0, .int .i64 0] 0 w (by simpa using hc) (by simpa using hf) (by intro v hv'; simp at hv'; subst hv'; rfl)
  simp only [Nat.add_zero] at hst
  simp [Builtin.clear_, run_underlying ht, hv, hzc, hst]

theorem ed_lss {es : List (Int × Int)} {k q : Nat} (hk : k < es.length) : ed (lss es k) q = if q < k then ed es q else ed es (q + 1) := by
  unfold ed lss
  rw [List.getD_eq_getElem?_getD, List.getD_eq_getElem?_getD, List.getD_eq_getElem?_getD]
  have hl : (es.take k).length = k := by rw [List.length_take]; omega
  by_cases h : q < k
  · rw [if_pos h, List.getElem?_append_left (by omega), List.getElem?_take_of_lt h]
  · rw [if_neg h, List.getElem?_append_right (by omega), hl, List.getElem?_drop]
    congr 2
    omega
theorem ed_drop {es : List (Int × Int)} {k q : Nat} : ed (es.drop k) q = ed es (k + q) := by
  unfold ed
  rw [List.getD_eq_getElem?_getD, List.getD_eq_getElem?_getD, List.getElem?_drop]

/-- every cell of an owned row of edges -/
theorem own_cells {w : World} {base c g : Nat} {T : TypeId} {es : List (Int × Int)} (h : w.ownsRow base T 2 (.slice (some ⟨g, 0, none⟩) es.length c) es.length (eVals es)) :
    ∀ j, j < es.length → w.cell? ⟨g, j * 2, none⟩ = some (.int .i64 (ed es j).1) ∧ w.cell? ⟨g, j * 2 + 1, none⟩ = some (.int .i64 (ed es j).2) := fun j hj => by
  rw [h.cellAt (j * 2) (by omega), h.cellAt (j * 2 + 1) (by omega)]
  exact eVals_at es j hj
theorem own_some {w : World} {base c g : Nat} {T : TypeId} {es : List (Int × Int)} (h : w.ownsRow base T 2 (.slice (some ⟨g, 0, none⟩) es.length c) es.length (eVals es)) :
    ∀ p, p < es.length * 2 → (w.cell? ⟨g, p, none⟩).isSome = true := fun p hp => by
  have h1 := own_cells h (p / 2) (by omega)
  rcases Nat.mod_two_eq_zero_or_one p with e | e
  · rw [show p = p / 2 * 2 by omega, h1.1]; rfl
  · rw [show p = p / 2 * 2 + 1 by omega, h1.2]; rfl
theorem own_loose {w : World} {base c g n : Nat} {T : TypeId} {xs : List Value} (h : w.ownsRow base T 2 (.slice (some ⟨g, 0, none⟩) n c) n xs) (o : Nat) : w.frozen? ⟨g, o, none⟩ = false := by
  rcases h.2 with ⟨h0, _⟩ | ⟨g', cap, cur, hv, _, hg, _⟩
  · cases h0
  · injection hv with hA
    injection hA with hA
    injection hA with hA
    subst hA
    simp [World.frozen?, hg]

theorem del_mem {w : World} {base c g k : Nat} {T : TypeId} {es : List (Int × Int)} (hown : w.ownsRow base T 2 (.slice (some ⟨g, 0, none⟩) es.length c) es.length (eVals es)) (hk : k < es.length)
    (hlo1 : ∀ k, -9223372036854775808 ≤ (ed es k).1) (hhi1 : ∀ k, (ed es k).1 ≤ 9223372036854775807) (hlo2 : ∀ k, -9223372036854775808 ≤ (ed es k).2) (hhi2 : ∀ k, (ed es k).2 ≤ 9223372036854775807) (hroom : es.length ≤ 1099511627776)
    (W1 W2 : World) (hW1 : W1 = w.setCells g (k * 2) (eVals (es.drop (k + 1)))) (hW2 : W2 = W1.setCells g ((es.length - 1) * 2) [.int .i64 0, .int .i64 0]) :
    RdE W2 W2.heap.size (some ⟨g, 0, none⟩) (lss es k) ∧ Below base w W2 ∧ (∀ j, j < 2 → (W1.cell? ⟨g, (es.length - 1) * 2 + j, none⟩).isSome = true) ∧ ∀ o, W1.frozen? ⟨g, o, none⟩ = false := by
  have hC := own_cells hown
  have hS := own_some hown
  have hF := own_loose hown
  have hgb : base ≤ g ∧ g < w.heap.size := hown.lt g rfl
  have hB1 : Below base w W1 := by rw [hW1]; exact below_setCells g hgb.1 _ _ (Below.refl _ _)
  have hB2 : Below base w W2 := by rw [hW2]; exact below_setCells g hgb.1 _ _ hB1
  have hlen : (eVals (es.drop (k + 1))).length = (es.length - (k + 1)) * 2 := by rw [eVals_len, List.length_drop]
  have hin : ∀ j, j < (eVals (es.drop (k + 1))).length → (w.cell? ⟨g, k * 2 + j, none⟩).isSome = true := fun j hj => hS _ (by omega)
  have h1 : ∀ q, q + 1 < es.length → W1.cell? ⟨g, q * 2, none⟩ = some (.int .i64 (ed (lss es k) q).1) ∧ W1.cell? ⟨g, q * 2 + 1, none⟩ = some (.int .i64 (ed (lss es k) q).2) := fun q hq => by
    rw [ed_lss hk, hW1]
    by_cases h : q < k
    · rw [if_pos h, World.cell?_setCells_out _ _ _ _ _ (fun _ _ => .inl (by show q * 2 < k * 2; omega)), World.cell?_setCells_out _ _ _ _ _ (fun _ _ => .inl (by show q * 2 + 1 < k * 2; omega))]
      exact hC q (by omega)
    · rw [if_neg h]
      have h2 := eVals_at (es.drop (k + 1)) (q - k) (by rw [List.length_drop]; omega)
      rw [ed_drop, show k + 1 + (q - k) = q + 1 by omega] at h2
      have i1 := World.cell?_setCells_in g (eVals (es.drop (k + 1))) (k * 2) w hin ((q - k) * 2) (by omega)
      have i2 := World.cell?_setCells_in g (eVals (es.drop (k + 1))) (k * 2) w hin ((q - k) * 2 + 1) (by omega)
      rw [show k * 2 + (q - k) * 2 = q * 2 by omega] at i1
      rw [show k * 2 + ((q - k) * 2 + 1) = q * 2 + 1 by omega] at i2
      rw [i1, i2]
      exact ⟨(List.getElem?_eq_getElem _).symm.trans h2.1, (List.getElem?_eq_getElem _).symm.trans h2.2⟩
  have hs2 : w.heap.size ≤ W2.heap.size := hB2.size
  refine ⟨⟨fun q => ?_, fun q => ?_, fun q => ?_, fun q => ?_, by rw [lss_len hk]; omega, fun hn => ⟨g, 0, rfl, by omega, fun q hq => ?_⟩⟩, hB2, fun j hj => ?_, fun o => ?_⟩
  · rw [ed_lss hk]; split; exact hlo1 _; exact hlo1 _
  · rw [ed_lss hk]; split; exact hhi1 _; exact hhi1 _
  · rw [ed_lss hk]; split; exact hlo2 _; exact hlo2 _
  · rw [ed_lss hk]; split; exact hhi2 _; exact hhi2 _
  · rw [lss_len hk] at hq
    rw [Nat.zero_add, hW2, World.cell?_setCells_out _ _ _ _ _ (fun _ _ => .inl (by show q * 2 < (es.length - 1) * 2; omega)), World.cell?_setCells_out _ _ _ _ _ (fun _ _ => .inl (by show q * 2 + 1 < (es.length - 1) * 2; omega))]
    exact h1 q (by omega)
  · obtain ⟨u, hu⟩ := Option.isSome_iff_exists.1 (hS ((es.length - 1) * 2 + j) (by omega))
    rw [hW1]
    by_cases h : (es.length - 1) * 2 + j < k * 2 + (eVals (es.drop (k + 1))).length
    · omega
    · rw [World.cell?_setCells_out _ _ _ _ _ (fun _ _ => .inr (by show _ ≤ (es.length - 1) * 2 + j; omega)), hu]
      rfl
  · rw [hW1, World.frozen?_setCells]
    exact hF o
end Go.Proofs.YtipihchlhkjdjaaDoor

namespace Go.Proofs.YtipihchlhkjdjaaDoor
open Go.RowKit Go.Lib Go.Shelf
set_option maxRecDepth 100000

theorem append_types {P : Program} (w : World) {t t' e e' : TypeId} (ht : P.underlying t = some (.slice e)) (ht' : P.underlying t' = some (.slice e')) {i : TypeInfo} (hi : P.info? e = some i) (ty : TypeId) (B : Option Addr) (n k : Nat) (A : Option Addr) (m c : Nat) :
    (Builtin.append_ #[t, t'] ty #[.slice B n k, .slice A m c]).run P w = (Builtin.append_ #[t, t] ty #[.slice B n k, .slice A m c]).run P w := by
  simp [Builtin.append_, run_underlying ht, run_underlying ht', sizeOf, typeInfo, hi]
theorem own_cap_le {w : World} {base e size n c : Nat} {A : Option Addr} {xs : List Value} (h : w.ownsRow base e size (.slice A n c) n xs) : n ≤ c := by
  rcases h.2 with ⟨h1, rfl⟩ | ⟨g, cap, cur, h1, _, _, h2, _⟩
  · exact Nat.zero_le _
  · injection h1 with _ _ h1
    omega

/-- x put at place i -/
def putI (x : Int) (i : Nat) (l : List Int) : List Int := l.take i ++ x :: l.drop i
theorem putI_len (x : Int) {i : Nat} {l : List Int} (h : i ≤ l.length) : (putI x i l).length = l.length + 1 := by
  unfold putI
  rw [List.length_append, List.length_cons, List.length_take, List.length_drop]
  omega
theorem iVals_putI (x : Int) (i : Nat) (l : List Int) : iVals (putI x i l) = (iVals l).take i ++ .int .i64 x :: (iVals l).drop i := by
  unfold putI iVals
  simp

abbrev InsEnds (w : World) (base : Nat) (v : Value) (zs : List Int) (i : Nat) (x : Int) (e : Ending) (w' : World) : Prop :=
  ∃ v', e = .returned v' ∧ w'.ownsRow base 3 1 v' (zs.length + 1) (iVals (putI x i zs)) ∧ w.grownBy w' v.ownBlock ∧ (v'.ownBlock = v.ownBlock ∨ v'.ownBlock = some w.heap.size)

/-- at the end -/
theorem insert_end (v : Value) (zs : List Int) (x : Int) (vb base : Nat) (w : World) (hown : w.ownsRow base 3 1 v zs.length (iVals zs)) (hl : zs.length ≤ 1000000)
    (hv : ∀ j u, [Value.int .i64 x][j]? = some u → w.cell? ((⟨vb, 0, none⟩ : Addr).add j) = some u) (hb : base ≤ w.heap.size) :
    Calls Tryd.prog 61 #[v, .int .i64 (zs.length : Int), .slice (some ⟨vb, 0, none⟩) 1 1] w (InsEnds w base v zs zs.length x) := by
  obtain ⟨i0, hi, hz0, hz1, hz2⟩ := info_parts Tryd.infoInt
  obtain ⟨A, c, rfl⟩ := own_any hown
  have hcap : zs.length ≤ c := own_cap_le hown
  obtain ⟨v', w', hr, h2, h3, _, h5⟩ := run_append_own_at (P := Tryd.prog) w base 56 56 3 i0 (.int .i64 0) 1 8 Tryd.underlying56 hi hz0 hz1 hz2 rfl (by decide) _ _ _ hown ⟨vb, 0, none⟩ 1 1 [.int .i64 x] rfl hv (by simp [Value.oneCell']) (by unfold maxLen; omega) (by omega) hb
  rw [← append_types w Tryd.underlying56 Tryd.underlying34 hi] at hr
  have HR := Lib.hid hr
  have H2 := Lib.hid h2
  have H3 := Lib.hid h3
  have H5 := Lib.hid h5
  clear hr h2 h3 h5 hown hv hz0 hz1 hz2 hi hb
  obtain ⟨n, hn⟩ : ∃ n, n = zs.length := ⟨_, rfl⟩
  rw [← hn] at HR H2 H3 H5 hcap hl ⊢
  have HN := Lib.hid hn
  clear hn
  by_cases hc : c = n
  all_goals
    go_enter Tryd.func61, Tryd.ntmps61
    go_wp2_with (at_builtin; refine Lib.wpList_append_run _ rfl _ _ _ _ rfl _ _ rfl rfl _ _ HR.out ?_)
    go_ret
    refine ⟨v', rfl, ?_, H3.out, H5.out⟩
    have e : iVals (putI x zs.length zs) = iVals zs ++ [.int .i64 x] := by
      rw [iVals_putI, ← iVals_len zs, List.take_length, List.drop_length]
    rw [HN.out] at H2 ⊢
    rw [e]
    exact H2.out

/-! ### within -/
theorem own_row_of {w : World} {base g n cap : Nat} {e : TypeId} {xs : List Value} {f : Nat → Value} (h : w.rowIs g e cap f) (hb : base ≤ g) (hn : n ≤ cap) (hc : cap ≤ maxLen) (hl : xs.length = n) (hx : ∀ j, j < n → xs[j]? = some (f j)) : w.ownsRow base e 1 (.slice (some ⟨g, 0, none⟩) n cap) n xs := by
  obtain ⟨c, h1, h2, h3⟩ := h
  refine ⟨by omega, .inr ⟨g, cap, c, rfl, hb, h1, hn, hc, by omega, ?_⟩⟩
  apply List.ext_getElem?
  intro j
  rw [List.getElem?_take]
  by_cases hj : j < n
  · rw [if_pos (by omega), hx j hj, Array.getElem?_toList, h3 j (by omega)]
  · rw [if_neg (by omega), List.getElem?_eq_none (by omega)]
theorem row_of_own {w : World} {base n : Nat} {e : TypeId} {v : Value} {xs : List Value} (h : w.ownsRow base e 1 v n xs) (hn : 0 < n) : ∃ g cap f, v = .slice (some ⟨g, 0, none⟩) n cap ∧ base ≤ g ∧ n ≤ cap ∧ cap ≤ maxLen ∧ w.rowIs g e cap f ∧ ∀ j, j < n → xs[j]? = some (f j) := by
  rcases h.2 with ⟨_, h0⟩ | ⟨g, cap, cur, hv, hb, hg, h1, h2, h3, h4⟩
  · omega
  · refine ⟨g, cap, fun j => cur[j]?.getD default, hv, hb, h1, h2, ⟨cur, hg, by omega, fun i hi => ?_⟩, fun j hj => ?_⟩
    · simp [Array.getElem?_eq_getElem (show i < cur.size by omega)]
    · rw [← h4, List.getElem?_take, if_pos (by omega), Array.getElem?_toList]
      simp [Array.getElem?_eq_getElem (show j < cur.size by omega)]
theorem grown_setCells (g : Nat) : ∀ (vs : List Value) (o : Nat) (w : World), w.grownBy (w.setCells g o vs) (some g)
  | [], _, _ => ⟨rfl, rfl, rfl, Nat.le_refl _, fun _ _ _ => rfl⟩
  | v :: r, o, w => by
    have ih := grown_setCells g r (o + 1) (w.setCell ⟨g, o, none⟩ v)
    refine ⟨ih.os, ih.tape, ih.output, Nat.le_trans (by simp [World.setCell]) ih.size, fun k hk hne => ?_⟩
    have hne' : k ≠ g := fun e => hne (by rw [e])
    exact (ih.block k (by simpa [World.setCell] using hk) hne).trans (Below.heap_setCell w ⟨g, o, none⟩ v k hne')
theorem grown_trans {a b c : World} {r : Option Nat} (h : a.grownBy b r) (k : b.grownBy c r) : a.grownBy c r := ⟨k.os.trans h.os, k.tape.trans h.tape, k.output.trans h.output, Nat.le_trans h.size k.size, fun i hi hr => (k.block i (Nat.lt_of_lt_of_le hi h.size) hr).trans (h.block i hi hr)⟩
theorem grown_drew (w : World) (r : Option Nat) : w.grownBy w.drew r := ⟨rfl, rfl, rfl, Nat.le_refl _, fun _ _ _ => rfl⟩
theorem grown_drewN (w : World) (n : Nat) (r : Option Nat) : w.grownBy (w.drewN n) r := ⟨rfl, rfl, rfl, Nat.le_refl _, fun _ _ _ => rfl⟩
/-- a new block may be written as one likes -/
theorem grown_new {a b c : World} {r : Option Nat} (h : a.grownBy b r) (k : b.grownBy c (some a.heap.size)) : a.grownBy c r := ⟨k.os.trans h.os, k.tape.trans h.tape, k.output.trans h.output, Nat.le_trans h.size k.size, fun i hi hr => (k.block i (Nat.lt_of_lt_of_le hi h.size) (fun e => by cases e; omega)).trans (h.block i hi hr)⟩
theorem rowIs_cells {b : Nat} {t : TypeId} {n : Nat} : ∀ (vs : List Value) (o : Nat) (w : World) (f : Nat → Value), w.rowIs b t n f → (w.setCells b o vs).rowIs b t n (fun j => if o ≤ j ∧ j < o + vs.length then vs[j - o]?.getD default else f j) := Go.rowIs_setCells
/-- the row behind both copies -/
theorem insert_vals {vs : List Value} {n i cap : Nat} {f : Nat → Value} {u : Value} (hl : vs.length = n) (hi : i < n) (_hc : n + 1 ≤ cap) (hf : ∀ j, j < i → vs[j]? = some (f j)) (j : Nat) (hj : j < n + 1) :
    (vs.take i ++ u :: vs.drop i)[j]? = some (if i + 1 ≤ j ∧ j < i + 1 + (vs.drop i).length then (vs.drop i)[j - (i + 1)]?.getD default else if i ≤ j ∧ j < i + [u].length then [u][j - i]?.getD default else f j) := by
  have h1 : (vs.take i).length = i := by rw [List.length_take]; omega
  have h2 : (vs.drop i).length = n - i := by rw [List.length_drop]; omega
  by_cases a : j < i
  · rw [List.getElem?_append_left (by omega), List.getElem?_take, if_pos a, if_neg (by omega), if_neg (by omega), hf j a]
  · by_cases b : j = i
    · subst b
      rw [List.getElem?_append_right (by omega), h1, if_neg (by omega), if_pos (by simp)]
      simp
    · rw [List.getElem?_append_right (by omega), h1, if_pos (by omega), show j - i = (j - (i + 1)) + 1 by omega, List.getElem?_cons_succ, List.getElem?_eq_getElem (by omega)]
      rfl
theorem insert_vals' {vs : List Value} {n i cap : Nat} {f : Nat → Value} {u : Value} (hl : vs.length = n) (hi : i < n) (hc : n + 1 ≤ cap) (hf : ∀ j, j < i → vs[j]? = some (f j)) (j : Nat) (hj : j < n + 1) :
    (vs.take i ++ u :: vs.drop i)[j]? = some (if i ≤ j ∧ j < i + [u].length then [u][j - i]?.getD default else if i + 1 ≤ j ∧ j < i + 1 + (vs.drop i).length then (vs.drop i)[j - (i + 1)]?.getD default else f j) := by
  rw [insert_vals hl hi hc hf j hj]
  congr 1
  simp only [List.length_singleton]
  by_cases a : i + 1 ≤ j ∧ j < i + 1 + (vs.drop i).length
  · rw [if_pos a, if_neg (by omega), if_pos a]
  · rw [if_neg a, if_neg a]

set_option maxHeartbeats 4000000 in
/-- within, with room -/
theorem insert_room (g cap : Nat) (zs : List Int) (i : Nat) (x : Int) (vb base : Nat) (f : Nat → Value) (w : World) (hr : w.rowIs g 3 cap f) (hb : base ≤ g) (hx : ∀ j, j < zs.length → (iVals zs)[j]? = some (f j)) (hi : i < zs.length) (hroom : zs.length + 1 ≤ cap) (hc : cap ≤ maxLen)
    (hv : w.heap[vb]? = some (.cells #[.int .i64 x] 3 (0, 0))) (hne : vb ≠ g) :
    Calls Tryd.prog 61 #[.slice (some ⟨g, 0, none⟩) zs.length cap, .int .i64 (i : Int), .slice (some ⟨vb, 0, none⟩) 1 1] w (InsEnds w base (.slice (some ⟨g, 0, none⟩) zs.length cap) zs i x) := by
  obtain ⟨n, hn⟩ : ∃ n, n = zs.length := ⟨_, rfl⟩
  have hvl : (iVals zs).length = n := by rw [iVals_len, hn]
  rw [← hn] at hx hi hroom ⊢
  have hcm : cap ≤ 9223372036854775807 := by unfold maxLen at hc; omega
  have hsz : (Tryd.prog.info? 3).map (·.size) = some 1 := by
    obtain ⟨i0, hi0, _, h1, _⟩ := info_parts Tryd.infoInt
    rw [hi0]; simp [h1]
  have hov : ∀ lb cb, (callFunc 72 #[.slice (some ⟨vb, 0, none⟩) 1 1, .slice (some ⟨g, i + 1, none⟩) lb cb]).run Tryd.prog w = .ok (.value (.bool false)) w := fun lb cb => by
    obtain ⟨c, hg, hcs, _⟩ := hr
    rw [run_callFunc_extern Tryd.func72 (by kernel_rfl) (by kernel_rfl) (by kernel_rfl) (e := Extern.SlicesOverlaps.overlaps #[34, 34] #[4]) (by kernel_rfl),
      Lib.run_overlaps_apart w 34 4 3 Tryd.underlying34 1 Tryd.sizeOf3 ⟨vb, 0, none⟩ ⟨g, i + 1, none⟩ 1 1 lb cb hne 3 3 1 cap (by simp [World.shape?, hv]) (by simp [World.shape?, hg, hcs]) (by omega) (by simp [World.frozen?, hv]) (by simp [World.frozen?, hv])]
    rfl
  have hone : ∀ u ∈ iVals zs, u.oneCell' = true := fun u hu => by
    unfold iVals at hu
    obtain ⟨z, _, rfl⟩ := List.mem_map.1 hu
    rfl
  have hdl : ((iVals zs).drop i).length = n - i := by rw [List.length_drop, hvl]
  have hin : i ≤ n := by omega
  have hcell : ∀ j, j < cap → w.cell? ⟨g, j, none⟩ = some (f j) := fun j hj => hr.cell hj
  have hcp1 : ∀ ty dc sc, (Builtin.copy_ #[56, 56] ty #[.slice (some ⟨g, i + 1, none⟩) (n - i) dc, .slice (some ⟨g, i, none⟩) (n + 1 - i) sc]).run Tryd.prog w.drew = .ok (goInt ((iVals zs).drop i).length) (w.drew.setCells g (i + 1) ((iVals zs).drop i)) := fun ty dc sc =>
    run_copy_cells w.drew _ _ ty 3 g (i + 1) (n - i) dc ⟨g, i, none⟩ (n + 1 - i) sc ((iVals zs).drop i) Tryd.underlying56 hsz (by rw [hdl]; simp only [Nat.min_def]; split <;> omega)
      (fun j v hj => by
        rw [Addr.add_lit]
        rw [List.getElem?_drop] at hj
        have hjn : i + j < n := by
          have := (List.getElem?_eq_some_iff.1 hj).1
          omega
        rw [hx _ hjn] at hj
        show w.cell? _ = _
        rw [hcell _ (by omega)]
        exact hj)
      (fun j hj => by show (w.cell? _).isSome = true; rw [hcell _ (by omega)]; rfl) (fun j hj => hr.frozen _) (fun v hv => hone v (List.mem_of_mem_drop hv))
  obtain ⟨W1, hW1⟩ : ∃ W1, W1 = w.drew.setCells g (i + 1) ((iVals zs).drop i) := ⟨_, rfl⟩
  have hr1 := rowIs_cells ((iVals zs).drop i) (i + 1) w.drew f hr
  rw [← hW1] at hr1
  have hv1 : W1.heap[vb]? = some (.cells #[.int .i64 x] 3 (0, 0)) := by rw [hW1]; exact (heap_setCells_ne g vb hne _ _ _).trans hv
  have hcp2 : ∀ (W : World), (∀ q, W.cell? q = W1.cell? q) → (∀ q, W.frozen? q = W1.frozen? q) → ∀ ty dc, (Builtin.copy_ #[56, 34] ty #[.slice (some ⟨g, i, none⟩) (n + 1 - i) dc, .slice (some ⟨vb, 0, none⟩) 1 1]).run Tryd.prog W = .ok (goInt [Value.int .i64 x].length) (W.setCells g i [.int .i64 x]) := fun W hWc hWf ty dc =>
    run_copy_cells W _ _ ty 3 g i (n + 1 - i) dc ⟨vb, 0, none⟩ 1 1 [.int .i64 x] Tryd.underlying56 hsz (by simp only [Nat.min_def, List.length_singleton]; split <;> omega)
      (fun j v hj => by
        rw [hWc]
        exact World.news_of_block (cs := #[.int .i64 x]) (t := 3) (fr := (0, 0)) hv1 j v hj)
      (fun j hj => by rw [hWc, hr1.cell (by simp at hj; omega)]; rfl) (fun j hj => by rw [hWf]; exact hr1.frozen _) (fun v hv => by simp at hv; subst hv; rfl)
  have hW2 : W1.setCells g i [.int .i64 x] = W1.setCells g i [.int .i64 x] := rfl
  have hfin : ∀ W2, W2 = W1.setCells g i [.int .i64 x] → Hid (W2.ownsRow base 3 1 (.slice (some ⟨g, 0, none⟩) (n + 1) cap) (n + 1) (iVals (putI x i zs)) ∧ w.grownBy W2 (Value.slice (some ⟨g, 0, none⟩) n cap).ownBlock) := fun W2 e => by
    subst e
    have hr2 := rowIs_cells [.int .i64 x] i W1 _ hr1
    refine Lib.hid ⟨own_row_of hr2 hb (by omega) hc (by rw [iVals_len, putI_len x (by omega), hn]) (fun j hj => ?_), ?_⟩
    · rw [iVals_putI]
      exact insert_vals' hvl hi (cap := cap) (by omega) (fun j hj => hx j (by omega)) j hj
    · rw [hW1]
      exact grown_trans (grown_trans (grown_drew w _) (grown_setCells g _ _ _)) (grown_setCells g _ _ _)
  rw [← hW1] at hcp1
  have HN := Lib.hid hn
  have hz2 : ¬ ((i : Int) = (n : Int)) := by omega
  have hw1 : IntKind.i64.wrap ((i : Int) + 1) = (i : Int) + 1 := by rw [IntKind.wrap_i64]; omega
  have hw2 : IntKind.i64.wrap ((n : Int) + 1) = (n : Int) + 1 := by rw [IntKind.wrap_i64]; omega
  have hb1 : (0 : Int) ≤ (i : Int) + 1 := by omega
  have htn : ((i : Int) + 1).toNat = i + 1 := by omega
  have hb2 : ¬ (cap = i + 1) := by omega
  have hb3 : (i : Int) ≤ (n : Int) + 1 := by omega
  have hb4 : ¬ (cap = i) := by omega
  have HF := Lib.hid hfin
  clear hr hx hr1 hv1 hv hcell hone hdl hvl hfin hW2 hn hsz hW1
  go_enter Tryd.func61, Tryd.ntmps61
  have mixed : Tryd.prog.follows .mixedOrders = true := by kernel_rfl
  go_wp2_with (simp only [hov])
  go_region_law_o (refine step_copy_runI rfl _ _ 56 56 rfl _ _ (by simp [Act.eval, Act.put]) (by simp [Act.eval, Act.put]) (hcp1 _ _ _) ?_)
  go_wp2_with (at_builtin; refine wpList_copy_runI _ rfl _ _ 56 34 rfl _ _ rfl rfl (hcp2 _ (fun _ => rfl) (fun _ => rfl) _ _) ?_)
  go_ret
  obtain ⟨k1, k2⟩ := (HF.out _ rfl).out
  rw [HN.out] at k1 ⊢
  exact ⟨_, rfl, k1, HN.out ▸ k2, .inl rfl⟩
end Go.Proofs.YtipihchlhkjdjaaDoor

namespace Go.Proofs.YtipihchlhkjdjaaDoor
open Go.RowKit Go.Lib Go.Shelf
set_option maxRecDepth 100000

set_option maxHeartbeats 4000000 in
/-- within, without room -/
theorem insert_grow (g cap : Nat) (zs : List Int) (i : Nat) (x : Int) (vb base : Nat) (f : Nat → Value) (w : World) (hr : w.rowIs g 3 cap f) (hb : base ≤ w.heap.size) (hx : ∀ j, j < zs.length → (iVals zs)[j]? = some (f j)) (hi : i < zs.length) (hnc : zs.length ≤ cap) (hroom : cap < zs.length + 1) (hl : zs.length ≤ 1000000)
    (hv : w.heap[vb]? = some (.cells #[.int .i64 x] 3 (0, 0))) (_hne : vb ≠ g) :
    Calls Tryd.prog 61 #[.slice (some ⟨g, 0, none⟩) zs.length cap, .int .i64 (i : Int), .slice (some ⟨vb, 0, none⟩) 1 1] w (InsEnds w base (.slice (some ⟨g, 0, none⟩) zs.length cap) zs i x) := by
  obtain ⟨n, hn⟩ : ∃ n, n = zs.length := ⟨_, rfl⟩
  have hvl : (iVals zs).length = n := by rw [iVals_len, hn]
  rw [← hn] at hx hi hroom hnc hl ⊢
  obtain ⟨i0, hi0, hz0, hz1, hz2'⟩ := info_parts Tryd.infoInt
  have hsz : (Tryd.prog.info? 3).map (·.size) = some 1 := by rw [hi0]; simp [hz1]
  have hgw : g < w.heap.size := hr.lt
  have hvw : vb < w.heap.size := (Array.getElem?_eq_some_iff.1 hv).1
  have hone : ∀ u ∈ iVals zs, u.oneCell' = true := fun u hu => by
    unfold iVals at hu
    obtain ⟨z, _, rfl⟩ := List.mem_map.1 hu
    rfl
  have hdl : ((iVals zs).drop i).length = n - i := by rw [List.length_drop, hvl]
  have hin : i ≤ n := by omega
  have hcell : ∀ j, j < cap → w.cell? ⟨g, j, none⟩ = some (f j) := fun j hj => hr.cell hj
  have hold : (Builtin.firstCells i0.size i (.slice (some ⟨g, 0, none⟩) i cap)).run Tryd.prog w.drew = .ok ((iVals zs).take i).toArray w.drew := by
    rw [hz1]
    exact run_firstCells_some w.drew 1 i ⟨g, 0, none⟩ i cap ((iVals zs).take i) (by rw [List.length_take]; omega) (fun j v hj => by
      rw [Addr.add_lit]
      rw [List.getElem?_take] at hj
      split at hj
      · rw [hx _ (by omega)] at hj
        show w.cell? _ = _
        rw [Nat.zero_add, hcell _ (by omega)]
        exact hj
      · cases hj)
  have hkk : (n : Int) + 1 - (i : Int) = ((n + 1 - i : Nat) : Int) := by omega
  have hik : i + (n + 1 - i) = n + 1 := by omega
  have hrz : ∀ ty, (Builtin.append_ #[56, 3] ty #[.slice (some ⟨g, 0, none⟩) i cap, .int .i64 ((n : Int) + 1 - (i : Int))]).run Tryd.prog w =
      .ok (.slice (some ⟨w.heap.size, 0, none⟩) (n + 1) (grownCap w (n + 1) cap 3)) (w.drew.alloc (.cells (((iVals zs).take i).toArray ++ Builtin.zeroCells (Value.int .i64 0).cells (n + 1 - i) ++ Builtin.zeroCells (Value.int .i64 0).cells (grownCap w (n + 1) cap 3 - (n + 1))) 3)) := fun ty => by
    have h := Lib.run_append_grow_zeros w 56 3 ty 3 i0 (.int .i64 0) .i64 .i64 Tryd.underlying56 Tryd.underlying3 hi0 hz0 (some ⟨g, 0, none⟩) i cap ((iVals zs).take i) hold (n + 1 - i) (by omega) (by omega) (by omega) (by omega) (by rw [hz2']; omega) (by rw [hz2', hik]; exact growslice_fits hroom (by omega))
    rw [hik] at h
    rw [hkk]
    exact h
  have hGn : n + 1 ≤ grownCap w (n + 1) cap 3 := grownCap_ge w _ _ _
  have hGm : grownCap w (n + 1) cap 3 ≤ maxLen := grownCap_le_maxLen w _ _ _ (by unfold maxLen; omega)
  obtain ⟨G, hG⟩ : ∃ G, G = grownCap w (n + 1) cap 3 := ⟨_, rfl⟩
  obtain ⟨ROW, hROW⟩ : ∃ ROW : Array Value, ROW = ((iVals zs).take i).toArray ++ Builtin.zeroCells (Value.int .i64 0).cells (n + 1 - i) ++ Builtin.zeroCells (Value.int .i64 0).cells (G - (n + 1)) := ⟨_, rfl⟩
  rw [← hG] at hrz hGn hGm
  rw [← hROW] at hrz
  have htl : ((iVals zs).take i).length = i := by rw [List.length_take]; omega
  have hRl : ROW.size = G := by
    rw [hROW]
    simp [Builtin.zeroCells, Value.cells, hvl]
    omega
  have hRi : ∀ j, j < i → (iVals zs)[j]? = some (ROW[j]?.getD default) := fun j hj => by
    have e1 : ROW[j]? = (iVals zs)[j]? := by
      rw [hROW, Array.append_assoc, Array.getElem?_append_left (by simp [hvl]; omega)]
      simp [hj]
    rw [e1, List.getElem?_eq_getElem (by omega)]
    rfl
  have hG63 : G ≤ 9223372036854775807 := by unfold maxLen at hGm; omega
  obtain ⟨N, hN⟩ : ∃ N, N = w.heap.size := ⟨_, rfl⟩
  have hrA := World.rowIs_alloc w.drew ROW 3 (fun j => ROW[j]?.getD default) (fun j hj => by simp [Array.getElem?_eq_getElem hj])
  rw [hRl] at hrA
  replace hrA : (w.drew.alloc (.cells ROW 3)).rowIs N 3 G (fun j => ROW[j]?.getD default) := by rw [hN]; exact hrA
  have hgA : w.grownBy (w.drew.alloc (.cells ROW 3)) (Value.slice (some ⟨g, 0, none⟩) n cap).ownBlock := grown_trans (grown_drew w _) (World.grownBy_alloc _ _ _)
  have hvA : (w.drew.alloc (.cells ROW 3)).heap[vb]? = some (.cells #[.int .i64 x] 3 (0, 0)) := (Below.heap_alloc w.drew _ vb hvw).trans hv
  have hcA : ∀ j, j < cap → (w.drew.alloc (.cells ROW 3)).cell? ⟨g, j, none⟩ = some (f j) := fun j hj => (World.cell?_alloc_past (w := w.drew) _ g j hgw).trans (hcell j hj)
  have hgN : g ≠ N := by omega
  have hvN : vb ≠ N := by omega
  rw [← hN] at hrz hb
  obtain ⟨W1, hW1⟩ : ∃ W1, W1 = w.drew.alloc (.cells ROW 3) := ⟨_, rfl⟩
  rw [← hW1] at hrz hrA hvA hcA hgA
  have hcpA : ∀ ty dc, (Builtin.copy_ #[56, 34] ty #[.slice (some ⟨N, i, none⟩) (n + 1 - i) dc, .slice (some ⟨vb, 0, none⟩) 1 1]).run Tryd.prog W1 = .ok (goInt [Value.int .i64 x].length) (W1.setCells N i [.int .i64 x]) := fun ty dc =>
    run_copy_cells W1 _ _ ty 3 N i (n + 1 - i) dc ⟨vb, 0, none⟩ 1 1 [.int .i64 x] Tryd.underlying56 hsz (by simp only [Nat.min_def, List.length_singleton]; split <;> omega)
      (fun j v hj => World.news_of_block (cs := #[.int .i64 x]) (t := 3) (fr := (0, 0)) hvA j v hj)
      (fun j hj => by rw [hrA.cell (by simp at hj; omega)]; rfl) (fun j hj => hrA.frozen _) (fun v hv => by simp at hv; subst hv; rfl)
  obtain ⟨W2, hW2⟩ : ∃ W2, W2 = W1.setCells N i [.int .i64 x] := ⟨_, rfl⟩
  have hr2 := rowIs_cells [.int .i64 x] i W1 _ hrA
  have hc2 : ∀ j, j < cap → W2.cell? ⟨g, j, none⟩ = some (f j) := fun j hj => by
    rw [hW2]
    exact (World.cell?_of_block (a := ⟨g, j, none⟩) (heap_setCells_ne N g hgN _ _ _)).trans (hcA j hj)
  rw [← hW2] at hr2 hcpA
  have hcpB : ∀ ty dc sc, (Builtin.copy_ #[56, 56] ty #[.slice (some ⟨N, i + 1, none⟩) (n - i) dc, .slice (some ⟨g, i, none⟩) (n - i) sc]).run Tryd.prog W2.drew = .ok (goInt ((iVals zs).drop i).length) (W2.drew.setCells N (i + 1) ((iVals zs).drop i)) := fun ty dc sc =>
    run_copy_cells W2.drew _ _ ty 3 N (i + 1) (n - i) dc ⟨g, i, none⟩ (n - i) sc ((iVals zs).drop i) Tryd.underlying56 hsz (by rw [hdl]; simp only [Nat.min_def]; split <;> omega)
      (fun j v hj => by
        rw [Addr.add_lit]
        rw [List.getElem?_drop] at hj
        have hjn : i + j < n := by
          have := (List.getElem?_eq_some_iff.1 hj).1
          omega
        rw [hx _ hjn] at hj
        show W2.cell? _ = _
        rw [hc2 _ (by omega)]
        exact hj)
      (fun j hj => by show (W2.cell? _).isSome = true; rw [hr2.cell (by omega)]; rfl) (fun j hj => hr2.frozen _) (fun v hv => hone v (List.mem_of_mem_drop hv))
  have hfin : Hid ((W2.drew.setCells N (i + 1) ((iVals zs).drop i)).ownsRow base 3 1 (.slice (some ⟨N, 0, none⟩) (n + 1) G) (n + 1) (iVals (putI x i zs)) ∧ w.grownBy (W2.drew.setCells N (i + 1) ((iVals zs).drop i)) (Value.slice (some ⟨g, 0, none⟩) n cap).ownBlock) := by
    have hr3 := rowIs_cells ((iVals zs).drop i) (i + 1) W2.drew _ hr2
    refine Lib.hid ⟨own_row_of hr3 hb hGn hGm (by rw [iVals_len, putI_len x (by omega), hn]) (fun j hj => ?_), ?_⟩
    · rw [iVals_putI]
      exact insert_vals hvl hi (cap := G) (by omega) hRi j hj
    · have k1 : W1.grownBy W2 (some w.heap.size) := by rw [hW2, ← hN]; exact grown_setCells N _ _ _
      have k2 : W2.grownBy (W2.drew.setCells N (i + 1) ((iVals zs).drop i)) (some w.heap.size) := by rw [← hN]; exact grown_trans (grown_drew W2 _) (grown_setCells N _ _ _)
      exact grown_new (grown_new hgA k1) k2
  have HN := Lib.hid hn
  have HNN := Lib.hid hN
  have hz2 : ¬ ((i : Int) = (n : Int)) := by omega
  have hz3 : (cap : Int) < (n : Int) + 1 := by omega
  have hw1 : IntKind.i64.wrap ((i : Int) + 1) = (i : Int) + 1 := by rw [IntKind.wrap_i64]; omega
  have hw2 : IntKind.i64.wrap ((n : Int) + 1) = (n : Int) + 1 := by rw [IntKind.wrap_i64]; omega
  have hb1 : (0 : Int) ≤ (i : Int) + 1 := by omega
  have htn : ((i : Int) + 1).toNat = i + 1 := by omega
  have hb3 : (i : Int) ≤ (n : Int) := by omega
  have hGi : ¬ (G = i) := by omega
  have hGim : ¬ (G = i + 1) := by omega
  have hci : ¬ (cap = i) := by omega
  have hcm : cap ≤ 9223372036854775807 := by omega
  clear hr hx hr2 hrA hv hvA hcell hcA hc2 hone hdl hvl hn hsz hW1 hW2 hgA hGm hRi hRl htl hROW hG hkk hik hold hi0 hz0 hz1 hz2' hN
  have mixed : Tryd.prog.follows .mixedOrders = true := by kernel_rfl
  go_enter Tryd.func61, Tryd.ntmps61
  go_wp2_with (first
    | (at_builtin; refine Lib.wpList_append_run _ rfl _ _ _ _ rfl _ _ rfl rfl _ _ (hrz _) ?_)
    | (at_builtin; refine wpList_copy_runI _ rfl _ _ 56 34 rfl _ _ rfl rfl (hcpA _ _) ?_))
  go_region_law_o (refine step_copy_runI rfl _ _ 56 56 rfl _ _ (by simp [Act.eval, Act.put]) (by simp [Act.eval, Act.put]) (hcpB _ _ _) ?_)
  go_wp2
  go_ret
  obtain ⟨k1, k2⟩ := hfin.out
  rw [HN.out] at k1 ⊢
  exact ⟨_, rfl, k1, HN.out ▸ k2, .inr (by rw [← HNN.out]; rfl)⟩

/-- the whole -/
theorem insert_any (v : Value) (zs : List Int) (i : Nat) (x : Int) (vb base : Nat) (w : World) (hown : w.ownsRow base 3 1 v zs.length (iVals zs)) (hi : i ≤ zs.length) (hl : zs.length ≤ 1000000)
    (hv : w.heap[vb]? = some (.cells #[.int .i64 x] 3 (0, 0))) (hne : v.ownBlock ≠ some vb) (hb : base ≤ w.heap.size) :
    Calls Tryd.prog 61 #[v, .int .i64 (i : Int), .slice (some ⟨vb, 0, none⟩) 1 1] w (InsEnds w base v zs i x) := by
  by_cases h : i = zs.length
  · subst h
    exact insert_end v zs x vb base w hown hl (World.news_of_block (cs := #[.int .i64 x]) (t := 3) (fr := (0, 0)) hv) hb
  · obtain ⟨g, cap, f, rfl, hbg, hnc, hcm, hr, hx⟩ := row_of_own hown (by omega)
    have hvg : vb ≠ g := fun e => hne (by rw [e]; rfl)
    by_cases h2 : zs.length + 1 ≤ cap
    · exact insert_room g cap zs i x vb base f w hr hbg hx (by omega) h2 hcm hv hvg
    · exact insert_grow g cap zs i x vb base f w hr hb hx (by omega) hnc (by omega) hl hv hvg
end Go.Proofs.YtipihchlhkjdjaaDoor
