/-
  Contract of forkwrightref.BClosure; its edges are the closure's, and the core's.
-/
import Derived.Test.YtgfbjlmpofbnnaaDoorGrLawCl
namespace Go.Proofs.YtgfbjlmpofbnnaaDoor
open Go.RowKit Go.Shelf
set_option maxRecDepth 100000

/-- is there a node on the way from i to j? -/
def anyB (m : Nat) (es : List (Int × Int)) (i j k : Nat) : Bool := (List.range k).any fun c => fw (gR es) m i c && fw (gR es) m c j
theorem anyB_succ (m : Nat) (es : List (Int × Int)) (i j k : Nat) : anyB m es i j (k + 1) = (anyB m es i j k || (fw (gR es) m i k && fw (gR es) m k j)) := by
  unfold anyB
  rw [List.range_succ, List.any_append]
  simp
def okB (m : Nat) (es : List (Int × Int)) (core : Bool) (i j k : Nat) : Bool := fw (gR es) m i j && !(core && anyB m es i j k)
theorem okB_zero (m : Nat) (es : List (Int × Int)) (core : Bool) (i j : Nat) : okB m es core i j 0 = fw (gR es) m i j := by
  unfold okB anyB
  simp
theorem okB_succ (m : Nat) (es : List (Int × Int)) (core : Bool) (i j k : Nat) {p f1 f2 : Bool} (hp : okB m es core i j k = p) (h1 : fw (gR es) m i k = f1) (h2 : fw (gR es) m k j = f2) : okB m es core i j (k + 1) = (p && !(core && f1 && f2)) := by
  rw [← hp]
  unfold okB
  rw [anyB_succ, h1, h2]
  cases fw (gR es) m i j <;> cases core <;> cases anyB m es i j k <;> cases f1 <;> cases f2 <;> rfl
def rowL (m : Nat) (es : List (Int × Int)) (core : Bool) (i n : Nat) : List (Nat × Nat) := ((List.range n).filter fun j => okB m es core i j m).map fun j => (i, j)
theorem rowL_yes {m : Nat} {es : List (Int × Int)} {core : Bool} {i n : Nat} (h : okB m es core i n m = true) : rowL m es core i (n + 1) = rowL m es core i n ++ [(i, n)] := by
  unfold rowL; rw [List.range_succ, List.filter_append]; simp [h]
theorem rowL_no {m : Nat} {es : List (Int × Int)} {core : Bool} {i n : Nat} (h : okB m es core i n m = false) : rowL m es core i (n + 1) = rowL m es core i n := by
  unfold rowL; rw [List.range_succ, List.filter_append]; simp [h]
theorem rowL_len (m : Nat) (es : List (Int × Int)) (core : Bool) (i n : Nat) : (rowL m es core i n).length ≤ n := by
  unfold rowL
  rw [List.length_map]
  have := List.length_filter_le (fun j => okB m es core i j m) (List.range n)
  simpa using this
def flatL (m : Nat) (es : List (Int × Int)) (core : Bool) (k : Nat) : List (Nat × Nat) := (List.range k).flatMap fun i => rowL m es core i m
theorem flatL_succ (m : Nat) (es : List (Int × Int)) (core : Bool) (k : Nat) : flatL m es core (k + 1) = flatL m es core k ++ rowL m es core k m := by
  unfold flatL; rw [List.range_succ, List.flatMap_append]; simp
theorem flatL_len (m : Nat) (es : List (Int × Int)) (core : Bool) (k : Nat) : (flatL m es core k).length ≤ k * m := by
  induction k with
  | zero => simp [flatL]
  | succ k ih =>
    rw [flatL_succ, List.length_append, Nat.succ_mul]
    have := rowL_len m es core k m
    omega
theorem flatL_lt (m : Nat) (es : List (Int × Int)) (core : Bool) : ∀ e ∈ flatL m es core m, e.1 < m ∧ e.2 < m := by
  intro e he
  unfold flatL at he
  obtain ⟨i, hi, h⟩ := List.mem_flatMap.1 he
  unfold rowL at h
  obtain ⟨j, hj, rfl⟩ := List.mem_map.1 h
  exact ⟨List.mem_range.1 hi, List.mem_range.1 (List.mem_filter.1 hj).1⟩
theorem filter_more {p : Nat → Bool} {a : Nat} (h : ∀ x, p x = true → x < a) (d : Nat) : (List.range (a + d)).filter p = (List.range a).filter p := by
  induction d with
  | zero => rfl
  | succ d ih =>
    have hf : p (a + d) = false := by
      cases hp : p (a + d) with
      | false => rfl
      | true => have := h _ hp; omega
    rw [← Nat.add_assoc, List.range_succ, List.filter_append, ih]
    simp [hf]
theorem filter_two {p : Nat → Bool} {a b : Nat} (ha : ∀ x, p x = true → x < a) (hb : ∀ x, p x = true → x < b) : (List.range a).filter p = (List.range b).filter p := by
  rcases Nat.le_total a b with h | h
  · obtain ⟨d, rfl⟩ : ∃ d, b = a + d := ⟨b - a, by omega⟩
    exact (filter_more ha d).symm
  · obtain ⟨d, rfl⟩ : ∃ d, a = b + d := ⟨a - b, by omega⟩
    exact filter_more hb d
theorem elist_flat {m : Nat} {es : List (Int × Int)} {core : Bool} {xss : List (List Nat)} (h : ∀ i, i < m → ∀ j, bitB (st xss i) j = okB m es core i j m) (hb : ∀ i, i < m → ∀ j, bitB (st xss i) j = true → j < m) (k : Nat) (hk : k ≤ m) : elist xss k = flatL m es core k := by
  induction k with
  | zero => rfl
  | succ k ih =>
    rw [elist_succ, flatL_succ, ih (by omega)]
    congr 1
    unfold rowL
    congr 1
    have e1 : (fun j => okB m es core k j m) = bitB (st xss k) := by funext j; exact (h k (by omega) j).symm
    rw [e1]
    unfold mem nums
    exact filter_two (fun x hx => bit_in' _ _ hx) (fun x hx => hb k (by omega) x hx)
def bcG (core : Bool) (N : Int) (es : List (Int × Int)) : List (Int × Int) := if errn N es = 0 then elI (flatL N.toNat es core N.toNat) else []
theorem bcG_false (N : Int) (es : List (Int × Int)) : bcG false N es = clsG N es := by
  unfold bcG clsG
  by_cases hE : errn N es = 0
  · obtain ⟨m, rfl, hin, _⟩ := errn_split hE
    rw [if_pos hE, if_pos hE, Int.toNat_natCast, elist_flat (core := false) (fun i hi j => ?_) (behs_bits hin) m (Nat.le_refl _)]
    rw [st_behs _ hi, beh_bit hin]
    unfold okB
    simp
  · rw [if_neg hE, if_neg hE]
theorem bcG_true (N : Int) (es : List (Int × Int)) : bcG true N es = corG N es := by
  unfold bcG corG
  by_cases hE : errn N es = 0
  · obtain ⟨m, rfl, hin, _⟩ := errn_split hE
    rw [if_pos hE, if_pos hE, Int.toNat_natCast, elist_flat (core := true) (fun i hi j => ?_) (cors_bits hin) m (Nat.le_refl _)]
    rw [st_cors _ hi, corS_bit hin]
    unfold okB anyB
    simp
  · rw [if_neg hE, if_neg hE]

set_option maxHeartbeats 8000000 in
theorem bclosure_any (A : Option Addr) (c : Nat) (N : Int) (es : List (Int × Int)) (core : Bool) (w : World) (he : RdE w w.heap.size A es) :
    Calls Tryd.prog 19 #[.agg #[.int .i64 N, .slice A es.length c], .bool core] w fun e w' => ∃ A1 c1, e = .returned (.tuple #[.agg #[.int .i64 (nG N es), .slice A1 (bcG core N es).length c1], .int .i64 (errn N es)]) ∧ RdE w' w'.heap.size A1 (bcG core N es) ∧ Below w.heap.size w w' := by
  obtain ⟨i0, hi, hz0, hz1, hz2⟩ := info_parts Tryd.infoEd
  go_enter Tryd.func19, Tryd.ntmps19
  go_wp2_with fail
  have hG0 := (GB.new w 24 N (.slice A es.length c)).alloc (.cells #[.int .i64 0, .slice none 0 0] 24)
  have hR0 := GB.new (w.alloc (.cells #[.int .i64 N, .slice A es.length c] 24)) 24 0 (.slice none 0 0)
  obtain ⟨w1, hw1⟩ : ∃ w1, w1 = (w.alloc (.cells #[.int .i64 N, .slice A es.length c] 24)).alloc (.cells #[.int .i64 0, .slice none 0 0] 24) := ⟨_, rfl⟩
  have hb1 : Below w.heap.size w w1 := by rw [hw1]; exact ((Below.refl _ _).alloc (Nat.le_refl _) _).alloc (by simp) _
  rw [World.size_alloc] at hR0
  rw [← hw1] at hR0 hG0 ⊢
  have he1 := he.step hb1
  obtain ⟨gc, hgc⟩ : ∃ gc, gc = w.heap.size := ⟨_, rfl⟩
  rw [← hgc] at hR0 hG0 ⊢
  have HGC := Lib.hid hgc
  clear hw1 hgc he
  refine (bwrong_any A c N es _ he1).mono ?_
  rintro e w2 ⟨rfl, hb2⟩
  have hG2 := hG0.step hb2
  have hR2 := hR0.step hb2
  have he2 := he1.step hb2
  have hB2 : Below w.heap.size w w2 := hb1.trans (hb2.mono hb1.size)
  clear hR0 hG0 he1 hb1 hb2
  have hgn := hG2.n
  have hge := hG2.e
  have hrn := hR2.n
  have hre := hR2.e
  have hrf0 := hR2.frozen 0
  have hrf1 := hR2.frozen 1
  by_cases hE : errn N es = 0
  · obtain ⟨m, rfl, hin, hfull⟩ := errn_split hE
    have hm := okN_of hin
    have hm2 : m ≤ 200 := by omega
    have e1 : nG m es = m := by unfold nG; rw [if_pos hE]
    have e2 : bcG core m es = elI (flatL m es core m) := by unfold bcG; rw [if_pos hE, Int.toNat_natCast]
    rw [hE]
    have E1 := Lib.hid e1
    have E2 := Lib.hid e2
    have HE := Lib.hid hE
    clear e1 e2 hE hfull hm
    go_wp2_with fail
    refine (reach_rows A c m es _ he2 hin).mono ?_
    rintro e w3 ⟨g, rfl, hM, hb3⟩
    have hG3 := hG2.step hb3
    have hR3 := hR2.step hb3
    have hB3 : Below w.heap.size w w3 := hB2.trans (hb3.mono hB2.size)
    clear hgn hge hrn hre hrf0 hrf1 hG2 hR2 he2 hB2 hb3 hin
    have hgn := hG3.n
    have hge := hG3.e
    go_wp2_with fail
    have hO0 := GB.new w3 24 m (.slice none 0 0)
    obtain ⟨w4, hw4⟩ : ∃ w4, w4 = w3.alloc (.cells #[.int .i64 (m : Int), .slice none 0 0] 24) := ⟨_, rfl⟩
    have hb4 : Below w3.heap.size w3 w4 := by rw [hw4]; exact below_alloc _ _
    rw [← hw4] at hO0 ⊢
    obtain ⟨Bo, hBo⟩ : ∃ Bo, Bo = w3.heap.size := ⟨_, rfl⟩
    rw [← hBo] at hO0 hb4 ⊢
    have HBO := Lib.hid hBo
    have HR := Lib.hid hR3
    have HB3 := Lib.hid hB3
    have hC0 : CollG 24 43 Bo Bo m (flatL m es core 0).length (eVals (elI (flatL m es core 0))) (fun _ => True) w4 := ⟨_, hO0, World.ownsRow_nil _ _ _ _, trivial, fun _ _ => trivial⟩
    clear hw4 hBo hO0 hgn hge hG3 hR3 hB3
    go_loopw [26] (fun i wr => ∃ a : Nat, a ≤ m ∧ i = .int .i64 a ∧ CollG 24 43 Bo Bo m (flatL m es core a).length (eVals (elI (flatL m es core a))) (fun _ => True) wr ∧ Below Bo w3 wr) (fun i _ => m - (intOf i).toNat)
    case atStart => exact ⟨0, Nat.zero_le _, rfl, hC0, hb4⟩
    case round =>
      clear hC0 hb4
      obtain ⟨a, ha, rfl, hC, hbr⟩ := hrel
      by_cases halt : a < m
      · go_wp2_with fail
        have hC1 : CollG 24 43 Bo Bo m (flatL m es core a ++ rowL m es core a 0).length (eVals (elI (flatL m es core a ++ rowL m es core a 0))) (fun _ => True) wr := by
          have e0 : rowL m es core a 0 = [] := rfl
          rw [e0, List.append_nil]
          exact hC
        clear hC
        obtain ⟨wa, hwa⟩ : ∃ wa : World, wa = wr := ⟨_, rfl⟩
        go_loopw [31] (fun i wr => ∃ b : Nat, b ≤ m ∧ i = .int .i64 b ∧ CollG 24 43 Bo Bo m (flatL m es core a ++ rowL m es core a b).length (eVals (elI (flatL m es core a ++ rowL m es core a b))) (fun _ => True) wr ∧ Below Bo w3 wr) (fun i _ => m - (intOf i).toNat)
        case atStart => exact ⟨0, Nat.zero_le _, rfl, hC1, hbr⟩
        case round =>
          clear hC1 hbr hwa
          obtain ⟨b, hb, rfl, hC, hbr⟩ := hrel
          by_cases hblt : b < m
          · have hMr := hM.step (by rw [← HBO.out]; exact hbr)
            have hc1 := hMr.c1 halt
            have hc2 := hMr.c2 halt hblt
            have ha0 : (0 : Int) ≤ (a : Int) := Int.natCast_nonneg _
            have ha1 : (a : Int) < (m : Int) := by omega
            have hb0 : (0 : Int) ≤ (b : Int) := Int.natCast_nonneg _
            have hb1 : (b : Int) < (m : Int) := by omega
            have hz := okB_zero m es core a b
            obtain ⟨p0, hp0⟩ : ∃ p0, p0 = fw (gR es) m a b := ⟨_, rfl⟩
            rw [← hp0] at hc2 hz
            have HZ := Lib.hid hz
            clear hp0 hz
            go_wp2_with fail
            go_loop [11, 43] (fun v i => ∃ k : Nat, k ≤ m ∧ i = .int .i64 k ∧ v = .bool (okB m es core a b k)) (fun _ i => m - (intOf i).toNat)
            case atStart => exact ⟨0, Nat.zero_le _, rfl, by rw [HZ.out]⟩
            case round =>
              clear hc2 HZ
              obtain ⟨k, hk, rfl, rfl⟩ := hrel
              by_cases hklt : k < m
              · have hk1 := hMr.c2 halt hklt
                have hk2 := hMr.c1 hklt
                have hk3 := hMr.c2 hklt hblt
                have hk0 : (0 : Int) ≤ (k : Int) := Int.natCast_nonneg _
                have hk4 : (k : Int) < (m : Int) := by omega
                obtain ⟨f1, hf1⟩ : ∃ f1, fw (gR es) m a k = f1 := ⟨_, rfl⟩
                obtain ⟨f2, hf2⟩ : ∃ f2, fw (gR es) m k b = f2 := ⟨_, rfl⟩
                obtain ⟨p, hp⟩ : ∃ p, okB m es core a b k = p := ⟨_, rfl⟩
                have HS := Lib.hid (okB_succ m es core a b k hp hf1 hf2)
                rw [hf1] at hk1
                rw [hf2] at hk3
                rw [hp]
                clear hp hf1 hf2 hMr hC hbr
                have h5 : (p = false) ∨ (p = true ∧ core = false) ∨ (p = true ∧ core = true ∧ f1 = false) ∨ (p = true ∧ core = true ∧ f1 = true ∧ f2 = false) ∨ (p = true ∧ core = true ∧ f1 = true ∧ f2 = true) := by
                  cases p <;> cases core <;> cases f1 <;> cases f2 <;> simp
                rcases h5 with rfl | ⟨rfl, rfl⟩ | ⟨rfl, rfl, rfl⟩ | ⟨rfl, rfl, rfl, rfl⟩ | ⟨rfl, rfl, rfl, rfl⟩
                all_goals
                  go_wp2
                  go_round
                  case rel => exact ⟨k + 1, by omega, by go_num, by rw [HS.out]; rfl⟩
                  case measure => simp [intOf]; omega
              · obtain rfl : k = m := by omega
                obtain ⟨q, hq⟩ : ∃ q, okB k es core a b k = q := ⟨_, rfl⟩
                rw [hq]
                clear hMr hM HR HB3 HE E1 E2
                cases q with
                | true =>
                  obtain ⟨v, hv, hrow, _, _⟩ := hC
                  have HY := Lib.hid (rowL_yes hq)
                  have hce := hv.e
                  have hlen : (flatL k es core a ++ rowL k es core a b).length ≤ 40200 := by
                    rw [List.length_append]
                    have h1 := flatL_len k es core a
                    have h2 := rowL_len k es core a b
                    have h3 : a * k ≤ 200 * 200 := Nat.mul_le_mul (by omega) hm2
                    omega
                  obtain ⟨LL, hLL⟩ : ∃ LL, LL = flatL k es core a ++ rowL k es core a b := ⟨_, rfl⟩
                  rw [← hLL] at hrow hlen
                  have eL : LL ++ [(a, b)] = flatL k es core a ++ rowL k es core a (b + 1) := by rw [HY.out, ← List.append_assoc, hLL]
                  have HEL := Lib.hid eL
                  have hwr : Bo ≤ wr.heap.size := Nat.le_trans (Nat.le_of_eq HBO.out) hbr.size
                  have hp1 : LL.length + 1 ≤ maxLen := by unfold maxLen; omega
                  have hp2 : (LL.length + 1) * 16 ≤ 140737488355328 := by omega
                  have hp3 : Bo ≤ (wr.alloc (.cells #[.int .i64 (a : Int), .int .i64 (b : Int)] 43)).heap.size := by simp; omega
                  clear hq hLL eL HY hlen
                  go_wp2_with (at_builtin; refine wpList_append_own_at _ rfl _ _ 22 rfl Bo 43 i0 (.agg #[.int .i64 0, .int .i64 0]) 2 16 Tryd.underlying22 hi hz0 hz1 hz2 rfl (by decide) _ _ _ rfl (hrow.alloc _) ⟨wr.heap.size, 0, none⟩ 1 1 [.int .i64 (a : Int), .int .i64 (b : Int)] rfl rfl (cell_two_new _ _ _ _) (by simp [Value.oneCell']) hp1 hp2 hp3 ?_; intro v' w9 hown' hgrow _ hat; obtain ⟨g', cap', rfl⟩ := ownsRow_succ hown'; have hcs := Lib.hid (CollG.step hv (by decide) hrow hwr (Nat.le_refl _) trivial (fun _ _ => trivial) hown' hgrow hat); have hv1 : GB 24 w9 Bo k v := (hv.alloc _).kept hgrow (hv.not_row (by decide) hrow); have hc9 := hv1.e; have hf9 := hv1.frozen 1; clear hown' hgrow hat hv1)
                  go_roundw
                  case rel =>
                    obtain ⟨q1, _, q3⟩ := hcs.out
                    refine ⟨b + 1, by omega, by go_num, ?_, hbr.trans q3⟩
                    rw [← HEL.out, elI_snoc, eVals_snoc, List.length_append]
                    exact q1.mono fun _ _ => trivial
                  case measure => simp [intOf]; omega
                | false =>
                  have HN := Lib.hid (rowL_no hq)
                  clear hq
                  go_wp2
                  go_roundw
                  case rel => exact ⟨b + 1, by omega, by go_num, by rw [HN.out]; exact hC, hbr⟩
                  case measure => simp [intOf]; omega
          · obtain rfl : b = m := by omega
            rw [← flatL_succ] at hC
            go_wp2
            go_roundw
            case rel => exact ⟨a + 1, by omega, by go_num, hC, hbr⟩
            case measure => simp [intOf]; omega
      · obtain rfl : a = m := by omega
        obtain ⟨v, hv, hrow, _, _⟩ := hC
        have hBO := HBO.out
        have hgl : gc + 1 < Bo := by have := HR.out.lt; omega
        have hRw : GB 24 wr (gc + 1) 0 (.slice none 0 0) := (hbr.block (gc + 1) hgl).trans HR.out
        have hlt := flatL_lt a es core
        have hfl := flatL_len a es core a
        have hfl2 : a * a ≤ 200 * 200 := Nat.mul_le_mul hm2 hm2
        have hl2 : (elI (flatL a es core a)).length = (flatL a es core a).length := elI_len _
        rw [← hl2] at hrow
        obtain ⟨Av, cv, rfl⟩ := own_any2 hrow
        have hcn := hv.n
        have hce := hv.e
        have hrn := hRw.n
        have hre := hRw.e
        have hrf0 := hRw.frozen 0
        have hrf1 := hRw.frozen 1
        have hR5 := (hRw.set0 (a : Int)).set (.slice Av (elI (flatL a es core a)).length cv)
        have hfin := ownsRow_setCell_below (ownsRow_setCell_below hrow (a := ⟨gc + 1, 0, none⟩) hgl (.int .i64 (a : Int))) (a := ⟨gc + 1, 1, none⟩) hgl (.slice Av (elI (flatL a es core a)).length cv)
        have HL2 := Lib.hid hl2
        have HFIN := Lib.hid hfin
        clear hl2 hfin hM hBO
        go_wp2
        (try simp only [Exit.inBlock, Exit.then])
        refine bodyPost_ret (results_row_tmp rfl _ _ (gc + 1) 24 _ (0, 0) _ rfl hR5 rfl rfl Tryd.infoGr) rfl ?_
        rw [E1.out, E2.out, HE.out]
        have hed := elI_ed (flatL a es core a) a hm2 hlt
        have hG := HGC.out
        have hBO := HBO.out
        have hbs := HB3.out.size
        have hbf : Below (gc + 1) wr ((wr.setCell ⟨gc + 1, 0, none⟩ (.int .i64 (a : Int))).setCell ⟨gc + 1, 1, none⟩ (.slice Av (elI (flatL a es core a)).length cv)) := ((Below.refl _ _).setCell (p := ⟨gc + 1, 0, none⟩) (Nat.le_refl _) _).setCell (p := ⟨gc + 1, 1, none⟩) (Nat.le_refl _) _
        refine ⟨Av, ⟨cv, rfl⟩, ?_⟩
        refine ⟨own_rdE HFIN.out (fun k => by have := (hed k).1; omega) (fun k => by have := (hed k).1; omega) (fun k => by have := (hed k).2; omega) (fun k => by have := (hed k).2; omega) (by rw [HL2.out]; omega), ?_⟩
        exact HB3.out.trans ((hbr.mono (by omega)).trans (hbf.mono (by omega)))
  · have e1 : nG N es = 0 := by unfold nG; rw [if_neg hE]
    have e2 : bcG core N es = [] := by unfold bcG; rw [if_neg hE]
    have E1 := Lib.hid e1
    have E2 := Lib.hid e2
    clear e1 e2
    obtain ⟨E, hEE⟩ : ∃ E, E = errn N es := ⟨_, rfl⟩
    rw [← hEE] at hE ⊢
    have hb : (E != 0) = true := by simpa using hE
    have HE := Lib.hid hEE
    have hR3 := (hR2.set0 0).set (.slice none 0 0)
    clear hE hEE
    go_wp2
    (try simp only [Exit.inBlock, Exit.then])
    refine bodyPost_ret (results_row_tmp rfl _ _ (gc + 1) 24 _ (0, 0) _ rfl hR3 rfl rfl Tryd.infoGr) rfl ?_
    have hG := HGC.out
    rw [E1.out, E2.out, ← HE.out]
    exact ⟨none, 0, rfl, rdE_nil _ _ _, (hB2.setCell (p := ⟨gc + 1, 0, none⟩) (by dsimp only; omega) _).setCell (p := ⟨gc + 1, 1, none⟩) (by dsimp only; omega) _⟩
end Go.Proofs.YtgfbjlmpofbnnaaDoor
