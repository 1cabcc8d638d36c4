/-
  Contract of the law OrderDilworth.
  A graph without one of its nodes; the orders parted by who comes first. Plain mathematics.
  Contract of the law OrderFirst.
-/
import Derived.Test.YtaboafkpmgadmaaDoorPk16
import Derived.Test.YtaboafkpmgadmaaDoorPk20
import Derived.Test.YtaboafkpmgadmaaDoorPk18
import Derived.Test.YtaboafkpmgadmaaDoorPk13
import Derived.Deep.AppendLies
namespace Go.Proofs.YtaboafkpmgadmaaDoor
open Go.RowKit Go.Shelf
set_option maxRecDepth 100000

theorem flat_toI (ls : List (List Nat)) : (ls.map toI).flatten = toI ls.flatten := by
  induction ls with
  | nil => rfl
  | cons l ls ih => rw [List.map_cons, List.flatten_cons, ih, List.flatten_cons]; unfold toI; rw [List.map_append]
section
variable {f : Nat → Nat → Bool} {m : Nat} {B H : Nat → Option Nat} {T : Nat → Bool}
theorem cov_srt (hM : Mt f m B H) (hS : So f m) : srt (toI (cov B H m).flatten) = toI (List.range m) := by
  refine srt_eq _ _ ((perm_range (cov_nodup hM hS) (cov_length hM hS) fun x hx => cov_lt hM hS hx).map _) ?_
  unfold toI
  rw [List.pairwise_map]
  exact List.pairwise_lt_range.imp fun h => by omega
theorem cov_at {k : Nat} (hk : k < ((cov B H m).map toI).length) : ∃ n, n < m ∧ B n = none ∧ ((cov B H m).map toI).getD k [] = toI (chn' H m n) := by
  rw [List.length_map] at hk
  have h1 : ((cov B H m).map toI).getD k [] = toI (cov B H m)[k] := by simp [List.getD, hk]
  have h2 := List.getElem_mem hk
  rw [h1]
  unfold cov at h2 ⊢
  obtain ⟨n, hn, e⟩ := List.mem_map.1 h2
  have h3 := List.mem_filter.1 hn
  exact ⟨n, List.mem_range.1 h3.1, by simpa [start] using h3.2, by rw [← e]⟩
theorem chn'_pos {n : Nat} (hn : n < m) : 0 < (toI (chn' H m n)).length := by
  rw [toI_len]
  refine List.length_pos_of_mem (a := n) (chO_mem.2 ⟨0, by omega, rfl⟩)
theorem chn'_next (hM : Mt f m B H) {n : Nat} : ∀ j, j + 1 < (toI (chn' H m n)).length → ∃ a b : Nat, zd (toI (chn' H m n)) j = (a : Int) ∧ zd (toI (chn' H m n)) (j + 1) = (b : Int) ∧ f a b = true := by
  intro j hj
  rw [toI_len] at hj
  have hle := chO_le (H := H) n m
  have hjm : j + 1 < m := by unfold chn' at hj; omega
  have g1 : (chn' H m n)[j]? = itO H n j := by unfold chn'; rw [chO_get, if_pos (by omega)]
  have g2 : (chn' H m n)[j + 1]? = itO H n (j + 1) := by unfold chn'; rw [chO_get, if_pos hjm]
  rw [List.getElem?_eq_getElem (by omega)] at g1
  rw [List.getElem?_eq_getElem hj] at g2
  refine ⟨(chn' H m n)[j], (chn' H m n)[j + 1], ?_, ?_, ?_⟩
  · unfold zd toI; simp [List.getD, show j < (chn' H m n).length by omega]
  · unfold zd toI; simp [List.getD, hj]
  · obtain ⟨u, hu, hv⟩ := itO_down g2.symm
    rw [hu] at g1
    injection g1 with g1
    rw [g1]
    exact (hM.next hv).2.2
end
theorem wid_apart {m : Nat} {es : List (Int × Int)} {B H : Nat → Option Nat} {T : Nat → Bool} (hE : errn m es = 0) (hK : Kon (fw (gR es) m) m B H T) : apG m es (toI ((List.range m).filter (lastU H T))) = true := by
  unfold apG
  rw [Bool.and_eq_true, Int.toNat_natCast]
  refine ⟨decide_eq_true hE, apB_iff.2 ⟨fun z hz => ?_, toI_nodup (List.Pairwise.filter _ List.nodup_range), fun z hz y hy => ?_⟩⟩
  · obtain ⟨n, hn, rfl⟩ := mem_toI' hz
    have := List.mem_range.1 (List.mem_filter.1 hn).1
    omega
  · obtain ⟨n, hn, rfl⟩ := mem_toI' hz
    obtain ⟨q, hq, rfl⟩ := mem_toI' hy
    rw [Int.toNat_natCast, Int.toNat_natCast]
    exact hK.apart (List.mem_range.1 (List.mem_filter.1 hn).1) (List.mem_filter.1 hn).2 (List.mem_filter.1 hq).2

set_option maxHeartbeats 8000000 in
theorem dilworthLaw_any (A : Option Addr) (c : Nat) (N : Int) (es : List (Int × Int)) (w : World) (he : RdE w w.heap.size A es) (_hl : es.length ≤ 1048576) (hT : Tab w) :
    Calls Tryd.prog 10 #[.agg #[.int .i64 N, .slice A es.length c]] w fun e w' => e = .returned (.bool true) ∧ Below w.heap.size w w' := by
  go_enter Tryd.func10, Tryd.ntmps10
  go_wp2_with fail
  have g1 := GB.new w 24 N (.slice A es.length c)
  have hB := below_alloc w (.cells #[.int .i64 N, .slice A es.length c] 24)
  obtain ⟨w1, hw1⟩ : ∃ w1, w1 = w.alloc (.cells #[.int .i64 N, .slice A es.length c] 24) := ⟨_, rfl⟩
  rw [← hw1] at g1 hB ⊢
  have hs := hB.size
  replace he := he.step hB
  replace hT := hT.step hB
  clear hw1
  refine (alive3_any _ hT).mono ?_
  rintro e w2 ⟨rfl, hb⟩
  replace g1 := g1.step hb
  replace he := he.step hb
  replace hT := hT.step hb
  replace hB := below_step hB hs hb
  replace hs := hB.size
  clear hb
  have n1 := g1.n
  have e1 := g1.e
  go_wp2_with fail
  refine (cover_any A c N es _ he hT).mono ?_
  rintro e w3 ⟨A3, c3, L3, rfl, r3, hc3, hl3, hb⟩
  have HC3 := Lib.hid hc3
  clear hc3
  replace g1 := g1.step hb
  replace he := he.step hb
  replace hT := hT.step hb
  replace hB := below_step hB hs hb
  replace hs := hB.size
  clear hb n1 e1
  have n1 := g1.n
  have e1 := g1.e
  go_wp2_with fail
  refine (wide_any A c N es _ he hT).mono ?_
  rintro e w4 ⟨A4, c4, L4, rfl, r4, hc4, hl4, hb⟩
  have HC4 := Lib.hid hc4
  clear hc4
  replace g1 := g1.step hb
  replace he := he.step hb
  replace hT := hT.step hb
  replace r3 := r3.step hb
  replace hB := below_step hB hs hb
  replace hs := hB.size
  clear hb n1 e1
  have n1 := g1.n
  have e1 := g1.e
  by_cases hE : errn N es = 0
  · obtain ⟨m, rfl, hin, hfull⟩ := errn_split hE
    have hm : m ≤ 200 := by have := hin; unfold inR okN200 at this; simp at this; omega
    have hS := so_of hin hfull
    obtain ⟨B, H, T, hK, hL3, hn3⟩ := HC3.out.len hE
    obtain ⟨B', H', T', hK', hL4, hn4⟩ := HC4.out.len hE
    rw [Int.toNat_natCast] at hK hL3 hn3 hK' hL4 hn4
    have h34 : L3.length = L4.length := by
      have h1 := hK.le hS hK'.mt hS fun a b h => h
      have h2 := hK'.le hS hK.mt hS fun a b h => h
      omega
    have hap : apG m es L4 = true := by rw [hL4]; exact wid_apart hE hK'
    have hft : ftk L3 L3.length = toI (cov B H m).flatten := by rw [ftk_all, hL3, flat_toI]
    have hfl : (ftk L3 L3.length).length = m := by rw [hft, toI_len]; exact cov_length hK.mt hS
    have hsr : srt (ftk L3 L3.length) = toI (List.range m) := by rw [hft]; exact cov_srt hK.mt hS
    have hat : ∀ k, k < L3.length → 0 < (L3.getD k []).length ∧ ∀ j, j + 1 < (L3.getD k []).length → ∃ a b : Nat, zd (L3.getD k []) j = (a : Int) ∧ zd (L3.getD k []) (j + 1) = (b : Int) ∧ fw (gR es) m a b = true := fun k hk => by
      rw [hL3] at hk ⊢
      obtain ⟨n, hn, _, e⟩ := cov_at hk
      rw [e]
      exact ⟨chn'_pos hn, chn'_next hK.mt⟩
    have hch := fun (A5 : Option Addr) (c5 : Nat) (zs : List Int) (W : World) (h1 : RdE W W.heap.size A es) (h2 : RdI W W.heap.size A5 zs) (h3 : Tab W) h4 => chained_yes A c m es A5 c5 zs W h1 h2 h3 hE hin h4
    have hA := fun (W : World) (h1 : RdE W W.heap.size A es) (h2 : RdI W W.heap.size A4 L4) (h3 : Tab W) => apart_any A c m es A4 c4 L4 W h1 h2 h3
    rw [hap, ← h34] at hA
    have hCC := concat_any A3 c3 L3 w4 r3 (by omega) fun k hk => (hat k hk).1
    obtain ⟨Z, hZ⟩ : ∃ Z, Z = ftk L3 L3.length := ⟨_, rfl⟩
    rw [← hZ] at hCC hfl hsr
    rw [hfl] at hCC
    rw [hE, ← h34]
    have HCH := Lib.hid hch
    have HA := Lib.hid hA
    have HAT := Lib.hid hat
    have HFL := Lib.hid hfl
    have HSR := Lib.hid hsr
    have HCC := Lib.hid hCC
    have HB := Lib.hid hB
    have H4 := Lib.hid r4
    clear hch hA hat hfl hsr hCC hB hE hin hfull hS hK hK' hL3 hL4 hn3 hn4 h34 hap hft hZ HC3 HC4 r4 hl4
    go_wp2_with (go_at_call 43; refine HCC.out.mono ?_; rintro e w5 ⟨v5, rfl, ho5, hb5⟩)
    have hs5 := hb5.size
    obtain ⟨A5, c5, rfl⟩ := own_any ho5
    have hso := sortI_any _ Z w4.heap.size w5 (by rw [HFL.out]; exact ho5) hs5 (by rw [HFL.out]; omega)
    rw [HSR.out] at hso
    have HSO := Lib.hid hso
    clear hso ho5
    go_wp2_with (first | (go_at_call 22; refine HSO.out.mono ?_; rintro e w6 ⟨⟨r, rfl⟩, ho6, hb6⟩) | fail)
    have hbw : Below w4.heap.size w4 w6 := hb5.trans hb6
    have hs6 := hbw.size
    replace g1 := g1.step hbw
    replace he := he.step hbw
    replace hT := hT.step hbw
    replace r3 := r3.step hbw
    have r4 := H4.out.step hbw
    have HB6 := Lib.hid (HB.out.trans (hbw.mono hs))
    have hbr0 : ∀ k, 0 ≤ zd (toI (List.range m)) k ∧ zd (toI (List.range m)) k ≤ (m : Int) := fun k => zd_toI_bd _ _ (fun x hx => List.mem_range.1 hx) k
    have hlen : (toI (List.range m)).length = m := by rw [toI_len, List.length_range]
    obtain ⟨A6, c6, e6, r6⟩ := own_rdI (zs := toI (List.range m)) ho6 (fun k => by have := hbr0 k; omega) (fun k => by have := hbr0 k; omega) (by omega)
    injection e6 with e6 e8 e7
    subst e6
    have HLEN := Lib.hid hlen
    have hs4 := HB6.out.size
    clear hb5 hb6 hbw hs5 ho6 hbr0 hlen n1 e1 e7 e8 H4 HB
    have n1 := g1.n
    have e1 := g1.e
    go_loop [45] (fun i => ∃ k : Nat, k ≤ m ∧ i = .int .i64 k) (fun i => m - (intOf i).toNat)
    case atStart => exact ⟨0, Nat.zero_le _, rfl⟩
    case round =>
      obtain ⟨k, hk, rfl⟩ := hrel
      by_cases hkm : k < m
      · obtain ⟨b7, off7, rfl, hb7, hc7⟩ := r6.rd (by rw [HLEN.out]; omega)
        have cz := hc7 k (by rw [HLEN.out]; exact hkm)
        try dsimp only at cz
        rw [zd_range m k hkm] at cz
        have k0 : (0 : Int) ≤ (k : Int) := Int.natCast_nonneg _
        have k1 : (k : Int) < (m : Int) := by omega
        clear hc7
        go_wp2_with fail
        go_round
        case rel => exact ⟨k + 1, by omega, by go_num⟩
        case measure => simp [intOf]; omega
      · obtain rfl : k = m := by omega
        go_wp2_with fail
        go_loopw [56] (fun i wr => ∃ q : Nat, q ≤ L3.length ∧ i = .int .i64 q ∧ Below w6.heap.size w6 wr) (fun i _ => L3.length - (intOf i).toNat)
        case atStart => exact ⟨0, Nat.zero_le _, rfl, Below.refl _ _⟩
        case round =>
          obtain ⟨q, hq, rfl, hbr⟩ := hrel
          clear n1 e1 r6
          have gr := g1.step hbr
          have her := he.step hbr
          have hTr := hT.step hbr
          have r3r := r3.step hbr
          have r4r := r4.step hbr
          have n1 := gr.n
          have e1 := gr.e
          have hsr := hbr.size
          have HBR := Lib.hid hbr
          by_cases hqm : q < L3.length
          · obtain ⟨b8, off8, A8, c8, rfl, hb8, hc8, hr8⟩ := r3r.at_ hqm
            obtain ⟨p1, p2⟩ := HAT.out q hqm
            have HC := Lib.hid (HCH.out A8 c8 _ wr her hr8 hTr p2)
            have q0 : (0 : Int) ≤ (q : Int) := Int.natCast_nonneg _
            have q1 : (q : Int) < (L3.length : Int) := by omega
            obtain ⟨t, ht⟩ : ∃ t, t = (L3.getD q []).length := ⟨_, rfl⟩
            rw [← ht] at hc8 HC p1
            have t1 : ((t : Int) == 0) = false := beq_eq_false_iff_ne.2 (by omega)
            have t2 : ¬ t = 0 := by omega
            clear hr8 p2 ht r3r r4r her hTr hbr
            go_wp2_with (first | (go_at_call 40; refine HC.out.mono ?_; rintro e w8 ⟨rfl, hb8'⟩) | fail)
            have HK := Lib.hid (below_step HBR.out hsr hb8')
            go_roundw
            case rel => exact ⟨q + 1, by omega, by go_num, HK.out⟩
            case measure => simp [intOf]; omega
          · obtain rfl : q = L3.length := by omega
            have HX := Lib.hid (HA.out wr her r4r hTr)
            clear her hTr r3r r4r hbr
            go_wp2_with (first | (go_at_call 35; refine HX.out.mono ?_; rintro e w8 ⟨rfl, hb8⟩) | fail)
            go_ret
            exact ⟨rfl, HB6.out.trans ((below_step HBR.out hsr hb8).mono hs4)⟩
  · have ne1 : (errn N es == 0) = false := beq_eq_false_iff_ne.2 hE
    obtain rfl := HC3.out.1 hE
    obtain rfl := HC4.out.1 hE
    obtain ⟨E, hEE⟩ : ∃ E, E = errn N es := ⟨_, rfl⟩
    rw [← hEE] at ne1 hE ⊢
    clear hEE he hT r3 r4 HC3 HC4
    go_wp2_with fail
    go_ret
    exact ⟨by simp, hB⟩
end Go.Proofs.YtaboafkpmgadmaaDoor

namespace Go.Proofs.YtaboafkpmgadmaaDoor
set_option maxRecDepth 100000

def lsk (k a : Nat) : Nat := if k < a then a - 1 else a
theorem lsk_skp (k a : Nat) : lsk k (skp k a) = a := by unfold lsk skp; split <;> split <;> omega
theorem skp_lsk {k a : Nat} (h : a ≠ k) : skp k (lsk k a) = a := by unfold lsk skp; split <;> split <;> omega
theorem lsk_lt {k a m : Nat} (h : a ≠ k) (ha : a < m + 1) (hk : k < m + 1) : lsk k a < m := by unfold lsk; split <;> omega
/-- one edge of the graph without k -/
def ekk (k : Nat) (e : Int × Int) : Bool := e.1 != (k : Int) && e.2 != (k : Int)
def ek (k : Nat) (e : Int × Int) : Int × Int := (((lsk k e.1.toNat : Nat) : Int), ((lsk k e.2.toNat : Nat) : Int))
def subE (k : Nat) (es : List (Int × Int)) : List (Int × Int) := (es.filter (ekk k)).map (ek k)
theorem subE_snoc {k : Nat} {es : List (Int × Int)} {e : Int × Int} (h : ekk k e = true) : subE k (es ++ [e]) = subE k es ++ [ek k e] := by unfold subE; rw [List.filter_append]; simp [h]
theorem subE_same {k : Nat} {es : List (Int × Int)} {e : Int × Int} (h : ekk k e = false) : subE k (es ++ [e]) = subE k es := by unfold subE; rw [List.filter_append]; simp [h]
theorem subE_len (k : Nat) (es : List (Int × Int)) : (subE k es).length ≤ es.length := by
  unfold subE
  rw [List.length_map]
  exact List.length_filter_le _ _
theorem inR_ends {N : Int} {es : List (Int × Int)} (h : inR N es = true) {e : Int × Int} (he : e ∈ es) : (0 ≤ e.1 ∧ e.1 < N) ∧ 0 ≤ e.2 ∧ e.2 < N := by
  unfold inR at h
  rw [Bool.and_eq_true] at h
  have := List.all_eq_true.1 h.2 e he
  unfold okE at this
  rw [Bool.and_eq_true] at this
  exact ⟨nodeB_true this.1, nodeB_true this.2⟩
theorem subE_mem {k : Nat} {es : List (Int × Int)} {e : Int × Int} : e ∈ subE k es ↔ ∃ e', e' ∈ es ∧ ekk k e' = true ∧ ek k e' = e := by
  unfold subE
  rw [List.mem_map]
  constructor
  · rintro ⟨e', h, rfl⟩; obtain ⟨h1, h2⟩ := List.mem_filter.1 h; exact ⟨e', h1, h2, rfl⟩
  · rintro ⟨e', h1, h2, rfl⟩; exact ⟨e', List.mem_filter.2 ⟨h1, h2⟩, rfl⟩
theorem ekk_iff {k : Nat} {e : Int × Int} (h1 : 0 ≤ e.1) (h2 : 0 ≤ e.2) : ekk k e = true ↔ e.1.toNat ≠ k ∧ e.2.toNat ≠ k := by
  unfold ekk
  rw [Bool.and_eq_true, bne_iff_ne, bne_iff_ne]
  constructor <;> (rintro ⟨a, b⟩; constructor <;> omega)

section
variable {m k : Nat} {es : List (Int × Int)} (hin : inR ((m + 1 : Nat) : Int) es = true) (hk : k < m + 1)
include hin hk
theorem subE_in : inR (m : Int) (subE k es) = true := by
  unfold inR
  rw [Bool.and_eq_true]
  constructor
  · have h := hin
    unfold inR okN200 at h
    unfold okN200
    simp at h ⊢
    omega
  · rw [List.all_eq_true]
    intro e he
    obtain ⟨e', h1, h2, rfl⟩ := subE_mem.1 he
    obtain ⟨⟨a0, a1⟩, b0, b1⟩ := inR_ends hin h1
    obtain ⟨ha, hb⟩ := (ekk_iff a0 b0).1 h2
    have hx := lsk_lt ha (m := m) (by omega) hk
    have hy := lsk_lt hb (m := m) (by omega) hk
    unfold okE ek nodeB
    simp
    omega
omit hk in
theorem subE_gR (a b : Nat) : gR (subE k es) a b = gR es (skp k a) (skp k b) := by
  rw [Bool.eq_iff_iff]
  unfold gR
  rw [decide_eq_true_eq, decide_eq_true_eq, subE_mem]
  constructor
  · rintro ⟨e', h1, h2, h3⟩
    obtain ⟨⟨a0, a1⟩, b0, b1⟩ := inR_ends hin h1
    obtain ⟨ha, hb⟩ := (ekk_iff a0 b0).1 h2
    have e1 : ((lsk k e'.1.toNat : Nat) : Int) = (a : Int) := congrArg Prod.fst h3
    have e2 : ((lsk k e'.2.toNat : Nat) : Int) = (b : Int) := congrArg Prod.snd h3
    have f1 := skp_lsk ha
    have f2 := skp_lsk hb
    rw [show lsk k e'.1.toNat = a by omega] at f1
    rw [show lsk k e'.2.toNat = b by omega] at f2
    have : e' = (((skp k a : Nat) : Int), ((skp k b : Nat) : Int)) := by
      rw [f1, f2]
      obtain ⟨x, y⟩ := e'
      simp only at a0 b0 ⊢
      rw [Int.toNat_of_nonneg a0, Int.toNat_of_nonneg b0]
    rw [← this]
    exact h1
  · intro h
    refine ⟨_, h, (ekk_iff (Int.natCast_nonneg _) (Int.natCast_nonneg _)).2 ⟨by simpa using skp_ne k a, by simpa using skp_ne k b⟩, ?_⟩
    unfold ek
    simp only [Int.toNat_natCast, lsk_skp]
theorem subE_err (hfull : (ordr (m + 1) es).length = m + 1) : errn m (subE k es) = 0 := by
  have hin' := subE_in hin hk
  refine errn_ok hin' ((topo_iff (gR_lt hin')).2 fun z hz => ?_)
  refine (topo_iff (gR_lt hin)).1 hfull (skp k z) ?_
  have key : ∀ {x y}, Path (gR (subE k es)) x y → Path (gR es) (skp k x) (skp k y) := fun p => by
    induction p with
    | one e => rw [subE_gR (k := k) hin] at e; exact .one e
    | step e _ ih => rw [subE_gR (k := k) hin] at e; exact .step e ih
  exact key hz
theorem subE_fw (hmin : ∀ a, fw (gR es) (m + 1) a k = false) (a b : Nat) : fw (gR (subE k es)) m a b = fw (gR es) (m + 1) (skp k a) (skp k b) := by
  have hin' := subE_in hin hk
  have hno : ∀ a, gR es a k = false := fun a => by
    rw [← Bool.not_eq_true]
    intro h
    have h2 := hmin a
    rw [fw_base (m + 1) h] at h2
    cases h2
  rw [Bool.eq_iff_iff, fw_iff (gR_lt hin'), fw_iff (gR_lt hin)]
  constructor
  · intro p
    induction p with
    | one e => rw [subE_gR (k := k) hin] at e; exact .one e
    | step e _ ih => rw [subE_gR (k := k) hin] at e; exact .step e ih
  · have key : ∀ {x y}, Path (gR es) x y → x ≠ k → Path (gR (subE k es)) (lsk k x) (lsk k y) := fun p => by
      induction p with
      | @one x y e =>
        intro hx
        have hy : y ≠ k := fun h => by rw [h, hno] at e; cases e
        exact .one (by rw [subE_gR (k := k) hin, skp_lsk hx, skp_lsk hy]; exact e)
      | @step x y z e _ ih =>
        intro hx
        have hy : y ≠ k := fun h => by rw [h, hno] at e; cases e
        exact .step (by rw [subE_gR (k := k) hin, skp_lsk hx, skp_lsk hy]; exact e) (ih hy)
    intro p
    have := key p (skp_ne k a)
    rwa [lsk_skp, lsk_skp] at this
end
theorem lvs_zero {m : Nat} {es : List (Int × Int)} (hin : inR m es = true) (hfull : (ordr m es).length = m) (k : Nat) : lvs m es k = 0 ↔ ∀ a, fw (gR es) m a k = false := by
  have hL := lvs_lev hin hfull
  constructor
  · intro h a
    rw [← Bool.not_eq_true]
    intro hf
    have := lev_fw hin hL hf
    omega
  · intro h
    rcases Nat.eq_zero_or_pos (lvs m es k) with h0 | h0
    · exact h0
    · obtain ⟨a, _, _, _, h4, _⟩ := prv_some hL (gR_lt hin) h0
      have := h a
      rw [fw_base m h4] at this
      cases this
/-- how many orders begin with one of the first j -/
def fstN (m : Nat) (es : List (Int × Int)) (j : Nat) : Nat := sumN j fun k => if lvs (m + 1) es k = 0 then gC (fw (gR (subE k es)) m) m (2 ^ m - 1) else 0
theorem fstN_all {m : Nat} {es : List (Int × Int)} (hm : m + 1 ≤ 14) (hE : errn ((m + 1 : Nat) : Int) es = 0) : cntV ((m + 1 : Nat) : Int) es = ((fstN m es (m + 1) : Nat) : Int) := by
  obtain ⟨m', e, hin, hfull⟩ := errn_split hE
  obtain rfl : m + 1 = m' := by omega
  rw [(cnt_val hE hm).1]
  congr 1
  rw [gC_first hm (so_of hin hfull) (fun k => fw (gR (subE k es)) m) (fun k a b hk hmin _ _ => subE_fw hin hk hmin a b) (fun k => decide (lvs (m + 1) es k = 0)) fun k _ => by rw [decide_eq_true_eq]; exact lvs_zero hin hfull k]
  unfold fstN
  refine sumN_congr fun k _ => ?_
  by_cases h : lvs (m + 1) es k = 0
  · rw [if_pos h, if_pos (decide_eq_true h)]
  · rw [if_neg h, if_neg (by simpa using h)]
theorem sumN_up {f : Nat → Nat} : ∀ {a b : Nat}, a ≤ b → sumN a f ≤ sumN b f
  | a, 0, h => by obtain rfl : a = 0 := by omega
                  exact Nat.le_refl _
  | a, b + 1, h => by
    by_cases e : a = b + 1
    · subst e; exact Nat.le_refl _
    · have := sumN_up (f := f) (show a ≤ b by omega)
      show _ ≤ sumN b f + f b
      omega
theorem fstN_bd {m : Nat} {es : List (Int × Int)} (hm : m + 1 ≤ 14) (hE : errn ((m + 1 : Nat) : Int) es = 0) {j : Nat} (hj : j ≤ m + 1) : fstN m es j < 18446744073709551616 := by
  obtain ⟨m', e, hin, hfull⟩ := errn_split hE
  obtain rfl : m + 1 = m' := by omega
  have h1 : fstN m es j ≤ fstN m es (m + 1) := sumN_up hj
  have h2 := (cnt_bd hE hin hfull hm).2
  rw [fstN_all hm hE] at h2
  omega
theorem fstN_next {m : Nat} {es : List (Int × Int)} {k : Nat} (hm : m + 1 ≤ 14) (hE : errn ((m + 1 : Nat) : Int) es = 0) (hk : k < m + 1) (h0 : lvs (m + 1) es k = 0) :
    ((fstN m es (k + 1) : Nat) : Int) = ((fstN m es k : Nat) : Int) + cntV m (subE k es) ∧ cntE m (subE k es) = 0 := by
  obtain ⟨m', e, hin, hfull⟩ := errn_split hE
  obtain rfl : m + 1 = m' := by omega
  have h := cnt_val (subE_err hin hk hfull) (by omega)
  refine ⟨?_, h.2⟩
  rw [h.1]
  show ((fstN m es k + (if lvs (m + 1) es k = 0 then _ else 0) : Nat) : Int) = _
  rw [if_pos h0]
  omega
theorem fstN_skip {m : Nat} {es : List (Int × Int)} {k : Nat} (h0 : lvs (m + 1) es k ≠ 0) : fstN m es (k + 1) = fstN m es k := by
  show fstN m es k + (if lvs (m + 1) es k = 0 then _ else 0) = _
  rw [if_neg h0]
  rfl
end Go.Proofs.YtaboafkpmgadmaaDoor

namespace Go.Proofs.YtaboafkpmgadmaaDoor
open Go.RowKit Go.Shelf
set_option maxRecDepth 100000

theorem less_any (k a B : Nat) (hk : k ≤ 200) (ha : a ≤ 200) (w : World) (hc : w.cell? ⟨B, 0, none⟩ = some (.int .i64 (k : Int))) :
    Calls Tryd.prog 44 #[.int .i64 (a : Int), .pointer (some ⟨B, 0, none⟩)] w fun e w' => e = .returned (.int .i64 ((lsk k a : Nat) : Int)) ∧ w = w' := by
  by_cases h : k < a
  · have h1 : (k : Int) < (a : Int) := by omega
    have hl : ((lsk k a : Nat) : Int) = (a : Int) - 1 := by unfold lsk; rw [if_pos h]; omega
    rw [hl]
    have h2 : (1 : Int) ≤ (a : Int) := by omega
    have h3 : (a : Int) ≤ 200 := by omega
    clear hl
    go_enter Tryd.func44, Tryd.ntmps44
    go_wp2_with fail
    go_ret
    exact ⟨rfl, rfl⟩
  · have h1 : ¬ ((k : Int) < (a : Int)) := by omega
    have hl : lsk k a = a := by unfold lsk; rw [if_neg h]
    rw [hl]
    clear hl
    go_enter Tryd.func44, Tryd.ntmps44
    go_wp2_with fail
    go_ret
    exact ⟨rfl, rfl⟩
theorem cntE_zero {N : Int} {es : List (Int × Int)} (h : cntE N es = 0) : errn N es = 0 ∧ N ≤ 14 := by
  unfold cntE at h
  by_cases hE : errn N es = 0
  · rw [if_pos hE] at h
    by_cases hN : N ≤ 14
    · exact ⟨hE, hN⟩
    · rw [if_neg hN] at h; cases h
  · rw [if_neg hE] at h; exact absurd h hE
theorem cnt_none (es : List (Int × Int)) (h : errn 0 es = 0) : cntV 0 es = 1 := by
  unfold cntV
  rw [if_pos ⟨h, by omega⟩]
  rfl

theorem inR_bd {N : Int} {es : List (Int × Int)} (h : inR N es = true) (hN : N ≤ 200) (k : Nat) : (0 ≤ (ed es k).1 ∧ (ed es k).1 ≤ 200) ∧ 0 ≤ (ed es k).2 ∧ (ed es k).2 ≤ 200 := by
  unfold ed
  rw [List.getD_eq_getElem?_getD]
  cases he : es[k]? with
  | none => simp
  | some e =>
    have := inR_ends h (List.mem_of_getElem? he)
    simp
    omega
theorem cntV_nonneg (N : Int) (es : List (Int × Int)) : 0 ≤ cntV N es := by
  unfold cntV
  split
  · exact Int.natCast_nonneg _
  · exact Int.le_refl _
/-- the edge's ends and the node that is left out -/
abbrev HeldQ (Bx Bk a d k : Nat) (W : World) : Prop := W.cell? ⟨Bx, 0, none⟩ = some (.int .i64 (a : Int)) ∧ W.cell? ⟨Bx, 1, none⟩ = some (.int .i64 (d : Int)) ∧ W.cell? ⟨Bk, 0, none⟩ = some (.int .i64 (k : Int))
theorem HeldQ.drew {Bx Bk a d k : Nat} {W : World} (h : HeldQ Bx Bk a d k W) : HeldQ Bx Bk a d k W.drew := h
theorem HeldQ.step {Bx Bk a d k : Nat} {W W' : World} (h : HeldQ Bx Bk a d k W) (hb : Below W.heap.size W W') : HeldQ Bx Bk a d k W' :=
  ⟨(hb.cell (p := ⟨Bx, 0, none⟩) (World.block_lt_of_cell? _ _ h.1)).trans h.1, (hb.cell (p := ⟨Bx, 1, none⟩) (World.block_lt_of_cell? _ _ h.2.1)).trans h.2.1, (hb.cell (p := ⟨Bk, 0, none⟩) (World.block_lt_of_cell? _ _ h.2.2)).trans h.2.2⟩
theorem HeldQ.far {Bx Bk a d k : Nat} {W W' : World} (h : HeldQ Bx Bk a d k W) (h1 : W'.heap[Bx]? = W.heap[Bx]?) (h2 : W'.heap[Bk]? = W.heap[Bk]?) : HeldQ Bx Bk a d k W' :=
  ⟨(World.cell?_of_block (a := ⟨Bx, 0, none⟩) h1).trans h.1, (World.cell?_of_block (a := ⟨Bx, 1, none⟩) h1).trans h.2.1, (World.cell?_of_block (a := ⟨Bk, 0, none⟩) h2).trans h.2.2⟩
/-- what has come up of the statement that puts an edge more into the smaller graph -/
structure FP (w9 : World) (D Bx : Nat) (m : Int) (n : Nat) (v : Value) (la lb : Int) (L : List Value) (b1 b5 b9 b10 b11 b12 b13 : Bool) (v73 v77 v81 v82 v83 v84 v85 : Value) (W : World) : Prop where
  gb : GB 24 W D m v
  bw : Below D w9 W
  sz : w9.heap.size ≤ W.heap.size
  own : b12 = false → W.ownsRow (D + 1) 38 2 v n L
  f1 : b1 = true → v73 = v
  f5 : b5 = true → v77 = .int .i64 la
  f9 : b9 = true → v81 = .int .i64 lb
  f10 : b10 = true → v82 = .agg #[.int .i64 la, .int .i64 lb]
  f11 : b11 = true → b12 = false → ∃ T, v83 = .slice (some ⟨T, 0, none⟩) 1 1 ∧ TB T la lb W
  f12 : b12 = true → b11 = true ∧ ∃ g cap, v84 = .slice (some ⟨g, 0, none⟩) (n + 1) cap ∧ W.ownsRow (D + 1) 38 2 v84 (n + 1) (L ++ [.int .i64 la, .int .i64 lb])
  f13 : b13 = true → v85 = .pointer (some ⟨D, 1, none⟩)
theorem FP.step {w9 : World} {D Bx : Nat} {m : Int} {n : Nat} {v : Value} {la lb : Int} {L : List Value} {b1 b5 b9 b10 b11 b12 b13 : Bool} {v73 v77 v81 v82 v83 v84 v85 : Value} {W W' : World} (h : FP w9 D Bx m n v la lb L b1 b5 b9 b10 b11 b12 b13 v73 v77 v81 v82 v83 v84 v85 W) (hD : D ≤ W.heap.size) (hb : Below W.heap.size W W') : FP w9 D Bx m n v la lb L b1 b5 b9 b10 b11 b12 b13 v73 v77 v81 v82 v83 v84 v85 W' := by
  refine ⟨h.gb.step hb, h.bw.trans (hb.mono hD), Nat.le_trans h.sz hb.size, fun e => own_stp (h.own e) hb, h.f1, h.f5, h.f9, h.f10, fun e e' => ?_, fun e => ?_, h.f13⟩
  · obtain ⟨T, h1, h2⟩ := h.f11 e e'; exact ⟨T, h1, h2.step hb⟩
  · obtain ⟨h0, g, cap, h1, h2⟩ := h.f12 e; exact ⟨h0, g, cap, h1, own_stp h2 hb⟩
def FPdone (w9 : World) (D : Nat) (m : Int) (n : Nat) (la lb : Int) (L : List Value) (v84 : Value) (W : World) : Prop := GB 24 W D m v84 ∧ W.ownsRow (D + 1) 38 2 v84 (n + 1) (L ++ [.int .i64 la, .int .i64 lb]) ∧ Below D w9 W

set_option maxHeartbeats 16000000 in
theorem firstLaw_any (A : Option Addr) (c : Nat) (N : Int) (es : List (Int × Int)) (w : World) (he : RdE w w.heap.size A es) (hl : es.length ≤ 1048576) (hT : Tab w) :
    Calls Tryd.prog 11 #[.agg #[.int .i64 N, .slice A es.length c]] w fun e w' => e = .returned (.bool true) ∧ Below w.heap.size w w' := by
  obtain ⟨i0, hi, hz0, hz1, hz2⟩ := info_parts Tryd.infoEd
  go_enter Tryd.func11, Tryd.ntmps11
  go_wp2_with fail
  have g1 := GB.new w 24 N (.slice A es.length c)
  have hB := below_alloc w (.cells #[.int .i64 N, .slice A es.length c] 24)
  obtain ⟨w1, hw1⟩ : ∃ w1, w1 = w.alloc (.cells #[.int .i64 N, .slice A es.length c] 24) := ⟨_, rfl⟩
  rw [← hw1] at g1 hB ⊢
  have hs := hB.size
  replace he := he.step hB
  replace hT := hT.step hB
  clear hw1
  refine (alive3_any _ hT).mono ?_
  rintro e w2 ⟨rfl, hb⟩
  replace g1 := g1.step hb
  replace he := he.step hb
  replace hT := hT.step hb
  replace hB := below_step hB hs hb
  replace hs := hB.size
  clear hb
  have n1 := g1.n
  have e1 := g1.e
  go_wp2_with fail
  refine (count_any A c N es _ he hT).mono ?_
  rintro e w3 ⟨rfl, hb⟩
  replace g1 := g1.step hb
  replace he := he.step hb
  replace hT := hT.step hb
  replace hB := below_step hB hs hb
  replace hs := hB.size
  clear hb n1 e1
  have n1 := g1.n
  have e1 := g1.e
  by_cases hC : cntE N es = 0
  · obtain ⟨hE, hN⟩ := cntE_zero hC
    obtain ⟨m', rfl, hin, hfull⟩ := errn_split hE
    rw [hC]
    rcases Nat.eq_zero_or_pos m' with h0 | h0
    · subst h0
      have hc1 := cnt_none es hE
      have hc2 : cntV ((0 : Nat) : Int) es = 1 := hc1
      rw [hc2]
      clear hE hin hfull hC hc1 hc2
      go_wp2_with fail
      go_ret
      exact ⟨rfl, hB⟩
    · obtain ⟨m, hM⟩ : ∃ m, m' = m + 1 := ⟨m' - 1, by omega⟩
      obtain ⟨M, hMM⟩ : ∃ M, M = m' := ⟨_, rfl⟩
      rw [← hMM] at hM hE hin hfull g1 h0 n1 ⊢
      have hm : m + 1 ≤ 14 := by omega
      have hbd := cnt_bd hE hin hfull (by omega)
      have hall : cntV (M : Int) es = ((fstN m es M : Nat) : Int) := by subst hM; exact fstN_all hm hE
      have hLV := levels_any A c (M : Int) es w3 he hT
      rw [levG_len hE, hE] at hLV
      have hzd := fun k (hk : k < M) => levG_zd hE hk
      have hnext : ∀ k, k < M → lvs M es k = 0 → ((fstN m es (k + 1) : Nat) : Int) = ((fstN m es k : Nat) : Int) + cntV (m : Int) (subE k es) ∧ cntE (m : Int) (subE k es) = 0 := by subst hM; exact fun k hk h0 => fstN_next hm hE hk h0
      have hskip : ∀ k, lvs M es k ≠ 0 → fstN m es (k + 1) = fstN m es k := by subst hM; exact fun k h0 => fstN_skip h0
      have hfb : ∀ j, j ≤ M → fstN m es j < 18446744073709551616 := by subst hM; exact fun j hj => fstN_bd hm hE hj
      have hll := levG_len hE
      obtain ⟨V, hV⟩ : ∃ V, V = cntV (M : Int) es := ⟨_, rfl⟩
      rw [← hV] at hbd hall ⊢
      obtain ⟨v0, v1⟩ := hbd
      have HALL := Lib.hid hall
      have HLV := Lib.hid hLV
      have HZD := Lib.hid hzd
      have HNX := Lib.hid hnext
      have HSK := Lib.hid hskip
      have HFB := Lib.hid hfb
      have HLL := Lib.hid hll
      have HIN := Lib.hid hin
      have n0 : ¬ (M = 0) := by omega
      have n00 : ((M : Int) == 0) = false := beq_eq_false_iff_ne.2 (by omega)
      have m0 : (0 : Int) ≤ (m : Int) := Int.natCast_nonneg _
      have m1 : (m : Int) ≤ 13 := by omega
      have mM : (M : Int) - 1 = (m : Int) := by omega
      have hM14 : M ≤ 14 := by omega
      have HMM := Lib.hid mM
      have HM := Lib.hid hM
      clear hE hin hfull hC hall hLV hzd hnext hskip hfb hll hV h0 hN hMM hM mM
      go_wp2_with (first | (go_at_call 29; refine HLV.out.mono ?_; rintro e w4 ⟨A5, c5, rfl, r5, hb⟩) | fail)
      replace g1 := g1.step hb
      replace he := he.step hb
      replace hT := hT.step hb
      replace hB := below_step hB hs hb
      replace hs := hB.size
      have HB := Lib.hid hB
      clear hb n1 e1 HLV hB
      go_loopw [43, 7] (fun i s wr => ∃ k : Nat, k ≤ M ∧ i = .int .i64 k ∧ s = .int .u64 ((fstN m es k : Nat) : Int) ∧ Below w4.heap.size w4 wr) (fun i _ _ => M - (intOf i).toNat)
      case atStart => exact ⟨0, Nat.zero_le _, rfl, rfl, Below.refl _ _⟩
      case round =>
        obtain ⟨k, hk, rfl, rfl, hbr⟩ := hrel
        have hsr := hbr.size
        by_cases hkm : k < M
        · have gr := g1.step hbr
          have her := he.step hbr
          have hTr := hT.step hbr
          have r5r := r5.step hbr
          obtain ⟨b5, off5, rfl, hb5, hc5⟩ := r5r.rd (by rw [HLL.out]; omega)
          have cx := hc5 k (by rw [HLL.out]; exact hkm)
          try dsimp only at cx
          rw [HZD.out k hkm] at cx
          have k0 : (0 : Int) ≤ (k : Int) := Int.natCast_nonneg _
          have k1 : (k : Int) < (M : Int) := by omega
          have hs0 := HFB.out k (by omega)
          have hs1 := HFB.out (k + 1) (by omega)
          obtain ⟨x, hx⟩ : ∃ x, x = lvs M es k := ⟨_, rfl⟩
          obtain ⟨s, hse⟩ : ∃ s, s = fstN m es k := ⟨_, rfl⟩
          rw [← hx] at cx
          rw [← hse] at hs0 ⊢
          have HSE := Lib.hid hse
          have HBR := Lib.hid hbr
          by_cases hx0 : x = 0
          · have hlv : lvs M es k = 0 := by rw [← hx]; exact hx0
            obtain ⟨hsum, hce⟩ := HNX.out k hkm hlv
            rw [hx0] at cx
            have cx' : wr.cell? ⟨b5, off5 + k, none⟩ = some (.int .i64 0) := cx
            have HSUM := Lib.hid hsum
            have HCE := Lib.hid hce
            have n1 := gr.n
            have e1 := gr.e
            have mM := HMM.out
            have n1' := (gr.alloc (.cells #[.int .i64 (k : Int)] 3)).n
            clear cx hx hx0 hlv hsum hce hse hbr r5r hc5
            go_upto_region 14 with fail
            clear mM n1'
            have ck := (Boxed.new wr 3 (.int .i64 (k : Int))).alloc (.cells #[.int .i64 (m : Int), .slice none 0 0] 24)
            have gD := GB.new (wr.alloc (.cells #[.int .i64 (k : Int)] 3)) 24 m (.slice none 0 0)
            have hbb : Below wr.heap.size wr ((wr.alloc (.cells #[.int .i64 (k : Int)] 3)).alloc (.cells #[.int .i64 (m : Int), .slice none 0 0] 24)) := ((Below.refl _ _).alloc (Nat.le_refl _) _).alloc (by simp) _
            rw [World.size_alloc] at gD
            obtain ⟨wb, hwb⟩ : ∃ wb, wb = (wr.alloc (.cells #[.int .i64 (k : Int)] 3)).alloc (.cells #[.int .i64 (m : Int), .slice none 0 0] 24) := ⟨_, rfl⟩
            have hsb : wb.heap.size = wr.heap.size + 2 := by rw [hwb]; simp
            rw [← hwb] at ck gD hbb ⊢
            obtain ⟨Bk, hBk⟩ : ∃ Bk, Bk = wr.heap.size := ⟨_, rfl⟩
            obtain ⟨D, hD⟩ : ∃ D, D = wr.heap.size + 1 := ⟨_, rfl⟩
            rw [← hD] at gD ⊢
            rw [← hBk] at ck ⊢
            have hkD : Bk < D := by omega
            have hDs : D + 1 = wb.heap.size := by omega
            have heb := her.below hbb
            have hel : ∀ b, b < wr.heap.size → b < D := fun b h => by omega
            have gb := gr.step hbb
            have hTb := hTr.step hbb
            have HTP := Lib.hid hTr.pos
            have HBB := Lib.hid hbb
            have HDS := Lib.hid hDs
            have HEL := Lib.hid hel
            have HGB := Lib.hid gb
            have HTB := Lib.hid hTb
            have HEB := Lib.hid heb
            have ck' := ck.cell
            have CK := Lib.hid ck
            have hrs : wr.heap.size ≤ D := by omega
            have HD := Lib.hid hD
            clear hwb hsb n1 e1 hBk hel hDs hD cx'
            have n1 := gb.n
            have e1 := gb.e
            clear gr gb hTr hTb her heb hbb ck
            go_wp2_with fail
            go_loopw [58] (fun i wq => ∃ j : Nat, j ≤ es.length ∧ i = .int .i64 j ∧ ∃ v, GB 24 wq D m v ∧ wq.ownsRow (D + 1) 38 2 v (subE k (es.take j)).length (eVals (subE k (es.take j))) ∧ Below D wb wq) (fun i _ => es.length - (intOf i).toNat)
            case atStart => exact ⟨0, Nat.zero_le _, rfl, _, gD, World.ownsRow_nil _ _ _ _, Below.refl _ _⟩
            case round =>
              obtain ⟨j, hj, rfl, v, gq, hown, hbq⟩ := hrel
              clear n1 e1 gD ck'
              by_cases hjl : j < es.length
              · obtain ⟨b, off, rfl, hb, hc⟩ := HEB.out.rd (by omega)
                obtain ⟨hca, hcb⟩ := hc j hjl
                have hbD := HEL.out b hb
                replace hca := (hbq.cell (p := ⟨b, off + j * 2, none⟩) hbD).trans hca
                replace hcb := (hbq.cell (p := ⟨b, off + j * 2 + 1, none⟩) hbD).trans hcb
                obtain ⟨⟨a0, a1⟩, b0, b1⟩ := inR_ends HIN.out (e := ed es j) (by unfold ed; simp [List.getD, hjl])
                obtain ⟨a, ha⟩ : ∃ a : Nat, (ed es j).1 = (a : Int) := ⟨(ed es j).1.toNat, by omega⟩
                obtain ⟨d, hd⟩ : ∃ d : Nat, (ed es j).2 = (d : Int) := ⟨(ed es j).2.toNat, by omega⟩
                rw [ha] at hca a0 a1
                rw [hd] at hcb b0 b1
                have hed : ed es j = ((a : Int), (d : Int)) := by rw [← ha, ← hd]
                have htk := take_ed es j hjl
                rw [hed] at htk
                have HTK := Lib.hid htk
                have ck := (hbq.cell (p := ⟨Bk, 0, none⟩) hkD).trans CK.out.cell
                have hsq := hbq.size
                have j0 : (0 : Int) ≤ (j : Int) := Int.natCast_nonneg _
                have j1 : (j : Int) < (es.length : Int) := by omega
                clear hc ha hd hed htk
                go_upto_region 17 with fail
                have X9 := TB.new' (x := (a : Int)) (y := (d : Int)) (W := wr) (T := wr.heap.size) rfl
                have g9 := gq.alloc (.cells #[.int .i64 (a : Int), .int .i64 (d : Int)] 38)
                have o9 := hown.alloc (.cells #[.int .i64 (a : Int), .int .i64 (d : Int)] 38)
                have hb9 : Below D wb (wr.alloc (.cells #[.int .i64 (a : Int), .int .i64 (d : Int)] 38)) := hbq.alloc (by have := HDS.out; omega) _
                have k9 : (wr.alloc (.cells #[.int .i64 (a : Int), .int .i64 (d : Int)] 38)).cell? ⟨Bk, 0, none⟩ = some (.int .i64 (k : Int)) := (World.cell?_alloc_lt _ _ ⟨Bk, 0, none⟩ (World.block_lt_of_cell? _ _ ck)).trans ck
                have hvB : ∀ b, v.ownBlock = some b → D + 1 ≤ b ∧ b < wr.heap.size := hown.lt
                obtain ⟨w9, hw9⟩ : ∃ w9, w9 = wr.alloc (.cells #[.int .i64 (a : Int), .int .i64 (d : Int)] 38) := ⟨_, rfl⟩
                have hs9 : w9.heap.size = wr.heap.size + 1 := by rw [hw9]; simp
                rw [← hw9] at X9 g9 o9 hb9 k9 ⊢
                obtain ⟨Bx, hBx⟩ : ∃ Bx, Bx = wr.heap.size := ⟨_, rfl⟩
                rw [← hBx] at X9 hs9 hvB ⊢
                have xa : w9.cell? ⟨Bx, 0, none⟩ = some (.int .i64 (a : Int)) := by have h := X9; unfold TB at h; unfold World.cell?; dsimp only; rw [h]; rfl
                have xb : w9.cell? ⟨Bx, 1, none⟩ = some (.int .i64 (d : Int)) := by have h := X9; unfold TB at h; unfold World.cell?; dsimp only; rw [h]; rfl
                have hDx : D + 1 ≤ Bx := by have := HDS.out; omega
                have HB9 := Lib.hid hb9
                have HO9 := Lib.hid o9
                have HG9 := Lib.hid g9
                have HVB := Lib.hid hvB
                have HS9 := Lib.hid hs9
                have hx9 : Bx < w9.heap.size := by omega
                have hn9 : D + 1 ≤ w9.heap.size := by omega
                clear hca hcb gq hown hbq ck hw9 hBx X9 g9 o9 hb9 hvB hsq hs9
                by_cases hak : a = k
                · have hkk : ekk k ((a : Int), (d : Int)) = false := by unfold ekk; simp [hak]
                  have HKK := Lib.hid hkk
                  rw [hak] at xa
                  clear hkk
                  go_wp2_with fail
                  go_roundw
                  case rel => exact ⟨j + 1, by omega, by go_num, v, HG9.out, by rw [HTK.out, subE_same HKK.out]; exact HO9.out, HB9.out⟩
                  case measure => simp [intOf]; omega
                · have q1 : ((a : Int) != (k : Int)) = true := bne_iff_ne.2 (by omega)
                  have q2 : ¬ ((a : Int) = (k : Int)) := by omega
                  by_cases hdk : d = k
                  · have hkk : ekk k ((a : Int), (d : Int)) = false := by unfold ekk; simp [hdk]
                    have HKK := Lib.hid hkk
                    rw [hdk] at xb
                    clear hkk
                    go_wp2_with fail
                    go_roundw
                    case rel => exact ⟨j + 1, by omega, by go_num, v, HG9.out, by rw [HTK.out, subE_same HKK.out]; exact HO9.out, HB9.out⟩
                    case measure => simp [intOf]; omega
                  · have q3 : ((d : Int) != (k : Int)) = true := bne_iff_ne.2 (by omega)
                    have q4 : ¬ ((d : Int) = (k : Int)) := by omega
                    have hkk : ekk k ((a : Int), (d : Int)) = true := (ekk_iff (Int.natCast_nonneg _) (Int.natCast_nonneg _)).2 ⟨by simpa using hak, by simpa using hdk⟩
                    have HKK := Lib.hid hkk
                    clear hkk
                    go_wp2_with fail
                    obtain ⟨la, hla⟩ : ∃ la : Int, la = ((lsk k a : Nat) : Int) := ⟨_, rfl⟩
                    obtain ⟨lb, hlb⟩ : ∃ lb : Int, lb = ((lsk k d : Nat) : Int) := ⟨_, rfl⟩
                    have hLA := fun W (h : World.cell? W ⟨Bk, 0, none⟩ = some (.int .i64 (k : Int))) => less_any k a Bk (by omega) (by omega) W h
                    have hLB := fun W (h : World.cell? W ⟨Bk, 0, none⟩ = some (.int .i64 (k : Int))) => less_any k d Bk (by omega) (by omega) W h
                    rw [← hla] at hLA
                    rw [← hlb] at hLB
                    have LA := Lib.hid hLA
                    have LB := Lib.hid hLB
                    have HLA := Lib.hid hla
                    have HLB := Lib.hid hlb
                    have hlen := subE_len k (es.take j)
                    have hlt : (es.take j).length ≤ j := List.length_take_le _ _
                    obtain ⟨L0, hL0⟩ : ∃ L0, L0 = subE k (es.take j) := ⟨_, rfl⟩
                    rw [← hL0] at HO9 hlen
                    obtain ⟨n, hn⟩ : ∃ n, n = L0.length := ⟨_, rfl⟩
                    obtain ⟨L, hL⟩ : ∃ L, L = eVals L0 := ⟨_, rfl⟩
                    rw [← hn, ← hL] at HO9
                    rw [← hn] at hlen
                    have h63 : n + 1 ≤ maxLen := by unfold maxLen; omega
                    have h47 : (n + 1) * 16 ≤ 140737488355328 := by omega
                    have HL0 := Lib.hid hL0
                    have HN := Lib.hid hn
                    have HLL2 := Lib.hid hL
                    have hD9 : D ≤ w9.heap.size := by omega
                    clear hLA hLB hla hlb hlen hlt hL0 hn hL q1 q2 q3 q4
                    refine wp_region_held_drew (S := HeldQ Bx Bk a d k) (by kernel_rfl) (HeldQ.drew ⟨xa, xb, k9⟩) (fun hHeld => ?_)
                    refine wpAnyH_take (i := 0) (oi := { dst := some 72, op := _, type := _, pos := _, after := _, guard := _ }) (v := ?_) rfl (by kernel_rfl) (by kernel_rfl) (by kernel_rfl) (fun _ _ _ h => h) (Or.inl ⟨by rfl, ?_⟩) (by assumption) ?_
                    rotate_left
                    · intro w hSw; (try dsimp only at hSw); go_simp; (try with_reducible rfl)
                    (try simp only [Act.put, List.setIfInBounds_toArray, List.set_cons_zero, List.set_cons_succ])
                    refine wpAnyH_take (i := 2) (oi := { dst := some 74, op := _, type := _, pos := _, after := _, guard := _ }) (v := ?_) rfl (by kernel_rfl) (by kernel_rfl) (by kernel_rfl) (fun _ _ _ h => h) (Or.inl ⟨by rfl, ?_⟩) (by assumption) ?_
                    rotate_left
                    · intro w hSw; (try dsimp only at hSw); go_simp; (try with_reducible rfl)
                    (try simp only [Act.put, List.setIfInBounds_toArray, List.set_cons_zero, List.set_cons_succ])
                    refine wpAnyH_take (i := 3) (oi := { dst := some 75, op := _, type := _, pos := _, after := _, guard := _ }) (v := ?_) rfl (by kernel_rfl) (by kernel_rfl) (by kernel_rfl) (fun _ _ _ h => h) (Or.inl ⟨by rfl, ?_⟩) (by assumption) ?_
                    rotate_left
                    · intro w hSw; (try dsimp only at hSw); go_simp; (try with_reducible rfl)
                    (try simp only [Act.put, List.setIfInBounds_toArray, List.set_cons_zero, List.set_cons_succ])
                    refine wpAnyH_take (i := 4) (oi := { dst := some 76, op := _, type := _, pos := _, after := _, guard := _ }) (v := ?_) rfl (by kernel_rfl) (by kernel_rfl) (by kernel_rfl) (fun _ _ _ h => h) (Or.inl ⟨by rfl, ?_⟩) (by assumption) ?_
                    rotate_left
                    · intro w hSw; (try dsimp only at hSw); go_simp; (try with_reducible rfl)
                    (try simp only [Act.put, List.setIfInBounds_toArray, List.set_cons_zero, List.set_cons_succ])
                    refine wpAnyH_take (i := 6) (oi := { dst := some 78, op := _, type := _, pos := _, after := _, guard := _ }) (v := ?_) rfl (by kernel_rfl) (by kernel_rfl) (by kernel_rfl) (fun _ _ _ h => h) (Or.inl ⟨by rfl, ?_⟩) (by assumption) ?_
                    rotate_left
                    · intro w hSw; (try dsimp only at hSw); go_simp; (try with_reducible rfl)
                    (try simp only [Act.put, List.setIfInBounds_toArray, List.set_cons_zero, List.set_cons_succ])
                    refine wpAnyH_take (i := 7) (oi := { dst := some 79, op := _, type := _, pos := _, after := _, guard := _ }) (v := ?_) rfl (by kernel_rfl) (by kernel_rfl) (by kernel_rfl) (fun _ _ _ h => h) (Or.inl ⟨by rfl, ?_⟩) (by assumption) ?_
                    rotate_left
                    · intro w hSw; (try dsimp only at hSw); go_simp; (try with_reducible rfl)
                    (try simp only [Act.put, List.setIfInBounds_toArray, List.set_cons_zero, List.set_cons_succ])
                    refine wpAnyH_take (i := 8) (oi := { dst := some 80, op := _, type := _, pos := _, after := _, guard := _ }) (v := ?_) rfl (by kernel_rfl) (by kernel_rfl) (by kernel_rfl) (fun _ _ _ h => h) (Or.inl ⟨by rfl, ?_⟩) (by assumption) ?_
                    rotate_left
                    · intro w hSw; (try dsimp only at hSw); go_simp; (try with_reducible rfl)
                    (try simp only [Act.put, List.setIfInBounds_toArray, List.set_cons_zero, List.set_cons_succ])
                    refine wpAnyH_inv (I := fun listed aa W => (∃ (y1 y5 y9 y10 y11 y12 y13 : Bool) (v73 v77 v81 v82 v83 v84 v85 : Value), listed = #[true, y1, true, true, true, y5, true, true, true, y9, y10, y11, y12, y13, false] ∧ aa = ({ tmps := #[Value.agg #[Value.int IntKind.i64 (M : Int), Value.slice (some ⟨b, off, none⟩) es.length c], Value.pointer (some ⟨w.heap.size, 0, none⟩), u2, Value.int IntKind.u64 V, Value.int IntKind.i64 0, Value.slice (some ⟨b5, off5, none⟩) M c5, Value.int IntKind.i64 0, Value.int IntKind.u64 (s : Int), Value.pointer (some ⟨Bk, 0, none⟩), Value.int IntKind.i64 0, Value.pointer (some ⟨D, 0, none⟩), Value.func (.func 44) #[] #[Value.pointer (some ⟨Bk, 0, none⟩)], undef, Value.pointer (some ⟨Bx, 0, none⟩), u14, u15, Value.bool true, Value.bool false, Value.tuple #[Value.int IntKind.u64 V, Value.int IntKind.i64 0], Value.agg #[Value.int IntKind.i64 (M : Int), Value.slice (some ⟨b, off, none⟩) es.length c], Value.tuple #[Value.int IntKind.u64 V, Value.int IntKind.i64 0], Value.int IntKind.u64 V, Value.int IntKind.i64 0, Value.int IntKind.i64 0, Value.bool false, Value.bool false, Value.pointer (some ⟨w.heap.size, 0, none⟩), Value.int IntKind.i64 (M : Int), Value.bool false, Value.bool false, undef, undef, undef, undef, undef, undef, Value.tuple #[Value.slice (some ⟨b5, off5, none⟩) M c5, Value.int IntKind.i64 0], Value.agg #[Value.int IntKind.i64 (M : Int), Value.slice (some ⟨b, off, none⟩) es.length c], Value.tuple #[Value.slice (some ⟨b5, off5, none⟩) M c5, Value.int IntKind.i64 0], Value.slice (some ⟨b5, off5, none⟩) M c5, Value.int IntKind.i64 0, Value.slice (some ⟨b5, off5, none⟩) M c5, Value.int IntKind.i64 (M : Int), Value.int IntKind.i64 (k : Int), Value.bool true, Value.int IntKind.i64 (k : Int), Value.pointer (some ⟨b5, off5 + k, none⟩), Value.int IntKind.i64 0, Value.int IntKind.i64 0, Value.bool false, Value.pointer (some ⟨w.heap.size, 0, none⟩), Value.int IntKind.i64 (M : Int), Value.int IntKind.i64 (m : Int), Value.agg #[Value.int IntKind.i64 (m : Int), Value.slice none 0 0], Value.func (.func 44) #[] #[Value.pointer (some ⟨Bk, 0, none⟩)], Value.pointer (some ⟨w.heap.size, 1, none⟩), Value.slice (some ⟨b, off, none⟩) es.length c, Value.int IntKind.i64 (es.length : Int), Value.int IntKind.i64 (j : Int), Value.bool true, Value.pointer (some ⟨b, off + j * 2, none⟩), Value.agg #[Value.int IntKind.i64 (a : Int), Value.int IntKind.i64 (d : Int)], Value.pointer (some ⟨Bx, 0, none⟩), Value.int IntKind.i64 (a : Int), Value.int IntKind.i64 (k : Int), Value.bool true, Value.bool true, Value.pointer (some ⟨Bx, 1, none⟩), Value.int IntKind.i64 (d : Int), Value.int IntKind.i64 (k : Int), Value.bool true, Value.bool true, .pointer (some ⟨D, 1, none⟩), v73, .func (.func 44) #[] #[.pointer (some ⟨Bk, 0, none⟩)], .pointer (some ⟨Bx, 0, none⟩), .int .i64 (a : Int), v77, .func (.func 44) #[] #[.pointer (some ⟨Bk, 0, none⟩)], .pointer (some ⟨Bx, 1, none⟩), .int .i64 (d : Int), v81, v82, v83, v84, v85, u86, u87, u88, u89, u90, u91, u92, u93, u94, u95, u96, u97, undef, undef, undef, undef, undef, undef, undef], defers := [] } : Act) ∧ FP w9 D Bx m n v la lb L y1 y5 y9 y10 y11 y12 y13 v73 v77 v81 v82 v83 v84 v85 W ∧ HeldQ Bx Bk a d k W) ∨ (∃ (v73 v77 v81 v82 v83 v84 v85 : Value), listed = #[true, true, true, true, true, true, true, true, true, true, true, true, true, true, true] ∧ aa = ({ tmps := #[Value.agg #[Value.int IntKind.i64 (M : Int), Value.slice (some ⟨b, off, none⟩) es.length c], Value.pointer (some ⟨w.heap.size, 0, none⟩), u2, Value.int IntKind.u64 V, Value.int IntKind.i64 0, Value.slice (some ⟨b5, off5, none⟩) M c5, Value.int IntKind.i64 0, Value.int IntKind.u64 (s : Int), Value.pointer (some ⟨Bk, 0, none⟩), Value.int IntKind.i64 0, Value.pointer (some ⟨D, 0, none⟩), Value.func (.func 44) #[] #[Value.pointer (some ⟨Bk, 0, none⟩)], undef, Value.pointer (some ⟨Bx, 0, none⟩), u14, u15, Value.bool true, Value.bool false, Value.tuple #[Value.int IntKind.u64 V, Value.int IntKind.i64 0], Value.agg #[Value.int IntKind.i64 (M : Int), Value.slice (some ⟨b, off, none⟩) es.length c], Value.tuple #[Value.int IntKind.u64 V, Value.int IntKind.i64 0], Value.int IntKind.u64 V, Value.int IntKind.i64 0, Value.int IntKind.i64 0, Value.bool false, Value.bool false, Value.pointer (some ⟨w.heap.size, 0, none⟩), Value.int IntKind.i64 (M : Int), Value.bool false, Value.bool false, undef, undef, undef, undef, undef, undef, Value.tuple #[Value.slice (some ⟨b5, off5, none⟩) M c5, Value.int IntKind.i64 0], Value.agg #[Value.int IntKind.i64 (M : Int), Value.slice (some ⟨b, off, none⟩) es.length c], Value.tuple #[Value.slice (some ⟨b5, off5, none⟩) M c5, Value.int IntKind.i64 0], Value.slice (some ⟨b5, off5, none⟩) M c5, Value.int IntKind.i64 0, Value.slice (some ⟨b5, off5, none⟩) M c5, Value.int IntKind.i64 (M : Int), Value.int IntKind.i64 (k : Int), Value.bool true, Value.int IntKind.i64 (k : Int), Value.pointer (some ⟨b5, off5 + k, none⟩), Value.int IntKind.i64 0, Value.int IntKind.i64 0, Value.bool false, Value.pointer (some ⟨w.heap.size, 0, none⟩), Value.int IntKind.i64 (M : Int), Value.int IntKind.i64 (m : Int), Value.agg #[Value.int IntKind.i64 (m : Int), Value.slice none 0 0], Value.func (.func 44) #[] #[Value.pointer (some ⟨Bk, 0, none⟩)], Value.pointer (some ⟨w.heap.size, 1, none⟩), Value.slice (some ⟨b, off, none⟩) es.length c, Value.int IntKind.i64 (es.length : Int), Value.int IntKind.i64 (j : Int), Value.bool true, Value.pointer (some ⟨b, off + j * 2, none⟩), Value.agg #[Value.int IntKind.i64 (a : Int), Value.int IntKind.i64 (d : Int)], Value.pointer (some ⟨Bx, 0, none⟩), Value.int IntKind.i64 (a : Int), Value.int IntKind.i64 (k : Int), Value.bool true, Value.bool true, Value.pointer (some ⟨Bx, 1, none⟩), Value.int IntKind.i64 (d : Int), Value.int IntKind.i64 (k : Int), Value.bool true, Value.bool true, .pointer (some ⟨D, 1, none⟩), v73, .func (.func 44) #[] #[.pointer (some ⟨Bk, 0, none⟩)], .pointer (some ⟨Bx, 0, none⟩), .int .i64 (a : Int), v77, .func (.func 44) #[] #[.pointer (some ⟨Bk, 0, none⟩)], .pointer (some ⟨Bx, 1, none⟩), .int .i64 (d : Int), v81, v82, v83, v84, v85, u86, u87, u88, u89, u90, u91, u92, u93, u94, u95, u96, u97, undef, undef, undef, undef, undef, undef, undef], defers := [] } : Act) ∧ FPdone w9 D m n la lb L v84 W)) ?_ ?_ _ _ _ _ (by decide +kernel) (.inl ⟨false, false, false, false, false, false, false, _, _, _, _, _, _, _, rfl, rfl, ⟨HG9.out, (Below.refl D w9).drew, Nat.le_refl _, fun _ => HO9.out, fun h => (by cases h), fun h => (by cases h), fun h => (by cases h), fun h => (by cases h), fun h => (by cases h), fun h => (by cases h), fun h => (by cases h)⟩, hHeld⟩)
                    · intro listed aa W hI i o ho hf ha K hK
                      have hi14 : i = 0 ∨ i = 1 ∨ i = 2 ∨ i = 3 ∨ i = 4 ∨ i = 5 ∨ i = 6 ∨ i = 7 ∨ i = 8 ∨ i = 9 ∨ i = 10 ∨ i = 11 ∨ i = 12 ∨ i = 13 ∨ i = 14 := by
                        have h1 := (Array.getElem?_eq_some_iff.1 ho).1
                        have h2 : i < 15 := h1
                        omega
                      rcases hI with ⟨y1, y5, y9, y10, y11, y12, y13, v73, v77, v81, v82, v83, v84, v85, rfl, rfl, hF, hH⟩ | ⟨v73, v77, v81, v82, v83, v84, v85, rfl, rfl, _⟩
                      rotate_left
                      · rcases hi14 with rfl | rfl | rfl | rfl | rfl | rfl | rfl | rfl | rfl | rfl | rfl | rfl | rfl | rfl | rfl <;> cases hf
                      clear hHeld xa xb k9
                      obtain ⟨xa, xb, k9⟩ := hH
                      have hDW : D ≤ W.heap.size := Nat.le_trans hD9 hF.sz
                      have HHQ : Hid (HeldQ Bx Bk a d k W) := Lib.hid ⟨xa, xb, k9⟩
                      have HFF := Lib.hid hF
                      rcases hi14 with rfl | rfl | rfl | rfl | rfl | rfl | rfl | rfl | rfl | rfl | rfl | rfl | rfl | rfl | rfl
                      · cases hf
                      · cases ho
                        have ce := hF.gb.e
                        clear hF ha hf
                        go_simp
                        (try simp only [Act.put, List.setIfInBounds_toArray, List.set_cons_zero, List.set_cons_succ])
                        refine hK.out _ _ HHQ.out (.inl ⟨true, y5, y9, y10, y11, y12, y13, _, v77, v81, v82, v83, v84, v85, rfl, rfl, ?_, HHQ.out⟩)
                        have h := HFF.out
                        exact ⟨h.gb, h.bw, h.sz, h.own, fun _ => rfl, h.f5, h.f9, h.f10, h.f11, h.f12, h.f13⟩
                      · cases hf
                      · cases hf
                      · cases hf
                      · cases ho
                        clear hF ha hf
                        go_simp
                        refine (LA.out W k9).mono ?_
                        rintro e w6 ⟨rfl, rfl⟩
                        dsimp only
                        (try simp only [Act.put, List.setIfInBounds_toArray, List.set_cons_zero, List.set_cons_succ])
                        refine hK.out _ _ HHQ.out (.inl ⟨y1, true, y9, y10, y11, y12, y13, v73, _, v81, v82, v83, v84, v85, rfl, rfl, ?_, HHQ.out⟩)
                        have h := HFF.out
                        exact ⟨h.gb, h.bw, h.sz, h.own, h.f1, fun _ => rfl, h.f9, h.f10, h.f11, h.f12, h.f13⟩
                      · cases hf
                      · cases hf
                      · cases hf
                      · cases ho
                        clear hF ha hf
                        go_simp
                        refine (LB.out W k9).mono ?_
                        rintro e w6 ⟨rfl, rfl⟩
                        dsimp only
                        (try simp only [Act.put, List.setIfInBounds_toArray, List.set_cons_zero, List.set_cons_succ])
                        refine hK.out _ _ HHQ.out (.inl ⟨y1, y5, true, y10, y11, y12, y13, v73, v77, _, v82, v83, v84, v85, rfl, rfl, ?_, HHQ.out⟩)
                        have h := HFF.out
                        exact ⟨h.gb, h.bw, h.sz, h.own, h.f1, h.f5, fun _ => rfl, h.f10, h.f11, h.f12, h.f13⟩
                      · cases ho
                        have d5 : y5 = true := ha { on := 5, ground := .data } (by simp) rfl
                        have d9 : y9 = true := ha { on := 9, ground := .data } (by simp) rfl
                        obtain rfl := hF.f5 d5
                        obtain rfl := hF.f9 d9
                        clear hF ha hf d5 d9
                        go_simp
                        (try simp only [Act.put, List.setIfInBounds_toArray, List.set_cons_zero, List.set_cons_succ])
                        refine hK.out _ _ HHQ.out (.inl ⟨y1, y5, y9, true, y11, y12, y13, v73, _, _, _, v83, v84, v85, rfl, rfl, ?_, HHQ.out⟩)
                        have h := HFF.out
                        exact ⟨h.gb, h.bw, h.sz, h.own, h.f1, h.f5, h.f9, fun _ => rfl, h.f11, h.f12, h.f13⟩
                      · cases ho
                        have d10 : y10 = true := ha { on := 10, ground := .data } (by simp) rfl
                        obtain rfl := hF.f10 d10
                        have n11 : y11 = false := hf
                        have HN11 := Lib.hid n11
                        clear hF ha hf d10 n11
                        go_simp
                        (try simp only [Act.put, List.setIfInBounds_toArray, List.set_cons_zero, List.set_cons_succ])
                        have hb := below_alloc W (.cells #[.int .i64 la, .int .i64 lb] 38)
                        refine hK.out _ _ (HHQ.out.step hb) (.inl ⟨y1, y5, y9, y10, true, y12, y13, v73, v77, v81, _, _, v84, v85, rfl, rfl, ?_, (HHQ.out.step hb)⟩)
                        have h := HFF.out.step hDW hb
                        exact ⟨h.gb, h.bw, h.sz, h.own, h.f1, h.f5, h.f9, h.f10, fun _ _ => ⟨_, rfl, TB.new' rfl⟩, fun e => (by have := (h.f12 e).1; rw [HN11.out] at this; cases this), h.f13⟩
                      · cases ho
                        have d1 : y1 = true := ha { on := 1, ground := .data } (by simp) rfl
                        have d11 : y11 = true := ha { on := 11, ground := .data } (by simp) rfl
                        have n12 : y12 = false := hf
                        obtain rfl := (hF.f1 d1).symm
                        obtain ⟨T, rfl, hTB⟩ := hF.f11 d11 n12
                        have how := hF.own n12
                        have HD11 := Lib.hid d11
                        have hGBW := hF.gb
                        have hbb := own_base how
                        have hsz := hF.sz
                        refine step_append_lies _ (by rfl) _ _ _ (by rfl) (D + 1) 38 i0 (.agg #[.int .i64 0, .int .i64 0]) 2 16 Tryd.underlying22 hi hz0 hz1 hz2 rfl (by omega) v n L (by rfl) how ⟨T, 0, none⟩ 1 1 [.int .i64 la, .int .i64 lb] (by rfl) (by rfl) (World.news_of_block (cs := #[.int .i64 la, .int .i64 lb]) (t := 38) (fr := (0, 0)) hTB) (by simp [Value.oneCell']) (by omega) h63 h47 (by omega) _ rfl ?_
                        intro gg cap w7 hown7 hgrow hat hlt7
                        have hne : ∀ b, b < D + 1 ∨ b = Bx → some b ≠ v.ownBlock := fun b h e => by have := HVB.out b e.symm; omega
                        have hq7 : HeldQ Bx Bk a d k w7 := HHQ.out.far (hgrow.block Bx (World.block_lt_of_cell? _ _ xa) (hne Bx (.inr rfl))) (hgrow.block Bk (World.block_lt_of_cell? _ _ k9) (hne Bk (.inl (by omega))))
                        have hg7 : GB 24 w7 D m v := hGBW.kept hgrow (hne D (.inl (by omega)))
                        have hb7 : Below D w9 w7 := hF.bw.grown hgrow hDW (fun b e => by have := hbb b e; omega)
                        (try simp only [Act.put, List.setIfInBounds_toArray])
                        refine hK.out _ _ hq7 (.inl ⟨y1, y5, y9, y10, y11, true, y13, _, v77, v81, v82, _, _, v85, rfl, rfl, ?_, hq7⟩)
                        have h := HFF.out
                        exact ⟨hg7, hb7, Nat.le_trans h.sz hgrow.size, fun e => (by cases e), h.f1, h.f5, h.f9, h.f10, fun _ e => (by cases e), fun _ => ⟨HD11.out, gg, cap, rfl, hown7⟩, h.f13⟩
                      · cases ho
                        clear hF ha hf
                        go_simp
                        (try simp only [Act.put, List.setIfInBounds_toArray, List.set_cons_zero, List.set_cons_succ])
                        refine hK.out _ _ HHQ.out (.inl ⟨y1, y5, y9, y10, y11, y12, true, v73, v77, v81, v82, v83, v84, _, rfl, rfl, ?_, HHQ.out⟩)
                        have h := HFF.out
                        exact ⟨h.gb, h.bw, h.sz, h.own, h.f1, h.f5, h.f9, h.f10, h.f11, h.f12, fun _ => rfl⟩
                      · cases ho
                        have d1 : y1 = true := ha { on := 1, ground := .phase } (by simp) rfl
                        have d5 : y5 = true := ha { on := 5, ground := .phase } (by simp) rfl
                        have d9 : y9 = true := ha { on := 9, ground := .phase } (by simp) rfl
                        have d10 : y10 = true := ha { on := 10, ground := .phase } (by simp) rfl
                        have d11 : y11 = true := ha { on := 11, ground := .phase } (by simp) rfl
                        have d12 : y12 = true := ha { on := 12, ground := .phase } (by simp) rfl
                        have d13 : y13 = true := ha { on := 13, ground := .data } (by simp) rfl
                        obtain rfl := hF.f13 d13
                        obtain ⟨_, g, cap, rfl, how⟩ := hF.f12 d12
                        subst d1 d5 d9 d10 d11 d12 d13
                        have ce := hF.gb.e
                        have cf := hF.gb.frozen 1
                        have hne : (Value.slice (some ⟨g, 0, none⟩) (n + 1) cap).ownBlock ≠ some D := fun e => GB.not_row hF.gb (by decide) how e.symm
                        have hfin : FPdone w9 D m n la lb L (.slice (some ⟨g, 0, none⟩) (n + 1) cap) (W.setCell ⟨D, 1, none⟩ (.slice (some ⟨g, 0, none⟩) (n + 1) cap)) := ⟨hF.gb.set _, how.kept (grownBy_setCell W ⟨D, 1, none⟩ _) (.inr hne), hF.bw.setCell (p := ⟨D, 1, none⟩) (Nat.le_refl _) _⟩
                        have hq : HeldQ Bx Bk a d k (W.setCell ⟨D, 1, none⟩ (.slice (some ⟨g, 0, none⟩) (n + 1) cap)) := HHQ.out.far (Below.heap_setCell W ⟨D, 1, none⟩ _ Bx (by show Bx ≠ D; omega)) (Below.heap_setCell W ⟨D, 1, none⟩ _ Bk (by show Bk ≠ D; omega))
                        have FIN := Lib.hid hfin
                        have HQ := Lib.hid hq
                        clear hF ha hf how hfin hq hne
                        go_simp
                        (try simp only [Act.put])
                        exact hK.out _ _ HQ.out (.inr ⟨_, _, _, _, _, _, _, rfl, rfl, FIN.out⟩)
                    · intro listed aa W hI hr
                      rcases hI with ⟨y1, y5, y9, y10, y11, y12, y13, v73, v77, v81, v82, v83, v84, v85, rfl, rfl, hF, hH⟩ | ⟨v73, v77, v81, v82, v83, v84, v85, rfl, rfl, hfin⟩
                      · exfalso
                        obtain rfl : y1 = true := came_up' hr (i := 1) rfl (by rfl)
                        obtain rfl : y5 = true := came_up' hr (i := 5) rfl (by rfl)
                        obtain rfl : y9 = true := came_up' hr (i := 9) rfl (by rfl)
                        obtain rfl : y10 = true := came_up' hr (i := 10) rfl (by rfl)
                        obtain rfl : y11 = true := came_up' hr (i := 11) rfl (by rfl)
                        obtain rfl : y12 = true := came_up' hr (i := 12) rfl (by rfl)
                        obtain rfl : y13 = true := came_up' hr (i := 13) rfl (by rfl)
                        have : false = true := came_up' hr (i := 14) rfl (by rfl)
                        cases this
                      · have FIN := Lib.hid hfin
                        clear hfin hr hHeld xa xb k9
                        go_wp2_with fail
                        go_roundw
                        case rel =>
                          obtain ⟨f1, f2, f3⟩ := FIN.out
                          have e1 : subE k (es.take (j + 1)) = L0 ++ [(la, lb)] := by rw [HTK.out, subE_snoc HKK.out, ← HL0.out, HLA.out, HLB.out]; rfl
                          (repeat apply Exists.intro)
                          refine ⟨?_, rfl⟩
                          refine ⟨j + 1, by omega, by go_num, v84, f1, ?_, HB9.out.trans f3⟩
                          rw [e1, eVals_app, ← HLL2.out, List.length_append, ← HN.out]
                          exact f2
                        case measure => simp [intOf]; omega
              · have hje : j = es.length := by omega
                subst hje
                rw [List.take_length] at hown
                have hin' : inR (m : Int) (subE k es) = true := subE_in (by rw [← HM.out]; exact HIN.out) (by have := HM.out; omega)
                have hbdd := inR_bd hin' (by omega)
                have hlen := subE_len k es
                have hTq := HTB.out.below (by have := HTP.out; omega) hbq
                obtain ⟨A7, c7, rfl⟩ := own_any2 hown
                have hrE := own_rdE hown (fun i => by have := hbdd i; omega) (fun i => by have := hbdd i; omega) (fun i => by have := hbdd i; omega) (fun i => by have := hbdd i; omega) (by omega)
                have hcn := count_any A7 c7 (m : Int) (subE k es) wr hrE hTq
                rw [HCE.out] at hcn
                obtain ⟨cV, hcV⟩ : ∃ cV, cV = cntV (m : Int) (subE k es) := ⟨_, rfl⟩
                rw [← hcV] at hcn
                have hsum := HSUM.out
                rw [← hcV, ← HSE.out] at hsum
                have hc0 : 0 ≤ cV := by rw [hcV]; exact cntV_nonneg _ _
                have hw : IntKind.u64.wrap ((s : Int) + cV) = (s : Int) + cV := by rw [IntKind.wrap_u64]; omega
                have hqn := gq.n
                have hqe := gq.e
                have HCN := Lib.hid hcn
                have HSM := Lib.hid hsum
                have hsq := hbq.size
                have HBQ := Lib.hid ((below_step HBR.out hsr HBB.out).trans (hbq.mono (show w4.heap.size ≤ D by omega)))
                have HSQ : Hid (w4.heap.size ≤ wr.heap.size) := Lib.hid HBQ.out.size
                clear hin' hbdd hTq hrE hcn hcV hsum hown gq hbq hlen
                go_wp2_with (first | (go_at_call 37; refine HCN.out.mono ?_; rintro e w9 ⟨rfl, hb9⟩) | fail)
                have HFN := Lib.hid (below_step HBQ.out HSQ.out hb9)
                go_roundw
                case rel => exact ⟨k + 1, by omega, by go_num, by rw [HSM.out], HFN.out⟩
                case measure => simp [intOf]; omega
          · have hsk := HSK.out k (by rw [← hx]; exact hx0)
            have x0 : (0 : Int) < (x : Int) := by omega
            have HSKK := Lib.hid hsk
            clear hx hse hsk hbr r5r hc5
            go_wp2_with fail
            go_roundw
            case rel => exact ⟨k + 1, by omega, by go_num, by rw [HSKK.out, ← HSE.out], HBR.out.alloc hsr _⟩
            case measure => simp [intOf]; omega
        · obtain rfl : k = M := by omega
          have HBR := Lib.hid (below_step HB.out hs (hbr.mono (Nat.le_refl _)))
          have hv := HALL.out
          rw [← hv]
          clear hv hbr
          go_wp2_with fail
          go_ret
          exact ⟨rfl, HBR.out⟩
  · have ne1 : (cntE N es == 0) = false := beq_eq_false_iff_ne.2 hC
    obtain ⟨E, h38⟩ : ∃ E, E = cntE N es := ⟨_, rfl⟩
    obtain ⟨V, hVV⟩ : ∃ V, V = cntV N es := ⟨_, rfl⟩
    rw [← h38] at ne1 hC ⊢
    rw [← hVV]
    clear h38 hVV he hT
    go_wp2_with fail
    go_ret
    exact ⟨rfl, hB⟩
end Go.Proofs.YtaboafkpmgadmaaDoor
