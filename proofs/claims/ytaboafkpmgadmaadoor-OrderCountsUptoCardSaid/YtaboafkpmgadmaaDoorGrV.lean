/-
  Contracts of the reference's BWrong and of graph.Wrong: the same answer, for every graph.
-/
import Derived.Test.YtaboafkpmgadmaaDoorGrR
namespace Go.Proofs.YtaboafkpmgadmaaDoor
open Go.RowKit Go.Shelf
set_option maxRecDepth 100000

/-- what is wrong with a graph -/
def errn (N : Int) (es : List (Int × Int)) : Int := if inR N es = true then (if (ordr N.toNat es).length < N.toNat then 3 else 0) else 2
theorem errn_no {N : Int} {es : List (Int × Int)} (h : inR N es = false) : errn N es = 2 := by unfold errn; rw [h]; rfl
theorem errn_loop {m : Nat} {es : List (Int × Int)} (h : inR m es = true) (hl : (ordr m es).length < m) : errn m es = 3 := by unfold errn; rw [h, if_pos rfl, Int.toNat_natCast, if_pos hl]
theorem errn_ok {m : Nat} {es : List (Int × Int)} (h : inR m es = true) (hl : (ordr m es).length = m) : errn m es = 0 := by unfold errn; rw [h, if_pos rfl, Int.toNat_natCast, if_neg (by omega)]
theorem ordr_le (m : Nat) (es : List (Int × Int)) : (ordr m es).length ≤ m := (good_topoN _ _ _).len
theorem loop_iff {m : Nat} {es : List (Int × Int)} (h : inR m es = true) : (ordr m es).length < m ↔ ∃ x, x < m ∧ fw (gR es) m x x = true := by
  have h1 := topo_iff (gR_lt h)
  have h2 := ordr_le m es
  have h3 : (ordr m es).length = m ↔ ∀ x, ¬ Path (gR es) x x := h1
  constructor
  · intro hl
    false_or_by_contra
    rename_i hc
    have : (ordr m es).length = m := h3.2 fun x p => hc ⟨x, p.lt1 (gR_lt h), (fw_iff (gR_lt h) x x).2 p⟩
    omega
  · rintro ⟨x, hx, hf⟩
    rcases Nat.lt_or_ge (ordr m es).length m with h4 | h4
    · exact h4
    · exact absurd ((fw_iff (gR_lt h) x x).1 hf) (h3.1 (by omega) x)

set_option maxHeartbeats 2000000 in
theorem bwrong_any (A : Option Addr) (c : Nat) (N : Int) (es : List (Int × Int)) (w : World) (he : RdE w w.heap.size A es) :
    Calls Tryd.prog 49 #[.agg #[.int .i64 N, .slice A es.length c]] w fun e w' => e = .returned (.int .i64 (errn N es)) ∧ Below w.heap.size w w' := by
  have hroom := he.room
  by_cases hN : 0 ≤ N ∧ N ≤ 200
  · obtain ⟨hN0, hN1⟩ := hN
    obtain ⟨m, rfl⟩ : ∃ m : Nat, N = (m : Int) := ⟨N.toNat, by omega⟩
    have hok : okN200 m = true := by unfold okN200; simp; omega
    have HOK := Lib.hid hok
    clear hok
    go_enter Tryd.func49, Tryd.ntmps49
    go_wp2_with fail
    have hG := GBox.new w m A es.length c 24
    obtain ⟨w1, hw1⟩ : ∃ w1, w1 = w.alloc (.cells #[.int .i64 (m : Int), .slice A es.length c] 24) := ⟨_, rfl⟩
    have hb1 : Below w.heap.size w w1 := by rw [hw1]; exact (Below.refl _ _).alloc (Nat.le_refl _) _
    have hs1 : w.heap.size < w1.heap.size := by rw [hw1]; simp
    rw [← hw1] at hG ⊢
    have he1 : RdE w1 w1.heap.size A es := he.step hb1
    obtain ⟨B, hB⟩ : ∃ B, B = w.heap.size := ⟨_, rfl⟩
    rw [← hB] at hG hs1 ⊢
    clear hw1 he hB
    go_loopw [18] (fun i wr => ∃ k : Nat, k ≤ es.length ∧ i = .int .i64 k ∧ Hid (∀ j, j < k → okE m (ed es j) = true) ∧ Below w1.heap.size w1 wr) (fun i _ => es.length - (intOf i).toNat)
    case atStart => exact ⟨0, Nat.zero_le _, rfl, fun j hj => by omega, Below.refl _ _⟩
    case round =>
      obtain ⟨k, hk, rfl, hall, hbr⟩ := hrel
      by_cases hlt : k < es.length
      · obtain ⟨b, off, rfl, hb, hc⟩ := he1.rd (by omega)
        have hGr := hG.below hbr hs1
        have hgn := hGr.n
        have hc1 := (hbr.cell (p := ⟨b, off + k * 2, none⟩) hb).trans (hc k hlt).1
        have hc2 := (hbr.cell (p := ⟨b, off + k * 2 + 1, none⟩) hb).trans (hc k hlt).2
        have l1 := he1.lo1 k
        have l2 := he1.hi1 k
        have l3 := he1.lo2 k
        have l4 := he1.hi2 k
        clear hc hGr
        have hBw : B < wr.heap.size := Nat.lt_of_lt_of_le hs1 hbr.size
        obtain ⟨a1, ha1⟩ : ∃ a1, (ed es k).1 = a1 := ⟨_, rfl⟩
        obtain ⟨a2, ha2⟩ : ∃ a2, (ed es k).2 = a2 := ⟨_, rfl⟩
        rw [ha1] at hc1 l1 l2
        rw [ha2] at hc2 l3 l4
        have hed : ed es k = (a1, a2) := by rw [← ha1, ← ha2]
        have h9 : (Hid (okE m (ed es k) = false) ∧ ((a1 < 0 ∧ a1 ≤ a2) ∨ (a1 < 0 ∧ a2 < a1 ∧ a2 < 0) ∨ (0 ≤ a1 ∧ a2 < 0 ∧ a2 < a1) ∨ (0 ≤ a1 ∧ 0 ≤ a2 ∧ (m : Int) ≤ a1 ∧ a2 < a1) ∨ (0 ≤ a1 ∧ 0 ≤ a2 ∧ (m : Int) ≤ a1 ∧ (m : Int) ≤ a2 ∧ a1 ≤ a2) ∨ (0 ≤ a1 ∧ a1 < m ∧ (m : Int) ≤ a2 ∧ a1 ≤ a2 ∧ 0 ≤ a2))) ∨
            (Hid (okE m (ed es k) = true) ∧ ((0 ≤ a1 ∧ a1 < m ∧ 0 ≤ a2 ∧ a2 < m ∧ a1 ≤ a2) ∨ (0 ≤ a1 ∧ a1 < m ∧ 0 ≤ a2 ∧ a2 < m ∧ a2 < a1))) := by
          rw [hed]
          by_cases hg : 0 ≤ a1 ∧ a1 < m ∧ 0 ≤ a2 ∧ a2 < m
          · right
            obtain ⟨g1, g2, g3, g4⟩ := hg
            refine ⟨Lib.hid (by unfold okE; rw [nodeB_mk g1 g2, nodeB_mk g3 g4]; rfl), by omega⟩
          · left
            refine ⟨Lib.hid ?_, by omega⟩
            unfold okE
            rw [Bool.and_eq_false_iff]
            by_cases g1 : a1 < 0
            · exact .inl (nodeB_no1 g1)
            · by_cases g2 : (m : Int) ≤ a1
              · exact .inl (nodeB_no2 g2)
              · by_cases g3 : a2 < 0
                · exact .inr (nodeB_no1 g3)
                · exact .inr (nodeB_no2 (by omega))
        clear ha1 ha2 hed
        rcases h9 with ⟨hbad, h9⟩ | ⟨hgood, h9⟩
        · have HB := Lib.hid (errn_no (inR_bad m es k hlt hbad.out))
          rcases h9 with ⟨q1, q2⟩ | ⟨q1, q2, q3⟩ | ⟨q1, q2, q3⟩ | ⟨q1, q2, q3, q4⟩ | ⟨q1, q2, q3, q4, q5⟩ | ⟨q1, q2, q3, q4, q5⟩
          all_goals
            go_wp2
            all_goals
              go_ret
              exact ⟨ret_n HB.out.symm, hb1.trans ((hbr.alloc hbr.size _).mono hb1.size)⟩
        · rcases h9 with ⟨q1, q2, q3, q4, q5⟩ | ⟨q1, q2, q3, q4, q5⟩
          all_goals
            go_wp2
            all_goals
              go_roundw
              case rel => exact ⟨k + 1, by omega, by go_num, fun j hj => by
                rcases Nat.lt_succ_iff_lt_or_eq.1 hj with h | h
                · exact hall.out j h
                · subst h; exact hgood.out, hbr.alloc hbr.size _⟩
              case measure => simp [intOf]; omega
      · have hGr := hG.below hbr hs1
        have hgn := hGr.n
        have hge := hGr.e
        have hinr : inR m es = true := inR_yes m es HOK.out fun j hj => hall.out j (by omega)
        have hrr := he1.below hbr
        have hrr2 := hrr.more hbr.size
        clear hGr hrr
        go_wp2_with fail
        refine (reach_rows _ _ m es _ hrr2 hinr).mono ?_
        rintro e w2 ⟨g, rfl, hM, hb2⟩
        have hB2 : Below w1.heap.size w1 w2 := hbr.trans (hb2.mono hbr.size)
        have HLI := Lib.hid (loop_iff hinr)
        have HIN := Lib.hid hinr
        have hm2 : m ≤ 200 := by omega
        clear hb2 hbr hgn hge hrr2 hinr
        go_wp2_with fail
        obtain ⟨wo, rfl⟩ : ∃ wo : World, wo = w2 := ⟨_, rfl⟩
        go_loop [42] (fun i => ∃ t : Nat, t ≤ m ∧ i = .int .i64 t ∧ Hid (∀ x, x < t → fw (gR es) m x x = false)) (fun i => m - (intOf i).toNat)
        case atStart => exact ⟨0, Nat.zero_le _, rfl, fun j hj => by omega⟩
        case round =>
          obtain ⟨t, ht, rfl, hno⟩ := hrel
          by_cases htl : t < m
          · have hc1 := hM.c1 htl
            have hc2 := hM.c2 htl htl
            obtain ⟨v, hv⟩ : ∃ v, fw (gR es) m t t = v := ⟨_, rfl⟩
            rw [hv] at hc2
            have HV := Lib.hid hv
            clear hv
            cases v with
            | true =>
              go_wp2
              go_ret
              exact ⟨ret_n (errn_loop HIN.out (HLI.out.2 ⟨t, htl, HV.out⟩)).symm, hb1.trans (hB2.mono hb1.size)⟩
            | false =>
              go_wp2
              go_round
              case rel => exact ⟨t + 1, by omega, by go_num, fun j hj => by
                rcases Nat.lt_succ_iff_lt_or_eq.1 hj with h | h
                · exact hno.out j h
                · subst h; exact HV.out⟩
              case measure => simp [intOf]; omega
          · obtain rfl : t = m := by omega
            go_wp2
            go_ret
            have h5 : (ordr t es).length = t := by
              have h6 := ordr_le t es
              rcases Nat.lt_or_ge (ordr t es).length t with h7 | h7
              · obtain ⟨x, hx1, hx2⟩ := HLI.out.1 h7
                rw [hno.out x hx1] at hx2
                cases hx2
              · omega
            exact ⟨ret_n (errn_ok HIN.out h5).symm, hb1.trans (hB2.mono hb1.size)⟩
  · have hno := inR_no N es (by unfold okN200; simp; omega)
    rw [errn_no hno]
    clear hno
    have h3 : N < 0 ∨ 0 ≤ N ∧ 200 < N := by omega
    rcases h3 with h | ⟨h, h'⟩
    · go_enter Tryd.func49, Tryd.ntmps49
      go_wp2
      go_ret
      exact ⟨rfl, (Below.refl _ _).alloc (Nat.le_refl _) _⟩
    · go_enter Tryd.func49, Tryd.ntmps49
      go_wp2
      go_ret
      exact ⟨rfl, (Below.refl _ _).alloc (Nat.le_refl _) _⟩

theorem errno_any (A : Option Addr) (c : Nat) (N : Int) (es : List (Int × Int)) (w : World) (he : RdE w w.heap.size A es) (hT : Tab w) :
    Calls Tryd.prog 13 #[.agg #[.int .i64 N, .slice A es.length c]] w fun e w' => ∃ v, e = .returned (.tuple #[v, .int .i64 (errn N es)]) ∧ Below w.heap.size w w' := by
  cases hin : inR N es with
  | false => exact (sort_no A c N es w he hin).mono fun e w' ⟨h1, h2⟩ => ⟨.slice none 0 0, by rw [h1, errn_no hin], h2⟩
  | true =>
    have hm := okN_of hin
    obtain ⟨m, rfl⟩ : ∃ m : Nat, N = (m : Int) := ⟨N.toNat, by omega⟩
    refine (callsIn_wide.1 (sort_in 12 (Nat.le_refl _) A c m es w he hin hT)).mono ?_
    rintro e w' ⟨(⟨hl, v, rfl, _⟩ | ⟨hl, rfl⟩), hb⟩
    · exact ⟨v, by rw [errn_ok hin hl], hb⟩
    · exact ⟨.slice none 0 0, by rw [errn_loop hin hl], hb⟩
theorem wrong_any (A : Option Addr) (c : Nat) (N : Int) (es : List (Int × Int)) (w : World) (he : RdE w w.heap.size A es) (hT : Tab w) :
    Calls Tryd.prog 45 #[.agg #[.int .i64 N, .slice A es.length c]] w fun e w' => e = .returned (.int .i64 (errn N es)) ∧ Below w.heap.size w w' := by
  go_enter Tryd.func45, Tryd.ntmps45
  go_wp2_with fail
  have hb1 := below_alloc w (.cells #[.int .i64 N, .slice A es.length c] 24)
  obtain ⟨w1, hw1⟩ : ∃ w1, w1 = w.alloc (.cells #[.int .i64 N, .slice A es.length c] 24) := ⟨_, rfl⟩
  rw [← hw1] at hb1 ⊢
  clear hw1
  refine (errno_any A c N es _ (he.step hb1) (hT.step hb1)).mono ?_
  rintro e w2 ⟨v, rfl, hb2⟩
  have hb := hb1.trans (hb2.mono hb1.size)
  clear hb1 hb2
  go_wp2
  go_ret
  exact ⟨rfl, hb⟩
end Go.Proofs.YtaboafkpmgadmaaDoor
