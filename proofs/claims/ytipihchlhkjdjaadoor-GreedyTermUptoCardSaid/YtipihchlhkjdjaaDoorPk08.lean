/-
  Contracts of the reference's BWrong and of graph.Wrong: the same answer, for every graph.
  The greedy schedule as the program keeps it: for each node how many edges it still waits for, and the nodes that wait for none, in their order. Plain mathematics.
  Contract of graph.union; slices.Backward over ints.
  The set of the nodes that follow a node: its bits; how it is made of the successors' sets. Plain lemmas.
-/
import Derived.Test.YtipihchlhkjdjaaDoorPk07
import Derived.Test.YtipihchlhkjdjaaDoorPk00
namespace Go.Proofs.YtipihchlhkjdjaaDoor
open Go.RowKit Go.Shelf
set_option maxRecDepth 100000

/-- what is wrong with a graph -/
def errn (N : Int) (es : List (Int × Int)) : Int := if inR N es = true then (if (ordr N.toNat es).length < N.toNat then 3 else 0) else 2
theorem errn_no {N : Int} {es : List (Int × Int)} (h : inR N es = false) : errn N es = 2 := by unfold errn; rw [h]; rfl
theorem errn_loop {m : Nat} {es : List (Int × Int)} (h : inR m es = true) (hl : (ordr m es).length < m) : errn m es = 3 := by unfold errn; rw [h, if_pos rfl, Int.toNat_natCast, if_pos hl]
theorem errn_ok {m : Nat} {es : List (Int × Int)} (h : inR m es = true) (hl : (ordr m es).length = m) : errn m es = 0 := by unfold errn; rw [h, if_pos rfl, Int.toNat_natCast, if_neg (by omega)]
theorem ordr_le (m : Nat) (es : List (Int × Int)) : (ordr m es).length ≤ m := (good_topoN _ _ _).len
theorem loop_iff {m : Nat} {es : List (Int × Int)} (h : inR m es = true) : (ordr m es).length < m ↔ ∃ x, x < m ∧ fw (gR es) m x x = true := by
  have h1 := topo_iff (gR_lt h)
  have h2 := ordr_le m es
  have h3 : (ordr m es).length = m ↔ ∀ x, ¬ Path (gR es) x x := h1
  constructor
  · intro hl
    false_or_by_contra
    rename_i hc
    have : (ordr m es).length = m := h3.2 fun x p => hc ⟨x, p.lt1 (gR_lt h), (fw_iff (gR_lt h) x x).2 p⟩
    omega
  · rintro ⟨x, hx, hf⟩
    rcases Nat.lt_or_ge (ordr m es).length m with h4 | h4
    · exact h4
    · exact absurd ((fw_iff (gR_lt h) x x).1 hf) (h3.1 (by omega) x)

set_option maxHeartbeats 2000000 in
theorem bwrong_any (A : Option Addr) (c : Nat) (N : Int) (es : List (Int × Int)) (w : World) (he : RdE w w.heap.size A es) :
    Calls Tryd.prog 27 #[.agg #[.int .i64 N, .slice A es.length c]] w fun e w' => e = .returned (.int .i64 (errn N es)) ∧ Below w.heap.size w w' := by
  have hroom := he.room
  by_cases hN : 0 ≤ N ∧ N ≤ 200
  · obtain ⟨hN0, hN1⟩ := hN
    obtain ⟨m, rfl⟩ : ∃ m : Nat, N = (m : Int) := ⟨N.toNat, by omega⟩
    have hok : okN200 m = true := by unfold okN200; simp; omega
    have HOK := Lib.hid hok
    clear hok
    go_enter Tryd.func27, Tryd.ntmps27
    go_wp2_with fail
    have hG := GBox.new w m A es.length c 24
    obtain ⟨w1, hw1⟩ : ∃ w1, w1 = w.alloc (.cells #[.int .i64 (m : Int), .slice A es.length c] 24) := ⟨_, rfl⟩
    have hb1 : Below w.heap.size w w1 := by rw [hw1]; exact (Below.refl _ _).alloc (Nat.le_refl _) _
    have hs1 : w.heap.size < w1.heap.size := by rw [hw1]; simp
    rw [← hw1] at hG ⊢
    have he1 : RdE w1 w1.heap.size A es := he.step hb1
    obtain ⟨B, hB⟩ : ∃ B, B = w.heap.size := ⟨_, rfl⟩
    rw [← hB] at hG hs1 ⊢
    clear hw1 he hB
    go_loopw [18] (fun i wr => ∃ k : Nat, k ≤ es.length ∧ i = .int .i64 k ∧ Hid (∀ j, j < k → okE m (ed es j) = true) ∧ Below w1.heap.size w1 wr) (fun i _ => es.length - (intOf i).toNat)
    case atStart => exact ⟨0, Nat.zero_le _, rfl, fun j hj => by omega, Below.refl _ _⟩
    case round =>
      obtain ⟨k, hk, rfl, hall, hbr⟩ := hrel
      by_cases hlt : k < es.length
      · obtain ⟨b, off, rfl, hb, hc⟩ := he1.rd (by omega)
        have hGr := hG.below hbr hs1
        have hgn := hGr.n
        have hc1 := (hbr.cell (p := ⟨b, off + k * 2, none⟩) hb).trans (hc k hlt).1
        have hc2 := (hbr.cell (p := ⟨b, off + k * 2 + 1, none⟩) hb).trans (hc k hlt).2
        have l1 := he1.lo1 k
        have l2 := he1.hi1 k
        have l3 := he1.lo2 k
        have l4 := he1.hi2 k
        clear hc hGr
        have hBw : B < wr.heap.size := Nat.lt_of_lt_of_le hs1 hbr.size
        obtain ⟨a1, ha1⟩ : ∃ a1, (ed es k).1 = a1 := ⟨_, rfl⟩
        obtain ⟨a2, ha2⟩ : ∃ a2, (ed es k).2 = a2 := ⟨_, rfl⟩
        rw [ha1] at hc1 l1 l2
        rw [ha2] at hc2 l3 l4
        have hed : ed es k = (a1, a2) := by rw [← ha1, ← ha2]
        have h9 : (Hid (okE m (ed es k) = false) ∧ ((a1 < 0 ∧ a1 ≤ a2) ∨ (a1 < 0 ∧ a2 < a1 ∧ a2 < 0) ∨ (0 ≤ a1 ∧ a2 < 0 ∧ a2 < a1) ∨ (0 ≤ a1 ∧ 0 ≤ a2 ∧ (m : Int) ≤ a1 ∧ a2 < a1) ∨ (0 ≤ a1 ∧ 0 ≤ a2 ∧ (m : Int) ≤ a1 ∧ (m : Int) ≤ a2 ∧ a1 ≤ a2) ∨ (0 ≤ a1 ∧ a1 < m ∧ (m : Int) ≤ a2 ∧ a1 ≤ a2 ∧ 0 ≤ a2))) ∨
            (Hid (okE m (ed es k) = true) ∧ ((0 ≤ a1 ∧ a1 < m ∧ 0 ≤ a2 ∧ a2 < m ∧ a1 ≤ a2) ∨ (0 ≤ a1 ∧ a1 < m ∧ 0 ≤ a2 ∧ a2 < m ∧ a2 < a1))) := by
          rw [hed]
          by_cases hg : 0 ≤ a1 ∧ a1 < m ∧ 0 ≤ a2 ∧ a2 < m
          · right
            obtain ⟨g1, g2, g3, g4⟩ := hg
            refine ⟨Lib.hid (by unfold okE; rw [nodeB_mk g1 g2, nodeB_mk g3 g4]; rfl), by omega⟩
          · left
            refine ⟨Lib.hid ?_, by omega⟩
            unfold okE
            rw [Bool.and_eq_false_iff]
            by_cases g1 : a1 < 0
            · exact .inl (nodeB_no1 g1)
            · by_cases g2 : (m : Int) ≤ a1
              · exact .inl (nodeB_no2 g2)
              · by_cases g3 : a2 < 0
                · exact .inr (nodeB_no1 g3)
                · exact .inr (nodeB_no2 (by omega))
        clear ha1 ha2 hed
        rcases h9 with ⟨hbad, h9⟩ | ⟨hgood, h9⟩
        · have HB := Lib.hid (errn_no (inR_bad m es k hlt hbad.out))
          rcases h9 with ⟨q1, q2⟩ | ⟨q1, q2, q3⟩ | ⟨q1, q2, q3⟩ | ⟨q1, q2, q3, q4⟩ | ⟨q1, q2, q3, q4, q5⟩ | ⟨q1, q2, q3, q4, q5⟩
          all_goals
            go_wp2
            all_goals
              go_ret
              exact ⟨ret_n HB.out.symm, hb1.trans ((hbr.alloc hbr.size _).mono hb1.size)⟩
        · rcases h9 with ⟨q1, q2, q3, q4, q5⟩ | ⟨q1, q2, q3, q4, q5⟩
          all_goals
            go_wp2
            all_goals
              go_roundw
              case rel => exact ⟨k + 1, by omega, by go_num, fun j hj => by
                rcases Nat.lt_succ_iff_lt_or_eq.1 hj with h | h
                · exact hall.out j h
                · subst h; exact hgood.out, hbr.alloc hbr.size _⟩
              case measure => simp [intOf]; omega
      · have hGr := hG.below hbr hs1
        have hgn := hGr.n
        have hge := hGr.e
        have hinr : inR m es = true := inR_yes m es HOK.out fun j hj => hall.out j (by omega)
        have hrr := he1.below hbr
        have hrr2 := hrr.more hbr.size
        clear hGr hrr
        go_wp2_with fail
        refine (reach_rows _ _ m es _ hrr2 hinr).mono ?_
        rintro e w2 ⟨g, rfl, hM, hb2⟩
        have hB2 : Below w1.heap.size w1 w2 := hbr.trans (hb2.mono hbr.size)
        have HLI := Lib.hid (loop_iff hinr)
        have HIN := Lib.hid hinr
        have hm2 : m ≤ 200 := by omega
        clear hb2 hbr hgn hge hrr2 hinr
        go_wp2_with fail
        obtain ⟨wo, rfl⟩ : ∃ wo : World, wo = w2 := ⟨_, rfl⟩
        go_loop [42] (fun i => ∃ t : Nat, t ≤ m ∧ i = .int .i64 t ∧ Hid (∀ x, x < t → fw (gR es) m x x = false)) (fun i => m - (intOf i).toNat)
        case atStart => exact ⟨0, Nat.zero_le _, rfl, fun j hj => by omega⟩
        case round =>
          obtain ⟨t, ht, rfl, hno⟩ := hrel
          by_cases htl : t < m
          · have hc1 := hM.c1 htl
            have hc2 := hM.c2 htl htl
            obtain ⟨v, hv⟩ : ∃ v, fw (gR es) m t t = v := ⟨_, rfl⟩
            rw [hv] at hc2
            have HV := Lib.hid hv
            clear hv
            cases v with
            | true =>
              go_wp2
              go_ret
              exact ⟨ret_n (errn_loop HIN.out (HLI.out.2 ⟨t, htl, HV.out⟩)).symm, hb1.trans (hB2.mono hb1.size)⟩
            | false =>
              go_wp2
              go_round
              case rel => exact ⟨t + 1, by omega, by go_num, fun j hj => by
                rcases Nat.lt_succ_iff_lt_or_eq.1 hj with h | h
                · exact hno.out j h
                · subst h; exact HV.out⟩
              case measure => simp [intOf]; omega
          · obtain rfl : t = m := by omega
            go_wp2
            go_ret
            have h5 : (ordr t es).length = t := by
              have h6 := ordr_le t es
              rcases Nat.lt_or_ge (ordr t es).length t with h7 | h7
              · obtain ⟨x, hx1, hx2⟩ := HLI.out.1 h7
                rw [hno.out x hx1] at hx2
                cases hx2
              · omega
            exact ⟨ret_n (errn_ok HIN.out h5).symm, hb1.trans (hB2.mono hb1.size)⟩
  · have hno := inR_no N es (by unfold okN200; simp; omega)
    rw [errn_no hno]
    clear hno
    have h3 : N < 0 ∨ 0 ≤ N ∧ 200 < N := by omega
    rcases h3 with h | ⟨h, h'⟩
    · go_enter Tryd.func27, Tryd.ntmps27
      go_wp2
      go_ret
      exact ⟨rfl, (Below.refl _ _).alloc (Nat.le_refl _) _⟩
    · go_enter Tryd.func27, Tryd.ntmps27
      go_wp2
      go_ret
      exact ⟨rfl, (Below.refl _ _).alloc (Nat.le_refl _) _⟩

theorem errno_any (A : Option Addr) (c : Nat) (N : Int) (es : List (Int × Int)) (w : World) (he : RdE w w.heap.size A es) (hT : Tab w) :
    Calls Tryd.prog 18 #[.agg #[.int .i64 N, .slice A es.length c]] w fun e w' => ∃ v, e = .returned (.tuple #[v, .int .i64 (errn N es)]) ∧ Below w.heap.size w w' := by
  cases hin : inR N es with
  | false => exact (sort_no A c N es w he hin).mono fun e w' ⟨h1, h2⟩ => ⟨.slice none 0 0, by rw [h1, errn_no hin], h2⟩
  | true =>
    have hm := okN_of hin
    obtain ⟨m, rfl⟩ : ∃ m : Nat, N = (m : Int) := ⟨N.toNat, by omega⟩
    refine (callsIn_wide.1 (sort_in 12 (Nat.le_refl _) A c m es w he hin hT)).mono ?_
    rintro e w' ⟨(⟨hl, v, rfl, _⟩ | ⟨hl, rfl⟩), hb⟩
    · exact ⟨v, by rw [errn_ok hin hl], hb⟩
    · exact ⟨.slice none 0 0, by rw [errn_loop hin hl], hb⟩
theorem wrong_any (A : Option Addr) (c : Nat) (N : Int) (es : List (Int × Int)) (w : World) (he : RdE w w.heap.size A es) (hT : Tab w) :
    Calls Tryd.prog 13 #[.agg #[.int .i64 N, .slice A es.length c]] w fun e w' => e = .returned (.int .i64 (errn N es)) ∧ Below w.heap.size w w' := by
  go_enter Tryd.func13, Tryd.ntmps13
  go_wp2_with fail
  have hb1 := below_alloc w (.cells #[.int .i64 N, .slice A es.length c] 24)
  obtain ⟨w1, hw1⟩ : ∃ w1, w1 = w.alloc (.cells #[.int .i64 N, .slice A es.length c] 24) := ⟨_, rfl⟩
  rw [← hw1] at hb1 ⊢
  clear hw1
  refine (errno_any A c N es _ (he.step hb1) (hT.step hb1)).mono ?_
  rintro e w2 ⟨v, rfl, hb2⟩
  have hb := hb1.trans (hb2.mono hb1.size)
  clear hb1 hb2
  go_wp2
  go_ret
  exact ⟨rfl, hb⟩
end Go.Proofs.YtipihchlhkjdjaaDoor

namespace Go.Proofs.YtipihchlhkjdjaaDoor

/-- the numbers below m at which p holds -/
def rl (m : Nat) (p : Nat → Bool) : List Int := toI ((List.range m).filter p)
theorem rl_congr {m : Nat} {p q : Nat → Bool} (h : ∀ j, j < m → p j = q j) : rl m p = rl m q := by
  unfold rl
  congr 1
  exact List.filter_congr fun j hj => h j (List.mem_range.1 hj)
theorem rl_len (m : Nat) (p : Nat → Bool) : (rl m p).length ≤ m := by
  unfold rl
  rw [toI_len]
  have := List.length_filter_le p (List.range m)
  simpa using this
theorem rl_none {m : Nat} {p : Nat → Bool} (h : ∀ j, j < m → p j = false) : rl m p = [] := by
  unfold rl
  rw [List.filter_eq_nil_iff.2 fun j hj => by rw [h j (List.mem_range.1 hj)]; simp]
  rfl
theorem mem_rl {m : Nat} {p : Nat → Bool} {z : Int} : z ∈ rl m p ↔ ∃ j : Nat, z = (j : Int) ∧ j < m ∧ p j = true := by
  unfold rl toI
  rw [List.mem_map]
  constructor
  · rintro ⟨j, hj, rfl⟩
    rw [List.mem_filter, List.mem_range] at hj
    exact ⟨j, rfl, hj.1, hj.2⟩
  · rintro ⟨j, rfl, h1, h2⟩
    exact ⟨j, List.mem_filter.2 ⟨List.mem_range.2 h1, h2⟩, rfl⟩
theorem rl_sorted (m : Nat) (p : Nat → Bool) : (rl m p).Pairwise (· ≤ ·) := by
  unfold rl toI
  rw [List.pairwise_map]
  refine List.Pairwise.filter _ (List.pairwise_lt_range.imp fun h => ?_)
  omega
theorem rl_bnd {m : Nat} (hm : m ≤ 200) (p : Nat → Bool) (k : Nat) : 0 ≤ zd (rl m p) k ∧ zd (rl m p) k ≤ 200 := zd_bnd (fun z hz => by
  obtain ⟨j, rfl, hj, _⟩ := mem_rl.1 hz
  omega) (by omega) (by omega) k

/-- x put in its place -/
def insI (x : Int) (l : List Int) : List Int := l.take (l.countP (· < x)) ++ x :: l.drop (l.countP (· < x))
theorem insI_len (x : Int) (l : List Int) : (insI x l).length = l.length + 1 := by
  unfold insI
  have := List.countP_le_length (p := (· < x)) (l := l)
  rw [List.length_append, List.length_cons, List.length_take, List.length_drop]
  omega
theorem range_split {m j : Nat} (h : j < m) : List.range m = List.range j ++ j :: List.range' (j + 1) (m - (j + 1)) := by
  rw [List.range_eq_range', List.range_eq_range', show m = j + (1 + (m - (j + 1))) by omega, ← List.range'_append, ← List.range'_append]
  simp
  omega
theorem insI_rl {m j : Nat} {p : Nat → Bool} (h : j < m) (hp : p j = false) : insI j (rl m p) = rl m fun i => if i = j then true else p i := by
  unfold rl
  rw [range_split h, List.filter_append, List.filter_append, List.filter_cons, List.filter_cons, if_neg (by rw [hp]; simp), if_pos (by simp)]
  have h1 : (List.range j).filter (fun i => if i = j then true else p i) = (List.range j).filter p := List.filter_congr fun i hi => by rw [if_neg (by have := List.mem_range.1 hi; omega)]
  have h2 : (List.range' (j + 1) (m - (j + 1))).filter (fun i => if i = j then true else p i) = (List.range' (j + 1) (m - (j + 1))).filter p := List.filter_congr fun i hi => by rw [if_neg (by have := (List.mem_range'_1.1 hi); omega)]
  rw [h1, h2]
  obtain ⟨a, ha⟩ : ∃ a, a = (List.range j).filter p := ⟨_, rfl⟩
  obtain ⟨b, hb⟩ : ∃ b, b = (List.range' (j + 1) (m - (j + 1))).filter p := ⟨_, rfl⟩
  have hc : (toI (a ++ b)).countP (· < (j : Int)) = (toI a).length := by
    unfold toI
    rw [List.map_append, List.countP_append, List.countP_map, List.countP_map]
    have e1 : a.countP ((fun x : Int => decide (x < (j : Int))) ∘ fun (k : Nat) => (k : Int)) = a.length := by
      rw [List.countP_eq_length]
      intro x hx
      rw [ha, List.mem_filter, List.mem_range] at hx
      simp
      omega
    have e2 : b.countP ((fun x : Int => decide (x < (j : Int))) ∘ fun (k : Nat) => (k : Int)) = 0 := by
      rw [List.countP_eq_zero]
      intro x hx
      rw [hb, List.mem_filter] at hx
      have := List.mem_range'_1.1 hx.1
      simp
      omega
    rw [e1, e2, List.length_map]
    rfl
  rw [← ha, ← hb]
  unfold insI
  rw [hc]
  unfold toI
  simp

/-- without what was taken first -/
theorem drop_nodup {l : List Nat} (h : l.Nodup) (n : Nat) : l.drop n = l.filter fun x => !((l.take n).contains x) := by
  have h0 := h
  rw [← List.take_append_drop n l, List.nodup_append] at h0
  obtain ⟨_, _, h3⟩ := h0
  have e : l.filter (fun x => !((l.take n).contains x)) = (l.take n ++ l.drop n).filter fun x => !((l.take n).contains x) := by rw [List.take_append_drop]
  rw [e, List.filter_append, List.filter_eq_nil_iff.2 fun x hx => by simpa using hx, List.filter_eq_self.2 fun x hx => ?_]
  · rfl
  · simp only [Bool.not_eq_true', ← Bool.not_eq_true, List.contains_iff_mem]
    exact fun hm => h3 x hm x hx rfl

/-! ### how many edges a node waits for -/
def cnw (es : List (Int × Int)) (d : List Nat) (j : Nat) : Nat := es.countP fun e => decide (e.2 = (j : Int)) && !(d.contains e.1.toNat)
theorem cnw_le (es : List (Int × Int)) (d : List Nat) (j : Nat) : cnw es d j ≤ es.length := List.countP_le_length
theorem cnw_nil_take {es : List (Int × Int)} {k y : Nat} (h : k < es.length) (hy : (ed es k).2 = (y : Int)) : (fun j => cnw (es.take (k + 1)) [] j) = fun j => if j = y then cnw (es.take k) [] y + 1 else cnw (es.take k) [] j := by
  funext j
  unfold cnw
  rw [take_ed es k h, List.countP_append]
  by_cases e : j = y
  · subst e
    rw [if_pos rfl]
    simp [hy]
  · rw [if_neg e]
    have : ¬ (ed es k).2 = (j : Int) := by omega
    simp [this]
theorem cnw_zero {m : Nat} {es : List (Int × Int)} (h : inR m es = true) (d : List Nat) (j : Nat) : cnw es d j = 0 ↔ ∀ p, p < m → gR es p j = true → p ∈ d := by
  unfold cnw gR
  rw [List.countP_eq_zero]
  constructor
  · intro h0 p _ hp
    have h1 := h0 _ (of_decide_eq_true hp)
    false_or_by_contra
    rename_i hn
    apply h1
    simp [hn]
  · rintro h0 ⟨a, b⟩ he hc
    simp only [Bool.and_eq_true, decide_eq_true_eq, Bool.not_eq_true', ← Bool.not_eq_true, List.contains_iff_mem] at hc
    obtain ⟨rfl, h2⟩ := hc
    obtain ⟨a0, a1, _, _⟩ := edge_in h he
    refine h2 (h0 a.toNat (by omega) ?_)
    rw [show ((a.toNat : Nat) : Int) = a by omega]
    exact decide_eq_true he
theorem ready_cnw {m : Nat} {es : List (Int × Int)} (h : inR m es = true) (d : List Nat) (j : Nat) : ready (gR es) m d j = (decide (cnw es d j = 0) && !(d.contains j)) := by
  rw [Bool.eq_iff_iff, ready_iff]
  simp only [Bool.and_eq_true, decide_eq_true_eq, Bool.not_eq_true', ← Bool.not_eq_true, List.contains_iff_mem]
  rw [cnw_zero h]
  exact ⟨fun ⟨a, b⟩ => ⟨b, a⟩, fun ⟨a, b⟩ => ⟨b, a⟩⟩
theorem rdyL_rl {m : Nat} {es : List (Int × Int)} (h : inR m es = true) (d : List Nat) : toI (rdyL (gR es) m d) = rl m fun j => decide (cnw es d j = 0) && !(d.contains j) := by
  show rl m (ready (gR es) m d) = _
  exact rl_congr fun j _ => ready_cnw h d j
/-- one more is done -/
theorem cnw_snoc {m : Nat} {es : List (Int × Int)} (h : inR m es = true) {d : List Nat} {n : Nat} (hn : n ∉ d) (j : Nat) : cnw es d j = cnw es (d ++ [n]) j + (tos es n).count (j : Int) := by
  have key : ∀ l : List (Int × Int), (∀ e ∈ l, 0 ≤ e.1) → l.countP (fun e => decide (e.2 = (j : Int)) && !(d.contains e.1.toNat)) = l.countP (fun e => decide (e.2 = (j : Int)) && !((d ++ [n]).contains e.1.toNat)) + (tos l n).count (j : Int) := by
    intro l
    induction l with
    | nil => intro _; rfl
    | cons e l ih =>
      intro hl
      have ih := ih fun x hx => hl x (List.mem_cons_of_mem _ hx)
      have he := hl e (List.mem_cons_self ..)
      obtain ⟨a, b⟩ := e
      rw [List.countP_cons, List.countP_cons, ih]
      unfold tos
      rw [List.filter_cons]
      by_cases hb : b = (j : Int)
      · subst hb
        by_cases ha : a = (n : Int)
        · subst ha
          simp [hn]
          omega
        · have hne : ¬ a.toNat = n := by simp at he; omega
          simp [ha, hne]
          omega
      · by_cases ha : a = (n : Int)
        · subst ha
          simp [hb]
        · simp [hb, ha]
  exact key es fun e he => by
    obtain ⟨a, b⟩ := e
    exact (edge_in h he).1
/-- what a node waits for while the round is done: k of the round's nodes are done whole, and q of the next one's edges -/
def wtn (es : List (Int × Int)) (D : List Nat) (n q j : Nat) : Int := (cnw es D j : Int) - (((tos es n).take q).count (j : Int) : Nat)
theorem wtn_zero (es : List (Int × Int)) (D : List Nat) (n : Nat) : wtn es D n 0 = fun j => (cnw es D j : Int) := by
  funext j
  unfold wtn
  simp
theorem wtn_all {m : Nat} {es : List (Int × Int)} (h : inR m es = true) {D : List Nat} {n : Nat} (hn : n ∉ D) : wtn es D n (tos es n).length = fun j => (cnw es (D ++ [n]) j : Int) := by
  funext j
  unfold wtn
  rw [List.take_length, cnw_snoc h hn]
  omega
theorem wtn_next {es : List (Int × Int)} {D : List Nat} {n q y : Nat} (hq : q < (tos es n).length) (hy : zd (tos es n) q = (y : Int)) : wtn es D n (q + 1) = fun j => if j = y then wtn es D n q y - 1 else wtn es D n q j := by
  funext j
  unfold wtn
  have e : (tos es n).take (q + 1) = (tos es n).take q ++ [(y : Int)] := by
    rw [List.take_succ_eq_append_getElem hq]
    congr 2
    rw [← hy]
    unfold zd
    simp [List.getD, hq]
  rw [e, List.count_append]
  by_cases hj : j = y
  · subst hj
    rw [if_pos rfl]
    simp
    omega
  · rw [if_neg hj]
    have : ((y : Int) == (j : Int)) = false := beq_eq_false_iff_ne.2 (by omega)
    simp [List.count_cons, this]
theorem wtn_pos {m : Nat} {es : List (Int × Int)} (h : inR m es = true) {D : List Nat} {n q y : Nat} (hn : n ∉ D) (hq : q < (tos es n).length) (hy : zd (tos es n) q = (y : Int)) : 1 ≤ wtn es D n q y := by
  have h1 := congrFun (wtn_next (D := D) hq hy) y
  simp only [if_true] at h1
  have h2 : (((tos es n).take (q + 1)).count (y : Int) : Nat) ≤ (tos es n).count (y : Int) := (List.take_sublist _ _).count_le _
  have h3 := cnw_snoc h hn y
  unfold wtn at h1 ⊢
  omega
theorem wtn_le {es : List (Int × Int)} {D : List Nat} {n q j : Nat} : wtn es D n q j ≤ (es.length : Nat) := by
  have := cnw_le es D j
  unfold wtn
  omega
theorem cnw_mono (es : List (Int × Int)) {d D : List Nat} (h : ∀ x, x ∈ d → x ∈ D) (j : Nat) : cnw es D j ≤ cnw es d j := by
  unfold cnw
  refine List.countP_mono_left fun e _ he => ?_
  simp only [Bool.and_eq_true, decide_eq_true_eq, Bool.not_eq_true', ← Bool.not_eq_true, List.contains_iff_mem] at he ⊢
  exact ⟨he.1, fun hx => he.2 (h _ hx)⟩
/-- who waits is neither done nor in the round -/
theorem waits_out {m : Nat} {es : List (Int × Int)} (h : inR m es = true) {d r : List Nat} (hg : Good (gR es) m d) (hr : ∀ x, x ∈ r → ready (gR es) m d x = true) {D : List Nat} (hD : ∀ x, x ∈ d → x ∈ D) {n q y : Nat} (hy : 1 ≤ wtn es D n q y) : y ∉ d ++ r := by
  intro hm
  have h0 : cnw es d y = 0 := by
    rcases List.mem_append.1 hm with h1 | h1
    · exact (cnw_zero h d y).2 fun p hp hR => hg.mem_pre h1 hp hR
    · exact (cnw_zero h d y).2 (ready_iff.1 (hr y h1)).2
  have h2 := cnw_mono es hD y
  unfold wtn at hy
  omega
/-- who is ready, of those outside D -/
def rdp (D : List Nat) (wt : Nat → Int) : Nat → Bool := fun j => decide (wt j = 0) && !(D.contains j)
theorem rdp_more {D : List Nat} {wt : Nat → Int} {y : Nat} (h1 : wt y = 1) (hy : y ∉ D) {m : Nat} (hm : y < m) : insI y (rl m (rdp D wt)) = rl m (rdp D fun j => if j = y then wt y - 1 else wt j) := by
  rw [insI_rl hm (by unfold rdp; rw [h1]; rfl)]
  refine rl_congr fun j _ => ?_
  unfold rdp
  by_cases e : j = y
  · subst e
    simp [h1, hy]
  · simp [e]
theorem rdp_same {D : List Nat} {wt : Nat → Int} {y : Nat} (h1 : wt y ≠ 0) (h2 : wt y ≠ 1) {m : Nat} : rl m (rdp D wt) = rl m (rdp D fun j => if j = y then wt y - 1 else wt j) := by
  refine rl_congr fun j _ => ?_
  unfold rdp
  by_cases e : j = y
  · subst e
    have e1 : decide (wt j = 0) = false := decide_eq_false h1
    have e2 : decide (wt j - 1 = 0) = false := decide_eq_false (by omega)
    simp only [if_true, e1, e2]
  · simp [e]
/-- the round taken away -/
theorem rdy_drop {m : Nat} {es : List (Int × Int)} (h : inR m es = true) (d : List Nat) (w : Nat) : (toI (rdyL (gR es) m d)).drop w = rl m (rdp (d ++ rnow (gR es) m w d) fun j => (cnw es d j : Int)) := by
  have h1 : (toI (rdyL (gR es) m d)).drop w = toI ((rdyL (gR es) m d).drop w) := by unfold toI; rw [List.map_drop]
  rw [h1, drop_nodup (rdyL_nodup _ _ _), rdyL, List.filter_filter]
  show rl m _ = _
  refine rl_congr fun j _ => ?_
  rw [ready_cnw h]
  unfold rdp
  rw [Bool.eq_iff_iff]
  simp only [Bool.and_eq_true, decide_eq_true_eq, Bool.not_eq_true', ← Bool.not_eq_true, List.contains_iff_mem, List.mem_append, not_or]
  constructor
  · rintro ⟨h1, h2, h3⟩
    exact ⟨by omega, h3, h1⟩
  · rintro ⟨h1, h2, h3⟩
    exact ⟨h3, by omega, h2⟩
theorem rdp_done {m : Nat} {es : List (Int × Int)} (h : inR m es = true) (D : List Nat) : rl m (rdp D fun j => (cnw es D j : Int)) = toI (rdyL (gR es) m D) := by
  rw [rdyL_rl h]
  refine rl_congr fun j _ => ?_
  unfold rdp
  congr 1
  simp

/-! ### the rounds -/
def rds (R : Nat → Nat → Bool) (N w k : Nat) : List (List Int) := (List.range k).map fun i => toI (rnow R N w (gdn R N w i))
theorem rds_len (R : Nat → Nat → Bool) (N w k : Nat) : (rds R N w k).length = k := by unfold rds; simp
theorem rds_snoc (R : Nat → Nat → Bool) (N w k : Nat) : rds R N w (k + 1) = rds R N w k ++ [toI (rnow R N w (gdn R N w k))] := by
  unfold rds
  rw [List.range_succ, List.map_append]
  rfl
theorem rds_at {R : Nat → Nat → Bool} {N w k i : Nat} (h : i < k) : (rds R N w k).getD i [] = toI (rnow R N w (gdn R N w i)) := by
  unfold rds
  simp [List.getD, h]
/-- what greedy.Rounds answers -/
def rndE (N : Int) (es : List (Int × Int)) (wk : Int) : Int := if errn N es ≠ 0 then errn N es else if 1 ≤ wk ∧ wk ≤ 16 then 0 else 2
def rndL (N : Int) (es : List (Int × Int)) (wk : Int) : List (List Int) := if rndE N es wk = 0 then rds (gR es) N.toNat wk.toNat (grn (gR es) N.toNat wk.toNat) else []
theorem rdyL_nil {R : Nat → Nat → Bool} {N w k : Nat} (hw : 1 ≤ w) (hc : ∀ x, ¬ Path R x x) (hk : ∀ j, j < k → (gdn R N w j).length < N) : rdyL R N (gdn R N w k) = [] ↔ k = grn R N w := by
  constructor
  · intro h
    refine grn_uniq hw hc ?_ hk
    false_or_by_contra
    rename_i hl
    have := rnow_pos hw hc (R := R) (N := N) (d := gdn R N w k) (by omega)
    unfold rnow at this
    rw [h] at this
    simp at this
  · rintro rfl
    have h1 := (grn_spec hw hc (R := R) (N := N)).1
    refine List.eq_nil_iff_forall_not_mem.2 fun x hx => ?_
    obtain ⟨h2, h3⟩ := mem_rdyL.1 hx
    exact (ready_iff.1 h3).1 ((gdn_good R N w _).all (by omega) h2)
end Go.Proofs.YtipihchlhkjdjaaDoor

namespace Go.Proofs.YtipihchlhkjdjaaDoor
open Go.RowKit Go.Shelf
set_option maxRecDepth 100000

attribute [local go_sem] Oper.semAt_some

/-- the union of those of the sets whose numbers L tells -/
def unionL (xss : List (List Nat)) (L : List Nat) : List Nat := L.foldl (fun a n => mrg orN a (st xss n)) []
theorem unionL_snoc (xss : List (List Nat)) (L : List Nat) (n : Nat) : unionL xss (L ++ [n]) = mrg orN (unionL xss L) (st xss n) := by unfold unionL; rw [List.foldl_append]; rfl
theorem unionL_len (xss : List (List Nat)) (L : List Nat) (h : ∀ n, n ∈ L → (st xss n).length ≤ 1024) : (unionL xss L).length ≤ 1024 := by
  have : ∀ (L : List Nat) (a : List Nat), a.length ≤ 1024 → (∀ n, n ∈ L → (st xss n).length ≤ 1024) → (L.foldl (fun a n => mrg orN a (st xss n)) a).length ≤ 1024 := by
    intro L
    induction L with
    | nil => intro a ha _; exact ha
    | cons x L ih =>
      intro a ha h
      refine ih _ ?_ fun n hn => h n (List.mem_cons_of_mem _ hn)
      dsimp only
      have := mrg_le orN a (st xss x)
      have := h x List.mem_cons_self
      omega
  exact this L [] (by simp) h
theorem unionL_ws (xss : List (List Nat)) (L : List Nat) (h : ∀ n, n ∈ L → Ws (st xss n)) : Ws (unionL xss L) := by
  have : ∀ (L : List Nat) (a : List Nat), Ws a → (∀ n, n ∈ L → Ws (st xss n)) → Ws (L.foldl (fun a n => mrg orN a (st xss n)) a) := by
    intro L
    induction L with
    | nil => intro a ha _; exact ha
    | cons x L ih =>
      intro a ha h
      exact ih _ (ws_or ha (h x List.mem_cons_self)) fun n hn => h n (List.mem_cons_of_mem _ hn)
  exact this L [] ws_nil h
theorem unionL_tb (xss : List (List Nat)) (L : List Nat) (k j : Nat) : tb (unionL xss L) k j = L.any fun n => tb (st xss n) k j := by
  have : ∀ (L : List Nat) (a : List Nat), tb (L.foldl (fun a n => mrg orN a (st xss n)) a) k j = (tb a k j || L.any fun n => tb (st xss n) k j) := by
    intro L
    induction L with
    | nil => intro a; simp
    | cons x L ih =>
      intro a
      show tb (L.foldl (fun a n => mrg orN a (st xss n)) (mrg orN a (st xss x))) k j = _
      rw [ih, tb_or, List.any_cons, Bool.or_assoc]
  have h := this L []
  rw [tb_nil, Bool.false_or] at h
  exact h
theorem unionL_noTail (xss : List (List Nat)) (L : List Nat) : NoTail (unionL xss L) := by
  rcases List.eq_nil_or_concat L with rfl | ⟨L', x, rfl⟩
  · exact .inl rfl
  · rw [List.concat_eq_append, unionL_snoc]; exact mrg_noTail _ _ _

theorem rdU_empty (w : World) (B : Nat) : RdU w B none [] := ⟨fun k => by simp [wd], by simp, fun h => by simp at h⟩

set_option maxHeartbeats 1000000 in
theorem union_any (A A2 : Option Addr) (c c2 m : Nat) (xss : List (List Nat)) (hl : xss.length = m) (xs : List Nat) (w : World) (hx : RdUU w w.heap.size A xss) (hs : RdU w w.heap.size A2 xs)
    (hbits : ∀ j, j ∈ mem xs → j < m) (hroom : ∀ k, k < m → (st xss k).length ≤ 1024) (hsl : xs.length ≤ 1024) (hT : Tab w) :
    Calls Tryd.prog 56 #[.slice A m c, .slice A2 xs.length c2] w fun e w' => ∃ A1 c1, e = .returned (.slice A1 (unionL xss (mem xs)).length c1) ∧ RdU w' w'.heap.size A1 (unionL xss (mem xs)) ∧ Below w.heap.size w w' := by
  go_enter Tryd.func56, Tryd.ntmps56
  go_wp2_with fail
  refine (list_any A2 c2 xs _ hs (by omega) hT).mono ?_
  rintro e w1 ⟨A3, c3, rfl, hr, hb1⟩
  rw [show alist xs (64 * xs.length) = toI (mem xs) from rfl] at hr ⊢
  obtain ⟨L, hL⟩ : ∃ L, L = mem xs := ⟨_, rfl⟩
  rw [← hL] at hr hbits ⊢
  have hLl := toI_len L
  have hml : L.length ≤ 65536 := by rw [hL]; exact mem_len xs hsl
  have HL := Lib.hid hL
  have HLl := Lib.hid hLl
  rw [hLl]
  clear hL hLl hs
  have hx1 := hx.step hb1
  clear hx
  go_wp2_with fail
  go_loopw [5, 11] (fun v i wr => ∃ (t : Nat) (A4 : Option Addr) (c4 : Nat), t ≤ L.length ∧ i = .int .i64 t ∧ v = .slice A4 (unionL xss (L.take t)).length c4 ∧ RdU wr wr.heap.size A4 (unionL xss (L.take t)) ∧ Below w1.heap.size w1 wr) (fun _ i _ => L.length - (intOf i).toNat)
  case atStart => exact ⟨0, none, 0, Nat.zero_le _, rfl, rfl, rdU_empty _ _, Below.refl _ _⟩
  case round =>
    obtain ⟨t, A4, c4, ht, rfl, rfl, hu, hbr⟩ := hrel
    by_cases htl : t < L.length
    · obtain ⟨y, hy1, hy2⟩ := zd_toI L t htl
      have hym : y < m := hbits y (by obtain ⟨h1, h2⟩ := List.getElem?_eq_some_iff.1 hy2; rw [← h2]; exact List.getElem_mem h1)
      obtain ⟨b, off, rfl, hb, hc⟩ := hr.rd (by rw [HLl.out]; omega)
      have hc1 := (hbr.cell (p := ⟨b, off + t, none⟩) hb).trans (hc t (by rw [HLl.out]; omega))
      dsimp only at hc1
      rw [hy1] at hc1
      obtain ⟨b2, off2, A5, c5, rfl, hb2, hc2, hs5⟩ := hx1.at_ (k := y) (by omega)
      have hc2' := (hbr.cell (p := ⟨b2, off2 + y, none⟩) hb2).trans hc2
      have hs6 := (hs5.below hbr).more hbr.size
      have hul : (unionL xss (L.take t)).length ≤ 1024 := unionL_len xss _ fun n hn => hroom n (hbits n (List.mem_of_mem_take hn))
      have hsl5 := hroom y hym
      have HT := Lib.hid (take_at L t y hy2)
      have hy0 : (0 : Int) ≤ (y : Int) := Int.natCast_nonneg _
      have hy3 : (y : Int) < (m : Int) := by omega
      clear hc hy1 hy2 hc2 hs5
      go_wp2_with fail
      refine (oporN_any A4 A5 c4 c5 _ _ _ hu hs6 (by omega) (by omega)).mono ?_
      rintro e w2 ⟨A6, c6, rfl, hr6, hb6⟩
      rw [← unionL_snoc, ← HT.out] at hr6 ⊢
      have hb7 := hbr.trans (hb6.mono hbr.size)
      clear hb6 hbr hu hs6
      go_wp2
      go_roundw
      case rel => exact ⟨t + 1, A6, c6, by omega, by go_num, rfl, hr6, hb7⟩
      case measure => simp [intOf]; omega
    · obtain rfl : t = L.length := by omega
      rw [List.take_length] at hu ⊢
      go_wp2
      go_ret
      refine ⟨A4, c4, ?_, ?_, hb1.trans (hbr.mono hb1.size)⟩
      · rw [← HL.out]; rfl
      · rw [← HL.out]; exact hu

/-- a slice of numbers whose block p names -/
structure RdNp (w : World) (p : Nat → Prop) (A : Option Addr) (o : List Nat) : Prop where
  room : o.length ≤ 1048576
  rd : 0 < o.length → ∃ b off, A = some ⟨b, off, none⟩ ∧ p b ∧ ∀ (k x : Nat), o[k]? = some x → w.cell? ⟨b, off + k, none⟩ = some (.int .i64 (x : Int))
theorem RdNp.keeps {w w' : World} {p q : Nat → Prop} {A : Option Addr} {o : List Nat} (h : RdNp w p A o) (hk : Keeps q w w') (hq : ∀ b, p b → q b) : RdNp w' p A o := ⟨h.room, fun hn => by
  obtain ⟨b, off, hA, hp, hc⟩ := h.rd hn
  have hlt : b < w.heap.size := World.block_lt_of_cell? w _ (hc 0 o[0] (by simp [hn]))
  exact ⟨b, off, hA, hp, fun k x hx => (World.cell?_of_block (hk.block b hlt (hq b hp))).trans (hc k x hx)⟩⟩
theorem own_rdNp {w : World} {base : Nat} {e : TypeId} {v : Value} {o : List Nat} (h : w.ownsRow base e 1 v (toI o).length (iVals (toI o))) (hr : o.length ≤ 1048576) : ∃ A c, v = .slice A o.length c ∧ RdNp w (fun b => base ≤ b ∧ b < w.heap.size) A o := by
  rw [toI_len] at h
  obtain ⟨A, c, rfl⟩ := own_any h
  refine ⟨A, c, rfl, hr, fun hn => ?_⟩
  obtain ⟨g, cap, hv, hb, hg⟩ := own_shape h hn
  injection hv with hA _ hc
  subst hA
  subst hc
  refine ⟨g, 0, rfl, ⟨hb, hg⟩, fun k x hx => ?_⟩
  obtain ⟨hk, hkx⟩ := List.getElem?_eq_some_iff.1 hx
  rw [Nat.zero_add, h.cellAt k (by omega), iVals_at _ _ (by rw [toI_len]; exact hk)]
  obtain ⟨y, hy1, hy2⟩ := zd_toI o k hk
  rw [hx] at hy2
  injection hy2 with hy2
  rw [hy1, hy2]

/-- a place and what stands there -/
abbrev Bk (L m : Nat) := { p : Nat × Nat // p.1 < L ∧ p.2 < m }

theorem backward_in (n : Nat) (a : Option Addr) (len cap : Nat) (w : World) :
    CallsIn Fence.wide n Tryd.prog 54 #[.slice a len cap] w fun e w' => e = .returned (.func (.func 66) #[] #[.pointer (some ⟨w.heap.size, 0, none⟩)]) ∧ w' = w.alloc (.cells #[.slice a len cap] 34) := by
  refine callsIn_of_wp Tryd.func54 rfl trivial ?_ rfl
  simp only [Tryd.ntmps54, List.size_toArray, List.length_cons, List.length_nil, Nat.reduceAdd, Nat.reduceSub, Array.replicate_succ, Array.replicate_zero, List.push_toArray, List.append_toArray, List.nil_append, List.cons_append]
  gi_wp2
  go_ret
  exact ⟨rfl, rfl⟩

set_option maxHeartbeats 1000000 in
theorem backward1_in (n : Nat) (hn : 2 ≤ n) (m Bs c : Nat) (p : Nat → Prop) (A : Option Addr) (o : List Nat) (hom : ∀ x, x ∈ o → x < m) (w : World) (hx : RdNp w p A o) (hpl : ∀ b, p b → b < w.heap.size)
    (hc : w.cell? ⟨Bs, 0, none⟩ = some (.slice A o.length c)) (hBs : Bs < w.heap.size) :
    SeqO Fence.wide n Tryd.prog 66 #[.pointer (some ⟨Bs, 0, none⟩)] (fun x : Bk o.length m => #[Value.int .i64 (x.1.1 : Int), .int .i64 (x.1.2 : Int)]) (fun b => p b ∨ b = Bs)
      (fun ys => ys.length = o.length) (fun _ => True) (fun pre x => pre.length < o.length ∧ x.1.1 + pre.length + 1 = o.length ∧ o[x.1.1]? = some x.1.2) w := by
  have h1 : 1 ≤ n := by omega
  intro l J Jx O W hkW hO hJ hJx hY h0
  have hF : ∀ k, (p k ∨ k = Bs) → k < W.heap.size := fun k hk => by
    have := hkW.size
    rcases hk with hk | hk
    · have := hpl k hk; omega
    · omega
  have hcW : W.cell? ⟨Bs, 0, none⟩ = some (.slice A o.length c) := (World.cell?_of_block (hkW.block Bs hBs (.inr rfl))).trans hc
  have hxW := hx.keeps hkW (fun b hb => .inl hb)
  have hroom := hx.room
  clear hx hc hkW
  refine callsIn_of_wp Tryd.func66 rfl trivial ?_ rfl
  simp only [Tryd.ntmps66, List.size_toArray, List.length_cons, List.length_nil, Nat.reduceAdd, Nat.reduceSub, Array.replicate_succ, Array.replicate_zero, List.push_toArray, List.append_toArray, List.nil_append, List.cons_append]
  gi_wp2
  gi_loopw [3] (fun i wr => ∃ (t : Nat) (ys : List (Bk o.length m)) (O2 : Nat → Prop), t ≤ o.length ∧ i = .int .i64 ((o.length : Int) - 1 - t) ∧ ys.length = t ∧ J ys O2 wr ∧ ItInv (fun b => p b ∨ b = Bs) O W O2 wr) (fun i _ => (intOf i + 1).toNat)
  case atStart => exact ⟨0, [], O, Nat.zero_le _, by simp, rfl, h0, ItInv.start hO⟩
  case round =>
    obtain ⟨t, ys, O2, ht, rfl, hyl, hJ2, hI2⟩ := hrel
    have hcB : wr.cell? ⟨Bs, 0, none⟩ = some (.slice A o.length c) := (World.cell?_of_block (hI2.keeps.block Bs (hF Bs (.inr rfl)) (.inr rfl))).trans hcW
    by_cases htl : t < o.length
    · obtain ⟨i, hi⟩ : ∃ i : Nat, i + t + 1 = o.length := ⟨o.length - 1 - t, by omega⟩
      have hil : i < o.length := by omega
      have e1 : (o.length : Int) - 1 - t = (i : Int) := by omega
      obtain ⟨b, off, rfl, hb, hcell⟩ := (hxW.keeps hI2.keeps (fun b hb => .inl hb)).rd (by omega)
      have hoi : o[i]? = some o[i] := by simp [hil]
      obtain ⟨x, hxe⟩ : ∃ x, x = o[i] := ⟨_, rfl⟩
      rw [← hxe] at hoi
      have hxm : x < m := by rw [hxe]; exact hom _ (List.getElem_mem hil)
      have hci := hcell i x hoi
      rw [e1]
      clear e1 hcell hxe
      obtain ⟨fn, tmps, assign, body, hy, hR⟩ := hY ys ⟨(i, x), hil, hxm⟩ O2 wr hJ2 ⟨by omega, by show i + ys.length + 1 = _; omega, hoi⟩
      have hi0 : (0 : Int) ≤ (i : Int) := Int.natCast_nonneg _
      have hi1 : (i : Int) < (o.length : Int) := by omega
      have HYL := Lib.hid hyl
      have HI := Lib.hid hi
      clear hyl hi
      gi_wp2
      refine hR.mono ?_
      rintro e W3 ⟨O3, hs3, (⟨rfl, hJ3⟩ | ⟨rfl, hJx3⟩)⟩
      · have hI3 := hI2.step hO hF hs3
        have e2 : (o.length : Int) - 1 - ((t + 1 : Nat) : Int) = (i : Int) - 1 := by have := HI.out; omega
        gi_wp2
        go_roundw
        case rel => exact ⟨t + 1, _, O3, by omega, by rw [e2], by rw [List.length_append, HYL.out]; simp, hJ3, hI3⟩
        case measure => first | (simp [intOf]; done) | (simp [intOf]; omega)
      · gi_wp2
        refine bodyPost_ret (results_none rfl _ _ _) rfl ?_
        exact ⟨⟨_, rfl⟩, .inr ⟨_, _, trivial, hJx3⟩⟩
    · obtain rfl : t = o.length := by omega
      have e1 : (o.length : Int) - 1 - (o.length : Int) = -1 := by omega
      rw [e1]
      gi_wp2
      first
        | go_end0
        | refine bodyPost_ret (results_none rfl _ _ _) rfl ?_
      exact ⟨⟨_, rfl⟩, .inl ⟨ys, O2, hyl, hJ2⟩⟩
end Go.Proofs.YtipihchlhkjdjaaDoor

namespace Go.Proofs.YtipihchlhkjdjaaDoor

/-- the set of the nodes that follow n -/
def beh (m : Nat) (es : List (Int × Int)) (n : Nat) : List Nat := ofS (toI ((List.range m).filter (fw (gR es) m n)))
theorem mem_toI (L : List Nat) (n : Nat) : (n : Int) ∈ toI L ↔ n ∈ L := by
  unfold toI
  rw [List.mem_map]
  constructor
  · rintro ⟨k, hk, e⟩
    have : k = n := by omega
    exact this ▸ hk
  · intro h
    exact ⟨n, h, rfl⟩
theorem fw_lt {m : Nat} {es : List (Int × Int)} (h : inR m es = true) {i j : Nat} (hf : fw (gR es) m i j = true) : i < m ∧ j < m := by
  have p := (fw_iff (gR_lt h) i j).1 hf
  exact ⟨p.lt1 (gR_lt h), p.lt2 (gR_lt h)⟩
theorem beh_bit {m : Nat} {es : List (Int × Int)} (h : inR m es = true) (n j : Nat) : bitB (beh m es n) j = fw (gR es) m n j := by
  unfold beh
  rw [ofS_bit, Bool.eq_iff_iff, decide_eq_true_iff, mem_alw, mem_toI, List.mem_filter, List.mem_range]
  constructor
  · exact fun hh => hh.1.2
  · intro hh
    have h1 := fw_lt h hh
    have h2 := okN_of h
    exact ⟨⟨h1.2, hh⟩, by omega⟩
theorem beh_len (m : Nat) (es : List (Int × Int)) (n : Nat) : (beh m es n).length ≤ 1024 := ofS_len _
theorem beh_ws (m : Nat) (es : List (Int × Int)) (n : Nat) : Ws (beh m es n) := ofS_wd _
theorem beh_noTail (m : Nat) (es : List (Int × Int)) (n : Nat) : NoTail (beh m es n) := ofS_noTail _
theorem tb_bit (xs : List Nat) (k j : Nat) (hj : j < 64) : tb xs k j = bitB xs (64 * k + j) := by
  rw [bitB_tb, show (64 * k + j) / 64 = k by omega, show (64 * k + j) % 64 = j by omega]
theorem eq_of_bitB {xs ys : List Nat} (hx : NoTail xs) (hy : NoTail ys) (lx : Ws xs) (ly : Ws ys) (h : ∀ n, bitB xs n = bitB ys n) : xs = ys :=
  same_sets hx hy lx ly fun k j hj => by rw [tb_bit _ _ _ hj, tb_bit _ _ _ hj, h]
theorem or_bit (xs ys : List Nat) (n : Nat) : bitB (mrg orN xs ys) n = (bitB xs n || bitB ys n) := by rw [bitB_tb, bitB_tb, bitB_tb, tb_or]
theorem less_bit (xs ys : List Nat) (hy : Ws ys) (n : Nat) : bitB (mrg lessN xs ys) n = (bitB xs n && !bitB ys n) := by rw [bitB_tb, bitB_tb, bitB_tb, tb_less _ _ hy _ _ (by omega)]
theorem union_bit (xss : List (List Nat)) (L : List Nat) (n : Nat) : bitB (unionL xss L) n = L.any fun x => bitB (st xss x) n := by
  rw [bitB_tb, unionL_tb]; rfl
theorem nxt_ws (es : List (Int × Int)) (n : Nat) : Ws (nxt es n) := ofS_wd _
theorem fw_next {m : Nat} {es : List (Int × Int)} (h : inR m es = true) (n j : Nat) : fw (gR es) m n j = true ↔ gR es n j = true ∨ ∃ c, gR es n c = true ∧ fw (gR es) m c j = true := by
  rw [fw_iff (gR_lt h)]
  constructor
  · intro p
    cases p with
    | one e => exact .inl e
    | step e p => exact .inr ⟨_, e, (fw_iff (gR_lt h) _ _).2 p⟩
  · rintro (e | ⟨c, e, hf⟩)
    · exact .one e
    · exact .step e ((fw_iff (gR_lt h) _ _).1 hf)
/-- what follows n: its successors, and what follows these -/
theorem beh_step {m : Nat} {es : List (Int × Int)} (h : inR m es = true) (n : Nat) (xss : List (List Nat)) (hx : ∀ c, gR es n c = true → st xss c = beh m es c) :
    mrg orN (nxt es n) (unionL xss (mem (nxt es n))) = beh m es n := by
  have hm : ∀ c, c ∈ mem (nxt es n) ↔ gR es n c = true := fun c => by rw [mem_iff, nxt_bit h]
  have hws : Ws (unionL xss (mem (nxt es n))) := unionL_ws _ _ fun c hc => by rw [hx c ((hm c).1 hc)]; exact beh_ws _ _ _
  refine eq_of_bitB (mrg_noTail _ _ _) (beh_noTail _ _ _) (ws_or (nxt_ws _ _) hws) (beh_ws _ _ _) fun j => ?_
  rw [or_bit, nxt_bit h, union_bit, beh_bit h, Bool.eq_iff_iff, fw_next h, Bool.or_eq_true, List.any_eq_true]
  constructor
  · rintro (e | ⟨c, hc, e⟩)
    · exact .inl e
    · rw [hx c ((hm c).1 hc), beh_bit h] at e
      exact .inr ⟨c, (hm c).1 hc, e⟩
  · rintro (e | ⟨c, hc, e⟩)
    · exact .inl e
    · refine .inr ⟨c, (hm c).2 hc, ?_⟩
      rw [hx c hc, beh_bit h]
      exact e
/-- the successors of the node at place i of the order stand behind it -/
theorem succ_behind {m : Nat} {es : List (Int × Int)} (h : inR m es = true) {o : List Nat} (hg : Good (gR es) m o) (hl : o.length = m) {i n c : Nat} (hi : o[i]? = some n) (hR : gR es n c = true) : c ∈ o.drop (i + 1) := by
  have hb := gR_lt h n c hR
  have hc : c ∈ o := hg.all (by omega) hb.2
  obtain ⟨k, hk, e⟩ := List.getElem_of_mem hc
  have hp := hg.pre k c (by rw [List.getElem?_eq_getElem hk, e]) n hb.1 hR
  obtain ⟨i', hi', e'⟩ := List.getElem_of_mem hp
  rw [List.getElem_take] at e'
  have hi2 : i' < k := by simp at hi'; omega
  obtain ⟨hil, hie⟩ := List.getElem?_eq_some_iff.1 hi
  have : i' = i := by
    false_or_by_contra
    rename_i hne
    have hnd := List.pairwise_iff_getElem.1 hg.nodup
    rcases Nat.lt_or_ge i' i with h1 | h1
    · exact hnd i' i (by omega) hil h1 (e'.trans hie.symm)
    · exact hnd i i' hil (by omega) (by omega) (hie.trans e'.symm)
  subst this
  rw [List.mem_iff_getElem]
  exact ⟨k - (i' + 1), by simp; omega, by rw [List.getElem_drop]; rw [← e]; congr 1; omega⟩
theorem drop_step {o : List Nat} {i n : Nat} (hi : o[i]? = some n) (x : Nat) : x ∈ o.drop i ↔ x = n ∨ x ∈ o.drop (i + 1) := by
  obtain ⟨hil, hie⟩ := List.getElem?_eq_some_iff.1 hi
  rw [List.drop_eq_getElem_cons hil, List.mem_cons, hie]
end Go.Proofs.YtipihchlhkjdjaaDoor
