/-
  Contract of forkwrightref.BSort: it answers what graph.Sort answers.
-/
import Derived.Test.YtaboafkpmgadmaaDoorGrAl
import Derived.Test.YtaboafkpmgadmaaDoorGrLawCl
import Derived.Test.YtaboafkpmgadmaaDoorBsPut
namespace Go.Proofs.YtaboafkpmgadmaaDoor
open Go.RowKit Go.Shelf
set_option maxRecDepth 100000

/-- may n come, by the first k edges? -/
def rdyB (es : List (Int × Int)) (zs : List Int) (n : Int) (k : Nat) : Bool := !decide (n ∈ zs) && (es.take k).all fun e => (e.2 != n) || decide (e.1 ∈ zs)
theorem rdyB_zero (es : List (Int × Int)) (zs : List Int) (n : Int) : rdyB es zs n 0 = !decide (n ∈ zs) := by unfold rdyB; simp
theorem rdyB_succ {es : List (Int × Int)} {zs : List Int} {n : Int} {k : Nat} (hk : k < es.length) {a b : Int} (he : ed es k = (a, b)) {p : Bool} (hp : rdyB es zs n k = p) : rdyB es zs n (k + 1) = (p && ((b != n) || decide (a ∈ zs))) := by
  rw [← hp]
  unfold rdyB
  rw [take_ed es k hk, List.all_append, he]
  simp [Bool.and_assoc]
theorem rdyB_full {m : Nat} {es : List (Int × Int)} (h : inR m es = true) (L : List Nat) (n : Nat) : rdyB es (toI L) n es.length = ready (gR es) m L n := by
  rw [Bool.eq_iff_iff, ready_iff]
  unfold rdyB
  rw [List.take_length, Bool.and_eq_true, List.all_eq_true]
  simp only [Bool.not_eq_true', decide_eq_false_iff_not, Bool.or_eq_true, bne_iff_ne, ne_eq, decide_eq_true_iff, mem_toI]
  constructor
  · rintro ⟨h1, h2⟩
    refine ⟨h1, fun p hp hg => ?_⟩
    rcases h2 _ (of_decide_eq_true hg) with h3 | h3
    · exact absurd rfl h3
    · exact (mem_toI _ _).1 h3
  · rintro ⟨h1, h2⟩
    refine ⟨h1, fun e he => ?_⟩
    by_cases e2 : e.2 = (n : Int)
    · obtain ⟨a, b⟩ := e
      simp only at e2
      subst e2
      have h3 := edge_in h he
      obtain ⟨p, rfl⟩ : ∃ p : Nat, a = (p : Int) := ⟨a.toNat, by omega⟩
      exact .inr ((mem_toI _ _).2 (h2 p (by omega) (decide_eq_true he)))
    · exact .inl e2
theorem pick_ok {R : Nat → Nat → Bool} {m k : Nat} (hf : (topo R m).length = m) (hk : k < m) : ∃ x, pick R m (topoN R m k) = some x := by
  cases h : pick R m (topoN R m k) with
  | some x => exact ⟨x, rfl⟩
  | none =>
    have h1 := topo_at (by omega) h
    have h2 := topoN_len (R := R) (N := m) k
    rw [h1] at hf
    omega
theorem topoN_k {R : Nat → Nat → Bool} {m : Nat} (hf : (topo R m).length = m) (k : Nat) (hk : k ≤ m) : (topoN R m k).length = k :=
  topoN_eq k fun j hj => by
    obtain ⟨x, hx⟩ := pick_ok hf (k := j) (by omega)
    rw [hx]
    exact fun h => by cases h
theorem contains_len (A : Option Addr) (c len : Nat) (zs : List Int) (hl : zs.length = len) (v : Int) (w : World) (hx : RdI w w.heap.size A zs) :
    Calls Tryd.prog 26 #[.slice A len c, .int .i64 v] w fun e w' => e = .returned (.bool (decide (v ∈ zs))) ∧ w = w' := by
  subst hl; exact contains_b A c zs v w hx

set_option maxHeartbeats 4000000 in
theorem bsort_any (A : Option Addr) (c : Nat) (N : Int) (es : List (Int × Int)) (w : World) (he : RdE w w.heap.size A es) :
    Calls Tryd.prog 14 #[.agg #[.int .i64 N, .slice A es.length c]] w fun e w' => ∃ A1 c1, e = .returned (.tuple #[.slice A1 (ordG N es).length c1, .int .i64 (errn N es)]) ∧ RdI w' w'.heap.size A1 (ordG N es) ∧ Below w.heap.size w w' := by
  obtain ⟨j0, gi, gz0, gz1, gz2⟩ := info_parts Tryd.infoInt
  have hroom := he.room
  go_enter Tryd.func14, Tryd.ntmps14
  go_wp2_with fail
  have g1 := GB.new w 24 N (.slice A es.length c)
  have hB := below_alloc w (.cells #[.int .i64 N, .slice A es.length c] 24)
  obtain ⟨w1, hw1⟩ : ∃ w1, w1 = w.alloc (.cells #[.int .i64 N, .slice A es.length c] 24) := ⟨_, rfl⟩
  rw [← hw1] at g1 hB ⊢
  have hs := hB.size
  have r1 := he.step hB
  clear hw1 he
  refine (bwrong_any A c N es _ r1).mono ?_
  rintro e w2 ⟨rfl, hb⟩
  replace g1 := g1.step hb
  replace r1 := r1.step hb
  replace hB := below_step hB hs hb
  replace hs := hB.size
  clear hb
  have n1 := g1.n
  have e1 := g1.e
  by_cases hE : errn N es = 0
  · obtain ⟨m, rfl, hin, hfull⟩ := errn_split hE
    have hm := okN_of hin
    have hm2 : m ≤ 200 := by omega
    have e3 : ordG m es = toI (ordr m es) := by unfold ordG; rw [if_pos hE, Int.toNat_natCast]
    have E3 := Lib.hid e3
    have HIN := Lib.hid hin
    have HF := Lib.hid hfull
    have HE := Lib.hid hE
    rw [hE]
    clear e3 hE hin hfull hm n1 e1
    go_wp2_with fail
    go_loopw [5] (fun v wr => ∃ k : Nat, k ≤ m ∧ wr.ownsRow w2.heap.size 3 1 v (toI (topoN (gR es) m k)).length (iVals (toI (topoN (gR es) m k))) ∧ Below w2.heap.size w2 wr) (fun v _ => m - lenOf v)
    case atStart => exact ⟨0, Nat.zero_le _, World.ownsRow_nil _ _ _ _, Below.refl _ _⟩
    case round =>
      obtain ⟨k, hk, hown, hb⟩ := hrel
      have hsz := hb.size
      have hl := topoN_k HF.out k hk
      have hgood := good_topoN (gR es) m k
      have hbd := zd_toI_bd (topoN (gR es) m k) m hgood.lt
      obtain ⟨A3, c3, hv, rI⟩ := own_rdI hown (fun k => by have := hbd k; omega) (fun k => by have := hbd k; omega) (by rw [toI_len]; omega)
      have hlen : (toI (topoN (gR es) m k)).length = k := by rw [toI_len]; exact hl
      rw [hlen] at hv
      subst hv
      have HL := Lib.hid hlen
      have G := g1.step hb
      have R := r1.step hb
      have gn := G.n
      clear hl hgood hbd
      by_cases hlt : k < m
      · obtain ⟨x, hx⟩ := pick_ok HF.out hlt
        have HX := Lib.hid hx
        obtain ⟨hxm, hrx, hmin⟩ := find_range hx
        have HRX := Lib.hid hrx
        have HM := Lib.hid hmin
        clear hx hrx hmin hlen
        obtain ⟨zs, hzs⟩ : ∃ zs, zs = toI (topoN (gR es) m k) := ⟨_, rfl⟩
        rw [← hzs] at hown rI HL
        have HZ := Lib.hid hzs
        clear hzs
        go_wp2_with fail
        clear gn
        obtain ⟨wo, rfl⟩ : ∃ wo : World, wo = wr := ⟨_, rfl⟩
        go_loopw [5, 22] (fun v i wr2 => ∃ n : Nat, n ≤ x ∧ v = .slice A3 k c3 ∧ i = .int .i64 n ∧ Below wo.heap.size wo wr2) (fun _ i _ => m - (intOf i).toNat)
        case atStart => exact ⟨0, Nat.zero_le _, rfl, rfl, Below.refl _ _⟩
        case round =>
          obtain ⟨n, hn, rfl, rfl, hb2⟩ := hrel
          have hnm : n < m := by omega
          have G2 := G.step hb2
          have R2 := R.step hb2
          have I2 := rI.step hb2
          have ge := G2.e
          go_wp2_with (refine (contains_len A3 c3 k zs HL.out n _ I2).mono ?_; rintro e w' ⟨rfl, rfl⟩)
          clear ge
          obtain ⟨wi, rfl⟩ : ∃ wi : World, wi = wr := ⟨_, rfl⟩
          go_loopw [7, 32] (fun v i wr3 => ∃ t : Nat, t ≤ es.length ∧ i = .int .i64 t ∧ v = .bool (rdyB es zs n t) ∧ Below wi.heap.size wi wr3) (fun _ i _ => es.length - (intOf i).toNat)
          case atStart => exact ⟨0, Nat.zero_le _, rfl, by rw [rdyB_zero], Below.refl _ _⟩
          case round =>
            obtain ⟨t, ht, rfl, rfl, hb3⟩ := hrel
            by_cases htl : t < es.length
            · have R3 := R2.step hb3
              obtain ⟨b, off, rfl, _, hc⟩ := R3.rd (by omega)
              obtain ⟨ha1, ha2⟩ := hc t htl
              clear hc
              obtain ⟨p, hp⟩ : ∃ p, rdyB es zs n t = p := ⟨_, rfl⟩
              rw [hp]
              obtain ⟨a, ha⟩ : ∃ a, (ed es t).1 = a := ⟨_, rfl⟩
              obtain ⟨d, hd⟩ : ∃ d, (ed es t).2 = d := ⟨_, rfl⟩
              have HS := Lib.hid (rdyB_succ htl (a := a) (b := d) (by rw [← ha, ← hd]) hp)
              rw [ha] at ha1
              rw [hd] at ha2
              have hE := EBox.new wr a d 38
              have hxx := hE.x
              have hyy := hE.y
              have hb4 := below_alloc wr (.cells #[.int .i64 a, .int .i64 d] 38)
              have I3 := (I2.step hb3).step hb4
              have hB4 := hb3.trans (hb4.mono hb3.size)
              clear hp ha hd hb4 hb3 R3 R2 R G G2 g1 r1 hown hE I2 rI
              by_cases hdn : d = (n : Int)
              · subst hdn
                have hdb : ((n : Int) != (n : Int)) = false := by simp
                cases p with
                | false =>
                  go_wp2_with fail
                  go_roundw
                  case rel => exact ⟨t + 1, by omega, by go_num, by rw [HS.out]; rfl, hB4⟩
                  case measure => simp [intOf]; omega
                | true =>
                  go_wp2_with (refine (contains_len A3 c3 k zs HL.out a _ I3).mono ?_; rintro e w' ⟨rfl, rfl⟩)
                  go_roundw
                  case rel => exact ⟨t + 1, by omega, by go_num, by rw [HS.out, hdb]; rfl, hB4⟩
                  case measure => simp [intOf]; omega
              · have hdb : (d != (n : Int)) = true := by simpa using hdn
                cases p with
                | false =>
                  go_wp2_with fail
                  go_roundw
                  case rel => exact ⟨t + 1, by omega, by go_num, by rw [HS.out]; rfl, hB4⟩
                  case measure => simp [intOf]; omega
                | true =>
                  go_wp2_with fail
                  go_roundw
                  case rel => exact ⟨t + 1, by omega, by go_num, by rw [HS.out, hdb]; rfl, hB4⟩
                  case measure => simp [intOf]; omega
            · obtain rfl : t = es.length := by omega
              have hfin : rdyB es zs n es.length = ready (gR es) m (topoN (gR es) m k) n := by rw [HZ.out]; exact rdyB_full HIN.out _ _
              rw [hfin]
              clear hfin
              have hB3 := hb2.trans (hb3.mono hb2.size)
              by_cases hnx : n = x
              · subst hnx
                rw [HRX.out]
                have hBw := hb.trans (hB3.mono hsz)
                have hown3 : wr.ownsRow w2.heap.size 3 1 (.slice A3 k c3) k (iVals zs) := ownsRow_keeps (by rw [HL.out] at hown; exact hown) (Keeps.of_below (p := fun b => b < wo.heap.size) hB3 fun _ _ h => h) (own_block_lt hown)
                have hsw := hBw.size
                have h3 : k + 1 ≤ maxLen := by unfold maxLen; omega
                have h4 : (k + 1) * 8 ≤ 140737488355328 := by omega
                have h5 : w2.heap.size ≤ (wr.alloc (.cells #[.int .i64 (n : Int)] 3)).heap.size := by simp; omega
                clear G G2 R R2 g1 r1 I2 rI hown hb hb2 hb3 hB3
                go_wp2_with (at_builtin; refine wpList_append_own _ rfl _ _ 25 rfl w2.heap.size 3 j0 (.int .i64 0) 1 8 Tryd.underlying25 gi gz0 gz1 gz2 rfl (by decide) _ _ _ rfl (hown3.alloc _) ⟨wr.heap.size, 0, none⟩ 1 1 [.int .i64 (n : Int)] rfl rfl (cell_one_new _ _ _) (by simp [Value.oneCell']) h3 h4 h5 ?_; intro v' w9 hown' hgrow _)
                have hB9 := below_app hBw hsw hown3 hgrow
                have hy : zs ++ [(n : Int)] = toI (topoN (gR es) m (k + 1)) := by rw [topoN_some HX.out, toI_snoc, ← HZ.out]
                have hy2 : k + 1 = (toI (topoN (gR es) m (k + 1))).length := by rw [← hy]; simp [HL.out]
                have hown2 : w9.ownsRow w2.heap.size 3 1 v' (toI (topoN (gR es) m (k + 1))).length (iVals (toI (topoN (gR es) m (k + 1)))) := by rw [← hy2, ← hy, ← iVals_snoc]; exact hown'
                have hlv : lenOf v' = k + 1 := by
                  obtain ⟨A9, c9, rfl⟩ := own_any hown2
                  rw [← hy2]
                  rfl
                go_roundw
                case rel => exact ⟨k + 1, by omega, hown2, hB9⟩
                case measure => rw [hlv]; simp [lenOf]; omega
              · rw [HM.out n (by omega)]
                clear G G2 R R2 g1 r1 I2 rI hown
                go_wp2_with fail
                go_roundw
                case rel => exact ⟨n + 1, by omega, rfl, by go_num, hB3⟩
                case measure => simp [intOf]; omega
      · obtain rfl : k = m := by omega
        go_wp2_with fail
        go_ret2
        have e4 : ordG k es = toI (topoN (gR es) k k) := E3.out
        rw [e4, hlen, HE.out]
        exact ⟨A3, c3, rfl, rI, hB.trans (hb.mono hs)⟩
  · obtain ⟨E, hEE⟩ : ∃ E, E = errn N es := ⟨_, rfl⟩
    have hb0 : (E != 0) = true := by rw [hEE]; simpa using hE
    have hd : ordG N es = [] := by unfold ordG; rw [if_neg hE]
    have HD := Lib.hid hd
    have HEE := Lib.hid hEE
    rw [← hEE]
    clear hE hEE hd
    go_wp2_with fail
    go_ret2
    rw [HD.out, ← HEE.out]
    exact ⟨none, 0, rfl, ⟨fun k => by simp [zd], fun k => by simp [zd], by simp, fun h => by simp at h⟩, hB⟩
end Go.Proofs.YtaboafkpmgadmaaDoor
