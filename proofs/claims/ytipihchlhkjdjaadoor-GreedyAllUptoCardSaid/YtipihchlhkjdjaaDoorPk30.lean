/-
  GreedyAll: the round in which each node is done, and the map that holds it.
  GreedyAll: each node is done once, none before what leads to it, and no more at once than there are workers.
-/
import Derived.Test.YtipihchlhkjdjaaDoorPk19
import Derived.Maps.OwnOps
import Derived.Maps.OwnSet
import Derived.Maps.Views
import Derived.Test.YtipihchlhkjdjaaDoorPk17
import Derived.Test.YtipihchlhkjdjaaDoorPk15
namespace Go.Proofs.YtipihchlhkjdjaaDoor
open Go.RowKit Go.Maps
set_option maxRecDepth 100000

/-- one more than the round in which x is done; 0 where it is not done -/
def rkN (R : Nat → Nat → Bool) (N w : Nat) : Nat → Nat → Nat
  | 0, _ => 0
  | k + 1, x => if x ∈ rnow R N w (gdn R N w k) then k + 1 else rkN R N w k x
section
variable {R : Nat → Nat → Bool} {N w : Nat}
theorem rkN_le : ∀ k x, rkN R N w k x ≤ k
  | 0, _ => Nat.le_refl _
  | k + 1, x => by
    unfold rkN
    split
    · exact Nat.le_refl _
    · exact Nat.le_trans (rkN_le k x) (Nat.le_succ _)
theorem rkN_zero {x : Nat} : ∀ k, x ∉ gdn R N w k → rkN R N w k x = 0
  | 0, _ => rfl
  | k + 1, h => by
    have h2 : ¬ (x ∈ gdn R N w k ++ rnow R N w (gdn R N w k)) := h
    rw [List.mem_append, not_or] at h2
    unfold rkN
    rw [if_neg h2.2]
    exact rkN_zero k h2.1
theorem rkN_keep {k x : Nat} (h : x ∈ gdn R N w k) : rkN R N w (k + 1) x = rkN R N w k x := if_neg fun hx => (ready_iff.1 (rnow_sub hx).2).1 h
theorem rkN_edge (hR : ∀ i j, R i j = true → i < N ∧ j < N) {a b : Nat} (he : R a b = true) : ∀ r, b ∈ gdn R N w r → a ∈ gdn R N w r ∧ rkN R N w r a < rkN R N w r b
  | 0, h => by simp [gdn] at h
  | r + 1, h => by
    rcases List.mem_append.1 h with h | h
    · obtain ⟨h1, h2⟩ := rkN_edge hR he r h
      exact ⟨gdn_up h1, by rw [rkN_keep h, rkN_keep h1]; exact h2⟩
    · have h1 := (ready_iff.1 (rnow_sub h).2).2 a (hR a b he).1 he
      refine ⟨gdn_up h1, ?_⟩
      have h2 : rkN R N w (r + 1) b = r + 1 := if_pos h
      have h3 := rkN_le (R := R) (N := N) (w := w) r a
      rw [rkN_keep h1, h2]
      omega

/-- the map when the first j of round i are laid -/
structure RkM (R : Nat → Nat → Bool) (N w i j : Nat) (D : DataW Unit) : Prop where
  tidy : Tidy D
  val : ∀ x : Nat, D.atKey (.int .i64 (x : Int)) (.lit (.int .i64 0)) = .lit (.int .i64 (((if x ∈ (rnow R N w (gdn R N w i)).take j then i + 1 else rkN R N w i x : Nat)) : Int))
  has : ∀ x : Nat, Maps.has D (.int .i64 (x : Int)) = decide (x ∈ gdn R N w i ++ (rnow R N w (gdn R N w i)).take j)
  size : Maps.size D = (gdn R N w i).length + j
theorem RkM.start : RkM R N w 0 0 (.map []) := ⟨tidy_empty, fun _ => rfl, fun _ => by simp [gdn]; rfl, rfl⟩
theorem RkM.new {i j x : Nat} {D : DataW Unit} (h : RkM R N w i j D) (hj : j < (rnow R N w (gdn R N w i)).length) (hx : (rnow R N w (gdn R N w i))[j] = x) : x ∉ gdn R N w i ++ (rnow R N w (gdn R N w i)).take j ∧ D.atKey (.int .i64 (x : Int)) (.lit (.int .i64 0)) = .lit (.int .i64 ((0 : Nat) : Int)) := by
  have hm : x ∈ rnow R N w (gdn R N w i) := hx ▸ List.getElem_mem hj
  have h1 : x ∉ gdn R N w i := (ready_iff.1 (rnow_sub hm).2).1
  have h2 : x ∉ (rnow R N w (gdn R N w i)).take j := fun h2 => by
    have h3 := rnow_nodup R N w (gdn R N w i)
    rw [← List.take_append_drop j (rnow R N w (gdn R N w i)), List.nodup_append] at h3
    exact h3.2.2 x h2 x (by rw [List.drop_eq_getElem_cons hj, hx]; exact List.mem_cons_self ..) rfl
  refine ⟨fun h3 => (List.mem_append.1 h3).elim h1 h2, ?_⟩
  rw [h.val x, if_neg h2, rkN_zero _ h1]
theorem RkM.next {i j x : Nat} {D : DataW Unit} (h : RkM R N w i j D) (hj : j < (rnow R N w (gdn R N w i)).length) (hx : (rnow R N w (gdn R N w i))[j] = x) : RkM R N w i (j + 1) (D.put (.int .i64 (x : Int)) (.lit (.int .i64 ((i : Int) + 1)))) := by
  have hn := (h.new hj hx).1
  have ht : (rnow R N w (gdn R N w i)).take (j + 1) = (rnow R N w (gdn R N w i)).take j ++ [x] := by rw [List.take_succ_eq_append_getElem hj, hx]
  have hk : WideAt.IsKeyLit (.int .i64 (x : Int)) := by trivial
  have hne : ∀ y : Nat, y ≠ x → Lit.int .i64 (y : Int) ≠ Lit.int .i64 (x : Int) := fun y hy e => by
    injection e with _ e
    exact hy (by omega)
  refine ⟨h.tidy.put hk _, fun y => ?_, fun y => ?_, ?_⟩
  · by_cases e : y = x
    · subst e
      rw [atKey_put_same h.tidy.isMap hk, if_pos (by rw [ht]; simp)]
      simp
    · rw [atKey_put_other (hne y e), h.val y, ht]
      have : (y ∈ (rnow R N w (gdn R N w i)).take j ++ [x]) ↔ y ∈ (rnow R N w (gdn R N w i)).take j := by simp [e]
      simp only [this]
  · by_cases e : y = x
    · subst e
      rw [has_put_same h.tidy.isMap hk]
      symm
      exact decide_eq_true (by rw [ht]; simp)
    · rw [has_put_other (hne y e), h.has y, ht, ← List.append_assoc]
      simp [e]
  · rw [size_put h.tidy, h.has x, if_neg (by simpa using hn), h.size]
    omega
theorem RkM.round {i j : Nat} {D : DataW Unit} (h : RkM R N w i j D) (hj : j = (rnow R N w (gdn R N w i)).length) : RkM R N w (i + 1) 0 D := by
  subst hj
  refine ⟨h.tidy, fun x => ?_, fun x => ?_, ?_⟩
  · rw [h.val x, List.take_length]
    simp only [List.take_zero, List.not_mem_nil, if_false]
    rfl
  · rw [h.has x, List.take_length, List.take_zero, List.append_nil]
    rfl
  · rw [h.size, gdn_len_succ]
    rfl
theorem RkM.rank {i : Nat} {D : DataW Unit} (h : RkM R N w i 0 D) (x : Nat) : D.atKey (.int .i64 (x : Int)) (.lit (.int .i64 0)) = .lit (.int .i64 ((rkN R N w i x : Nat) : Int)) := by
  rw [h.val x]
  simp
end

theorem fgI_law : Keyed Tryd.prog 3 := int_keyed Tryd.underlying3
theorem fgI_zero (w : World) : (zeroValue 3).run Tryd.prog w = .ok (.int .i64 0) w := by kernel_rfl
theorem fgI_key (P : Program) (k : TypeId) (x : Int) (hk : P.underlying k = some (.int .i64)) (h : -9223372036854775808 ≤ x ∧ x ≤ 9223372036854775807) : keyOf P k (.int .i64 x) = some (.int .i64 x) :=
  keyOf_int_mk hk (WalkArith.wf_i64 (by omega))
theorem fgMap_step {H : Type} {P : Program} {k : TypeId} {R : Value → Option (DataW H × List MemPlace)} {w w' : World} {b n : Nat} {D : DataW H} (h : w.ownsMap P k R b n D) (hb : Below w.heap.size w w') : w'.ownsMap P k R b n D := by
  have hlt := h.lt
  obtain ⟨es, clock, h1, r⟩ := h
  exact ⟨es, clock, (hb.block b hlt).trans h1, r⟩
theorem fgLook {w : World} {b n : Nat} {D : DataW Unit} (h : w.ownsMap Tryd.prog 3 (plainElem Tryd.prog 3) b n D) {x : Int} {p : Nat} (hb : -9223372036854775808 ≤ x ∧ x ≤ 9223372036854775807) (hat : D.atKey (.int .i64 x) (.lit (.int .i64 0)) = .lit (.int .i64 (p : Int))) :
    (Instr.lookup 33 (.map (some b)) (.int .i64 x) false).run Tryd.prog w = .ok (.int .i64 (p : Int)) w := by
  obtain ⟨c, hrun, h1, _⟩ := h.lookup_int fgI_law Tryd.underlying33 Tryd.underlying3 (fgI_zero _) (fgI_key Tryd.prog 3 x Tryd.underlying3 hb)
  rw [hat] at h1
  injection h1 with h1
  injection h1 with _ h1
  rw [hrun, h1]
end Go.Proofs.YtipihchlhkjdjaaDoor

namespace Go.Proofs.YtipihchlhkjdjaaDoor
open Go.RowKit Go.Maps
set_option maxRecDepth 100000

set_option maxHeartbeats 4000000 in
theorem allLaw_any (A : Option Addr) (c : Nat) (N : Int) (es : List (Int × Int)) (wk : Int) (w : World) (he : RdE w w.heap.size A es) (_hl : es.length ≤ 1048576) (hT : Tab w) :
    Calls Tryd.prog 4 #[.agg #[.int .i64 N, .slice A es.length c], .int .i64 wk] w fun e w' => e = .returned (.bool true) ∧ Below w.heap.size w w' := by
  have hmm := @run_makeMap Tryd.prog
  go_enter Tryd.func4, Tryd.ntmps4
  go_wp2_with fail
  have g1 : GB 24 (w.alloc (.cells #[.int .i64 N, .slice A es.length c] 24)) w.heap.size N (.slice A es.length c) := GB.new w 24 N (.slice A es.length c)
  have hB := below_alloc w (.cells #[.int .i64 N, .slice A es.length c] 24)
  obtain ⟨w1, hw1⟩ : ∃ w1, w1 = w.alloc (.cells #[.int .i64 N, .slice A es.length c] 24) := ⟨_, rfl⟩
  rw [← hw1] at g1 hB ⊢
  have hs := hB.size
  replace he := he.step hB
  replace hT := hT.step hB
  clear hw1
  refine (alive6_any _ hT).mono ?_
  rintro e w2 ⟨rfl, hb⟩
  replace g1 := gb_step g1 hb
  replace he := he.step hb
  replace hT := hT.step hb
  replace hB := below_step hB hs hb
  replace hs := hB.size
  clear hb
  have n1 := g1.n
  have e1 := g1.e
  go_wp2_with fail
  clear n1 e1
  by_cases hE : rndE N es wk = 0
  · obtain ⟨m, wn, rfl, rfl, hw2, hw3, hm, hE2, hin, hfull, hL⟩ := rnd_ok hE
    obtain ⟨hgl, hglt, hrm⟩ := grn_spec hw2 (acyc hin hfull) (R := gR es) (N := m)
    have hpos : ∀ k, k < grn (gR es) m wn → 1 ≤ (rnow (gR es) m wn (gdn (gR es) m wn k)).length := fun k hk => rnow_pos hw2 (acyc hin hfull) (hglt k hk)
    obtain ⟨r, hr⟩ : ∃ r, r = grn (gR es) m wn := ⟨_, rfl⟩
    obtain ⟨zss, hz⟩ : ∃ zss, zss = rds (gR es) m wn r := ⟨_, rfl⟩
    have hzl : zss.length = r := by rw [hz, rds_len]
    rw [← hr] at hrm hL hgl hglt hpos
    have f1 := rounds_any A c m es wn w2 he hT
    rw [hL, hE, ← hz, hzl] at f1
    have HF1 := Lib.hid f1
    have HZ := Lib.hid hz
    have HZL := Lib.hid hzl
    have HIN := Lib.hid hin
    have HGL := Lib.hid hgl
    have HPOS := Lib.hid hpos
    have HDL : Hid (∀ k, (gdn (gR es) m wn k).length ≤ m) := Lib.hid fun k => (gdn_good _ _ _ k).len
    clear hE hE2 hin hfull hL hr hz hzl f1 hgl hglt hpos
    refine HF1.out.mono ?_
    rintro e w3 ⟨A3, c3, rfl, l3, hb⟩
    replace g1 := gb_step g1 hb
    replace he := he.step hb
    replace hB := below_step hB hs hb
    replace hs := hB.size
    clear hb HF1 hT
    have HB := Lib.hid hB
    have HS := Lib.hid hs
    clear hB hs
    go_wp2_with fail
    go_loopw [43] (fun i wr => ∃ (k : Nat) (D : DataW Unit), k ≤ r ∧ i = .int .i64 k ∧ wr.ownsMap Tryd.prog 3 (plainElem Tryd.prog 3) w3.heap.size (gdn (gR es) m wn k).length D ∧ RkM (gR es) m wn k 0 D ∧ Below w3.heap.size w3 wr) (fun i _ => r - (RowKit.intOf i).toNat)
    case atStart => exact ⟨0, .map [], Nat.zero_le _, rfl, World.ownsMap_made _ _ _ _, RkM.start, (Below.refl _ _).alloc (Nat.le_refl _) _⟩
    case round =>
      obtain ⟨k, D, hk, rfl, hown, hD, hbr⟩ := hrel
      by_cases hlt : k < r
      · obtain ⟨b, off, A4, c4, rfl, hbl, hc4, r4⟩ := l3.at_ (k := k) (by rw [HZL.out]; exact hlt)
        have hgz : zss.getD k [] = toI (rnow (gR es) m wn (gdn (gR es) m wn k)) := by rw [HZ.out]; exact rds_at hlt
        rw [hgz] at hc4 r4
        rw [toI_len] at hc4
        have hn1 := HPOS.out k hlt
        have hn2 := rnow_len (gR es) m wn (gdn (gR es) m wn k)
        obtain ⟨U, hU⟩ : ∃ U, U = rnow (gR es) m wn (gdn (gR es) m wn k) := ⟨_, rfl⟩
        rw [← hU] at hc4 r4 hn1 hn2
        obtain ⟨nl, hnl⟩ : ∃ nl, nl = U.length := ⟨_, rfl⟩
        rw [← hnl] at hc4 hn1 hn2
        obtain ⟨dl, hdl⟩ : ∃ dl, dl = (gdn (gR es) m wn k).length := ⟨_, rfl⟩
        have hdm := HDL.out k
        rw [← hdl] at hown hdm
        have hck := (hbr.cell (p := ⟨b, off + k, none⟩) hbl).trans hc4
        have t1 : ¬ ((wn : Int) < (nl : Int)) := by omega
        have t2 : ¬ ((nl : Int) = 0) := by omega
        have t3 : ((nl : Int) == 0) = false := beq_eq_false_iff_ne.2 t2
        have HU := Lib.hid hU
        have HNL := Lib.hid hnl
        have HDD := Lib.hid hdl
        clear hgz hc4 hU hnl hdl
        obtain ⟨wo, rfl⟩ : ∃ wo : World, wo = wr := ⟨_, rfl⟩
        go_wp2_with fail
        go_loopw [59] (fun i W => ∃ (q : Nat) (D2 : DataW Unit), q ≤ nl ∧ i = .int .i64 q ∧ W.ownsMap Tryd.prog 3 (plainElem Tryd.prog 3) w3.heap.size (dl + q) D2 ∧ RkM (gR es) m wn k q D2 ∧ Below w3.heap.size w3 W) (fun i _ => nl - (RowKit.intOf i).toNat)
        case atStart => exact ⟨0, D, Nat.zero_le _, rfl, hown, hD, hbr⟩
        case round =>
          obtain ⟨q, D2, hq, rfl, hown2, hD2, hbr2⟩ := hrel
          clear hown hD hck
          by_cases hqt : q < nl
          · obtain ⟨b2, off2, rfl, hb2, hcc⟩ := r4.rd (by rw [toI_len, ← HNL.out]; omega)
            have hqU : q < (rnow (gR es) m wn (gdn (gR es) m wn k)).length := by rw [← HU.out, ← HNL.out]; exact hqt
            obtain ⟨x, hx⟩ : ∃ x, (rnow (gR es) m wn (gdn (gR es) m wn k))[q] = x := ⟨_, rfl⟩
            have hzx : zd (toI U) q = (x : Int) := by rw [HU.out, ← hx]; unfold zd toI; simp [List.getD, hqU]
            have hcq := (hbr2.cell (p := ⟨b2, off2 + q, none⟩) hb2).trans (hcc q (by rw [toI_len, ← HNL.out]; exact hqt))
            dsimp only at hcq
            rw [hzx] at hcq
            have hxm : x < m := (rnow_sub (hx ▸ List.getElem_mem hqU)).1
            have hnew := (hD2.new hqU hx).2
            have hnx := hD2.next hqU hx
            have lx := fgLook hown2 (x := (x : Int)) (by omega) hnew
            have hkey := fgI_key Tryd.prog 3 (x : Int) Tryd.underlying3 (by omega)
            have gn := (gb_step g1 hbr2).n
            have h0 : (0 : Int) ≤ (x : Int) := by omega
            have h1 : ¬ ((x : Int) < 0) := by omega
            have h2 : (x : Int) < (m : Int) := by omega
            have h3 : ¬ ((m : Int) ≤ (x : Int)) := by omega
            have hkk : IntKind.i64.wrap ((k : Int) + 1) = (k : Int) + 1 := by rw [IntKind.wrap_i64]; omega
            have HNX := Lib.hid hnx
            have HBR := Lib.hid hbr2
            clear hcc hzx hx hqU hnew hnx hD2 hbr2
            go_wp2_with (first
              | (at_mapUpdate; refine wpList_mapUpdate_own _ rfl _ _ _ 33 rfl 3 3 fgI_law Tryd.underlying33 _ w3.heap.size (dl + q) _ rfl hown2 (by unfold maxLen; omega) _ _ _ rfl rfl hkey _ [] (plainElem_int Tryd.underlying3 (WalkArith.wf_i64 (by omega))) ?_; intro w5 hown5 hgrow5)
              | fail)
            go_roundw
            case rel => exact ⟨q + 1, _, by omega, by go_num, hown5, HNX.out, HBR.out.grown hgrow5 HBR.out.size (fun j hj => by cases hj; exact Nat.le_refl _)⟩
            case measure => simp [RowKit.intOf]; omega
          · obtain rfl : q = nl := by omega
            have hD3 := hD2.round (by rw [← HU.out, ← HNL.out])
            have hlen3 : dl + q = (gdn (gR es) m wn (k + 1)).length := by rw [gdn_len_succ, ← HU.out, ← HNL.out, ← HDD.out]
            rw [hlen3] at hown2
            clear hD2 hlen3
            go_wp2_with fail
            go_roundw
            case rel => exact ⟨k + 1, D2, by omega, by go_num, hown2, hD3, hbr2⟩
            case measure => simp [RowKit.intOf]; omega
      · obtain rfl : k = r := by omega
        have hrank : ∀ x : Nat, D.atKey (.int .i64 (x : Int)) (.lit (.int .i64 0)) = .lit (.int .i64 ((rkN (gR es) m wn k x : Nat) : Int)) := hD.rank
        have hsize : Maps.size D = m := by rw [hD.size, HGL.out]; rfl
        rw [HGL.out] at hown
        have hle : ∀ x, rkN (gR es) m wn k x ≤ k := rkN_le k
        have hedge : ∀ a b : Nat, gR es a b = true → rkN (gR es) m wn k a < rkN (gR es) m wn k b := fun a b hab => (rkN_edge (gR_lt HIN.out) hab k ((gdn_good _ _ _ k).all (by rw [HGL.out]; exact Nat.le_refl _) (gR_lt HIN.out a b hab).2)).2
        obtain ⟨wm, rfl⟩ : ∃ wm : World, wm = wr := ⟨_, rfl⟩
        have hgm := gb_step g1 hbr
        have hem := he.step hbr
        have e1 := hgm.e
        have hrE := hem.room
        have HRK := Lib.hid hrank
        have HLE := Lib.hid hle
        have HED := Lib.hid hedge
        clear hrank hle hedge hD
        go_wp2_with fail
        go_loopw [86] (fun i W => ∃ q : Nat, q ≤ es.length ∧ i = .int .i64 q ∧ Below wm.heap.size wm W) (fun i _ => es.length - (RowKit.intOf i).toNat)
        case atStart => exact ⟨0, Nat.zero_le _, rfl, Below.refl _ _⟩
        case round =>
          obtain ⟨q, hq, rfl, hbq⟩ := hrel
          have hown2 := fgMap_step hown hbq
          clear e1
          by_cases hqt : q < es.length
          · obtain ⟨b, off, rfl, hbb, hc⟩ := hem.rd (by omega)
            have hc1 := (hbq.cell (p := ⟨b, off + q * 2, none⟩) hbb).trans (hc q hqt).1
            have hc2 := (hbq.cell (p := ⟨b, off + q * 2 + 1, none⟩) hbb).trans (hc q hqt).2
            have hmem : ((ed es q).1, (ed es q).2) ∈ es := ed_mem es q hqt
            obtain ⟨z1, z2, z3, z4⟩ := edge_in HIN.out hmem
            obtain ⟨x, hx⟩ : ∃ x : Nat, (ed es q).1 = (x : Int) := ⟨(ed es q).1.toNat, by omega⟩
            obtain ⟨y, hy⟩ : ∃ y : Nat, (ed es q).2 = (y : Int) := ⟨(ed es q).2.toNat, by omega⟩
            have hgr : gR es x y = true := by unfold gR; rw [← hx, ← hy]; exact decide_eq_true hmem
            have hlt2 := HED.out x y hgr
            rw [hx] at hc1 z1 z2
            rw [hy] at hc2 z3 z4
            have hBn := below_alloc wr (.cells #[.int .i64 (x : Int), .int .i64 (y : Int)] 36)
            have hbq2 := hbq.trans (hBn.mono hbq.size)
            have ho2 := fgMap_step hown2 hBn
            have lx := fgLook ho2 (x := (x : Int)) (by omega) (HRK.out x)
            have ly := fgLook ho2 (x := (y : Int)) (by omega) (HRK.out y)
            have bx := HLE.out x
            have bY := HLE.out y
            obtain ⟨p1, hp1⟩ : ∃ p1, p1 = rkN (gR es) m wn k x := ⟨_, rfl⟩
            obtain ⟨p2, hp2⟩ : ∃ p2, p2 = rkN (gR es) m wn k y := ⟨_, rfl⟩
            rw [← hp1] at lx bx hlt2
            rw [← hp2] at ly bY hlt2
            have t1 : ¬ ((p2 : Int) ≤ (p1 : Int)) := by omega
            have HB2 := Lib.hid hbq2
            clear hc hmem hx hy hgr hBn ho2 hown hown2 hp1 hp2 hbq2 hgm hem l3 he g1
            go_wp2_with fail
            go_roundw
            case rel => exact ⟨q + 1, by omega, by go_num, HB2.out⟩
            case measure => simp [RowKit.intOf]; omega
          · obtain rfl : q = es.length := by omega
            have gn := (gb_step hgm hbq).n
            have hfin := HB.out.trans ((hbr.trans (hbq.mono hbr.size)).mono HS.out)
            have HFIN := Lib.hid hfin
            have tm : ((m : Int) == (m : Int)) = true := by simp
            clear hbq hfin hgm hem l3 he g1
            go_wp2_with (first
              | (at_len; refine wpList_len_own _ rfl _ 33 rfl 3 3 Tryd.underlying33 _ w3.heap.size _ D rfl hown2 ?_; rw [hsize])
              | fail)
            go_ret
            exact ⟨rfl, HFIN.out⟩
  · obtain ⟨E, hEE⟩ : ∃ E, E = rndE N es wk := ⟨_, rfl⟩
    have hL : rndL N es wk = [] := by unfold rndL; rw [if_neg hE]
    have f1 := rounds_any A c N es wk w2 he hT
    have hb0 : (E != 0) = true := by rw [hEE]; simpa using hE
    rw [← hEE, hL] at f1
    have hcase : errn N es ≠ 0 ∨ (errn N es = 0 ∧ ¬ (1 ≤ wk ∧ wk ≤ 16)) := by
      by_cases h0 : errn N es = 0
      · refine .inr ⟨h0, fun h2 => hE ?_⟩
        unfold rndE
        rw [if_neg (by omega), if_pos h2]
      · exact .inl h0
    refine f1.mono ?_
    rintro e w3 ⟨A3, c3, rfl, _, hb⟩
    replace g1 := gb_step g1 hb
    replace he := he.step hb
    replace hT := hT.step hb
    replace hB := below_step hB hs hb
    replace hs := hB.size
    have n1 := g1.n
    have e1 := g1.e
    have hw := wrong_any A c N es w3 he hT
    obtain ⟨F, hF⟩ : ∃ F, F = errn N es := ⟨_, rfl⟩
    rw [← hF] at hw hcase
    have HB := Lib.hid hB
    have HS := Lib.hid hs
    have HW := Lib.hid hw
    clear hE hEE hb f1 hB g1 he hT hs hL hF hw
    rcases hcase with h1 | ⟨rfl, h2⟩
    · have h1' : (F != 0) = true := by simpa using h1
      go_wp2_with (refine HW.out.mono ?_; rintro e w4 ⟨rfl, hb4⟩)
      go_ret
      exact ⟨rfl, below_step HB.out HS.out hb4⟩
    · by_cases h3 : wk < 1
      · go_wp2_with (refine HW.out.mono ?_; rintro e w4 ⟨rfl, hb4⟩)
        go_ret
        exact ⟨rfl, below_step HB.out HS.out hb4⟩
      · have h4 : 16 < wk := by omega
        go_wp2_with (refine HW.out.mono ?_; rintro e w4 ⟨rfl, hb4⟩)
        go_ret
        exact ⟨rfl, below_step HB.out HS.out hb4⟩
end Go.Proofs.YtipihchlhkjdjaaDoor
