/-
  Contracts of forkwrightref.BBehind and SameSets; a row of rows of the call's own.
  Contract of forkwrightref.SameSets at the same sets; the law GraphSorts.
-/
import Derived.Test.YtaboafkpmgadmaaDoorGrBs
import Derived.Test.YtaboafkpmgadmaaDoorBsAof
namespace Go.Proofs.YtaboafkpmgadmaaDoor
open Go.RowKit Go.Shelf
set_option maxRecDepth 100000

theorem own_ne_own {w : World} {b1 b2 e1 e2 s1 s2 n1 n2 : Nat} {v1 v2 : Value} {x1 x2 : List Value} (h1 : w.ownsRow b1 e1 s1 v1 n1 x1) (h2 : w.ownsRow b2 e2 s2 v2 n2 x2) (hne : e1 ≠ e2) : v1.ownBlock = none ∨ v1.ownBlock ≠ v2.ownBlock := by
  rcases h1.2 with ⟨h0, _⟩ | ⟨g, cap, cur, h0, _, hg, _⟩
  · exact .inl (by rw [h0]; rfl)
  · refine .inr fun e => ?_
    have h3 : v1.ownBlock = some g := by rw [h0]; rfl
    rw [h3] at e
    exact own_ne_blk h2 hg (fun h => hne h.symm) e.symm

/-- a row of headers, each of which owns a row; all of the call's own -/
def OwnRws (T U : TypeId) (w : World) (base : Nat) (v : Value) (k : Nat) (hd : Nat → Value) (ln : Nat → Nat) (ys : Nat → List Value) : Prop :=
  w.ownsRow base T 1 v k ((List.range k).map hd) ∧ ∀ i, i < k → w.ownsRow base U 1 (hd i) (ln i) (ys i)
theorem OwnRws.nil (T U : TypeId) (w : World) (base : Nat) (hd : Nat → Value) (ln : Nat → Nat) (ys : Nat → List Value) : OwnRws T U w base (.slice none 0 0) 0 hd ln ys :=
  ⟨World.ownsRow_nil _ _ _ _, fun i hi => by omega⟩
theorem own_step {w w' : World} {base e size n : Nat} {v : Value} {xs : List Value} (h : w.ownsRow base e size v n xs) (hb : Below w.heap.size w w') : w'.ownsRow base e size v n xs :=
  ownsRow_keeps h (Keeps.of_below (p := fun b => b < w.heap.size) hb fun _ _ h => h) (own_block_lt h)
theorem OwnRws.step {T U : TypeId} {w w' : World} {base k : Nat} {v : Value} {hd : Nat → Value} {ln : Nat → Nat} {ys : Nat → List Value} (h : OwnRws T U w base v k hd ln ys) (hb : Below w.heap.size w w') : OwnRws T U w' base v k hd ln ys :=
  ⟨own_step h.1 hb, fun i hi => own_step (h.2 i hi) hb⟩
/-- one row more -/
theorem OwnRws.snoc {T U : TypeId} {w w1 : World} {base k : Nat} {v v' r : Value} {hd : Nat → Value} {ln : Nat → Nat} {ys : Nat → List Value} {o : Obj} (h : OwnRws T U w base v k hd ln ys) (hTU : U ≠ T) (hr : w.ownsRow base U 1 r (ln k) (ys k))
    (hown : w1.ownsRow base T 1 v' (k + 1) ((List.range k).map hd ++ [r])) (hg : (w.alloc o).grownBy w1 v.ownBlock) :
    OwnRws T U w1 base v' (k + 1) (fun i => if i = k then r else hd i) ln ys := by
  refine ⟨?_, fun i hi => ?_⟩
  · have e : (List.range (k + 1)).map (fun i => if i = k then r else hd i) = (List.range k).map hd ++ [r] := by
      rw [List.range_succ, List.map_append]
      congr 1
      · refine List.map_congr_left fun i hi => ?_
        have := List.mem_range.1 hi
        exact if_neg (by omega)
      · simp
    rw [e]
    exact hown
  · have hv : (w.alloc o).ownsRow base T 1 v k ((List.range k).map hd) := h.1.alloc o
    dsimp only
    by_cases e : i = k
    · subst e
      rw [if_pos rfl]
      exact (hr.alloc o).kept hg (own_ne_own (hr.alloc o) hv hTU)
    · rw [if_neg e]
      have h1 := (h.2 i (by omega)).alloc o
      exact h1.kept hg (own_ne_own h1 hv hTU)
theorem OwnRws.rdUU {T U : TypeId} {w : World} {base k : Nat} {v : Value} {hd : Nat → Value} {xs : Nat → List Nat} (h : OwnRws T U w base v k hd (fun i => (xs i).length) (fun i => uVals (xs i))) (hk : k ≤ 1048576)
    (hx : ∀ i, i < k → (∀ j, wd (xs i) j < 18446744073709551616) ∧ (xs i).length ≤ 1152921504606846976) :
    ∃ A c, v = .slice A k c ∧ RdUU w w.heap.size A ((List.range k).map xs) := by
  obtain ⟨A, c, rfl⟩ := own_any h.1
  have h5 : ∀ i, ∃ Ac : Option Addr × Nat, i < k → hd i = .slice Ac.1 (xs i).length Ac.2 ∧ RdU w w.heap.size Ac.1 (xs i) := fun i => by
    by_cases hi : i < k
    · obtain ⟨A, c, hv, hr⟩ := own_rdU (h.2 i hi) (hx i hi).1 (hx i hi).2
      exact ⟨(A, c), fun _ => ⟨hv, hr⟩⟩
    · exact ⟨(none, 0), fun h => absurd h hi⟩
  have hget : ∀ i, i < k → ((List.range k).map xs).getD i [] = xs i := fun i hi => by simp [List.getD, hi]
  refine ⟨A, c, rfl, by simpa using hk, fun i => (h5 i).choose.1, fun i => (h5 i).choose.2, ?_, fun i hi => ?_⟩
  · have hl : ((List.range k).map xs).length = k := by simp
    rw [hl]
    refine own_rd h.1 fun i hi => ?_
    rw [hget i hi]
    simp only [List.getElem?_map, List.getElem?_range hi, Option.map_some]
    exact congrArg some ((h5 i).choose_spec hi).1
  · simp at hi
    rw [hget i hi]
    exact ((h5 i).choose_spec hi).2

/-- the nodes below j that follow i -/
def inL (m : Nat) (es : List (Int × Int)) (i j : Nat) : List Nat := (List.range j).filter (fw (gR es) m i)
theorem inL_yes {m : Nat} {es : List (Int × Int)} {i j : Nat} (h : fw (gR es) m i j = true) : inL m es i (j + 1) = inL m es i j ++ [j] := by
  unfold inL; rw [List.range_succ, List.filter_append]; simp [h]
theorem inL_no {m : Nat} {es : List (Int × Int)} {i j : Nat} (h : fw (gR es) m i j = false) : inL m es i (j + 1) = inL m es i j := by
  unfold inL; rw [List.range_succ, List.filter_append]; simp [h]
theorem inL_len (m : Nat) (es : List (Int × Int)) (i j : Nat) : (inL m es i j).length ≤ j := by
  unfold inL
  have := List.length_filter_le (fw (gR es) m i) (List.range j)
  simpa using this
theorem inL_lt {m : Nat} {es : List (Int × Int)} {i j : Nat} : ∀ x ∈ inL m es i j, x < j := fun _ hx => List.mem_range.1 (List.mem_filter.1 hx).1

set_option maxHeartbeats 4000000 in
theorem bbehind_any (A : Option Addr) (c : Nat) (N : Int) (es : List (Int × Int)) (w : World) (he : RdE w w.heap.size A es) :
    Calls Tryd.prog 16 #[.agg #[.int .i64 N, .slice A es.length c]] w fun e w' => ∃ A1 c1, e = .returned (.tuple #[.slice A1 (behG N es).length c1, .int .i64 (errn N es)]) ∧ RdUU w' w'.heap.size A1 (behG N es) ∧ Below w.heap.size w w' := by
  obtain ⟨j0, gi, gz0, gz1, gz2⟩ := info_parts Tryd.infoInt
  obtain ⟨i0, hi, hz0, hz1, hz2⟩ := info_parts Tryd.infoSU
  have hroom := he.room
  go_enter Tryd.func16, Tryd.ntmps16
  go_wp2_with fail
  have g1 := GB.new w 24 N (.slice A es.length c)
  have hB := below_alloc w (.cells #[.int .i64 N, .slice A es.length c] 24)
  obtain ⟨w1, hw1⟩ : ∃ w1, w1 = w.alloc (.cells #[.int .i64 N, .slice A es.length c] 24) := ⟨_, rfl⟩
  rw [← hw1] at g1 hB ⊢
  have hs := hB.size
  have r1 := he.step hB
  clear hw1 he
  refine (bwrong_any A c N es _ r1).mono ?_
  rintro e w2 ⟨rfl, hb⟩
  replace g1 := g1.step hb
  replace r1 := r1.step hb
  replace hB := below_step hB hs hb
  replace hs := hB.size
  clear hb
  have n1 := g1.n
  have e1 := g1.e
  by_cases hE : errn N es = 0
  · obtain ⟨m, rfl, hin, hfull⟩ := errn_split hE
    have hm := okN_of hin
    have hm2 : m ≤ 200 := by omega
    have e3 : behG m es = behs m es := by unfold behG; rw [if_pos hE, Int.toNat_natCast]
    have E3 := Lib.hid e3
    have HE := Lib.hid hE
    rw [hE]
    clear e3 hE hfull hm
    go_wp2_with fail
    refine (reach_rows A c m es _ r1 hin).mono ?_
    rintro e w3 ⟨g, rfl, hM, hb⟩
    replace hB := below_step hB hs hb
    replace hs := hB.size
    clear hb n1 e1 g1 r1 hin
    go_wp2_with fail
    go_loopw [5, 19] (fun v i wr => ∃ a : Nat, a ≤ m ∧ i = .int .i64 a ∧ (∃ hd, OwnRws 49 54 wr w3.heap.size v a hd (fun i => (beh m es i).length) (fun i => uVals (beh m es i))) ∧ Below w3.heap.size w3 wr) (fun _ i _ => m - (intOf i).toNat)
    case atStart => exact ⟨0, Nat.zero_le _, rfl, ⟨fun _ => .slice none 0 0, OwnRws.nil _ _ _ _ _ _ _⟩, Below.refl _ _⟩
    case round =>
      obtain ⟨a, ha, rfl, ⟨hd, hO⟩, hb⟩ := hrel
      have hsz := hb.size
      obtain ⟨A3, c3, hv⟩ := own_any hO.1
      subst hv
      by_cases halt : a < m
      · have hMr := hM.step hb
        have hc1 := hMr.c1 halt
        have ha0 : (0 : Int) ≤ (a : Int) := Int.natCast_nonneg _
        have ha1 : (a : Int) < (m : Int) := by omega
        clear hMr
        go_wp2_with fail
        clear hc1
        obtain ⟨wo, rfl⟩ : ∃ wo : World, wo = wr := ⟨_, rfl⟩
        go_loopw [8, 25] (fun v i wr2 => ∃ b : Nat, b ≤ m ∧ i = .int .i64 b ∧ wr2.ownsRow wo.heap.size 3 1 v (toI (inL m es a b)).length (iVals (toI (inL m es a b))) ∧ Below wo.heap.size wo wr2) (fun _ i _ => m - (intOf i).toNat)
        case atStart => exact ⟨0, Nat.zero_le _, rfl, World.ownsRow_nil _ _ _ _, Below.refl _ _⟩
        case round =>
          obtain ⟨b, hbm, rfl, hown, hb2⟩ := hrel
          have hsz2 := hb2.size
          obtain ⟨A5, c5, hv5⟩ := own_any hown
          subst hv5
          by_cases hblt : b < m
          · have hMr := hM.step (hb.trans (hb2.mono hsz))
            have hc2 := hMr.c2 halt hblt
            have hb0 : (0 : Int) ≤ (b : Int) := Int.natCast_nonneg _
            have hb1 : (b : Int) < (m : Int) := by omega
            have hle := inL_len m es a b
            rw [← toI_len] at hle
            obtain ⟨q, hq⟩ : ∃ q, fw (gR es) m a b = q := ⟨_, rfl⟩
            rw [hq] at hc2
            clear hMr hO
            cases q with
            | true =>
              have HY := Lib.hid (inL_yes hq)
              have h3 : (toI (inL m es a b)).length + 1 ≤ maxLen := by unfold maxLen; omega
              have h4 : ((toI (inL m es a b)).length + 1) * 8 ≤ 140737488355328 := by omega
              have h5 : wo.heap.size ≤ (wr.alloc (.cells #[.int .i64 (b : Int)] 3)).heap.size := by simp; omega
              clear hq
              go_wp2_with (at_builtin; refine wpList_append_own _ rfl _ _ 25 rfl wo.heap.size 3 j0 (.int .i64 0) 1 8 Tryd.underlying25 gi gz0 gz1 gz2 rfl (by decide) _ _ _ rfl (hown.alloc _) ⟨wr.heap.size, 0, none⟩ 1 1 [.int .i64 (b : Int)] rfl rfl (cell_one_new _ _ _) (by simp [Value.oneCell']) h3 h4 h5 ?_; intro v' w9 hown' hgrow _)
              have hB9 := below_app hb2 hsz2 hown hgrow
              have hown2 : w9.ownsRow wo.heap.size 3 1 v' (toI (inL m es a (b + 1))).length (iVals (toI (inL m es a (b + 1)))) := by
                rw [HY.out, toI_snoc, ← iVals_snoc, List.length_append]
                exact hown'
              clear hown' hgrow
              go_roundw
              case rel => exact ⟨b + 1, by omega, by go_num, hown2, hB9⟩
              case measure => simp [intOf]; omega
            | false =>
              have HN := Lib.hid (inL_no hq)
              clear hq
              go_wp2_with fail
              go_roundw
              case rel => exact ⟨b + 1, by omega, by go_num, by rw [HN.out]; exact hown, hb2⟩
              case measure => simp [intOf]; omega
          · obtain rfl : b = m := by omega
            have hbd := zd_toI_bd (inL b es a b) b inL_lt
            have hle := inL_len b es a b
            rw [← toI_len] at hle
            obtain ⟨A6, c6, hv6, rI⟩ := own_rdI hown (fun k => by have := hbd k; omega) (fun k => by have := hbd k; omega) (by omega)
            cases hv6
            have hbeh : ofS (toI (inL b es a b)) = beh b es a := rfl
            have HBH := Lib.hid hbeh
            obtain ⟨zs, hzs⟩ : ∃ zs, zs = toI (inL b es a b) := ⟨_, rfl⟩
            rw [← hzs] at rI hle
            have HZ := Lib.hid hzs
            rw [← hzs]
            have hO2 := hO.step hb2
            clear hbd hown hbeh hzs hO
            have h3 : a + 1 ≤ maxLen := by unfold maxLen; omega
            have h4 : (a + 1) * 24 ≤ 140737488355328 := by omega
            go_wp2_with (first
              | (refine (aof_any A5 c5 zs _ rI (by omega)).mono ?_
                 rintro e w6 ⟨v6, rfl, hr6, hb6⟩
                 have hO6 := hO2.step hb6
                 have hBw := hb.trans ((hb2.trans (hb6.mono hsz2)).mono hsz)
                 have hsw := hBw.size
                 have hr : w6.ownsRow w3.heap.size 54 1 v6 (beh b es a).length (uVals (beh b es a)) := by
                   have h7 : ofS zs = beh b es a := by rw [HZ.out]; exact HBH.out
                   rw [h7] at hr6
                   exact own_mono hr6 (Nat.le_trans hsz hsz2)
                 obtain ⟨A9, c9, hv9⟩ := own_any hr
                 subst hv9
                 have h5 : w3.heap.size ≤ (w6.alloc (.cells #[.slice A9 (beh b es a).length c9] 49)).heap.size := by simp; omega
                 clear hr6 hb hb2 hb6 hO2 rI hle)
              | (at_builtin
                 refine wpList_append_own _ rfl _ _ 29 rfl w3.heap.size 49 i0 (.slice none 0 0) 1 24 Tryd.underlying29 hi hz0 hz1 hz2 rfl (by decide) _ _ _ rfl (hO6.1.alloc _) ⟨w6.heap.size, 0, none⟩ 1 1 [.slice A9 (beh b es a).length c9] rfl rfl (cell_one_new _ _ _) (by simp [Value.oneCell']) h3 h4 h5 ?_
                 intro v' w9 hown' hgrow _))
            have hB9 := below_app hBw hsw hO6.1 hgrow
            have hO9 := hO6.snoc (by decide) hr hown' hgrow
            go_roundw
            case rel => exact ⟨a + 1, by omega, by go_num, ⟨_, hO9⟩, hB9⟩
            case measure => simp [intOf]; omega
      · obtain rfl : a = m := by omega
        obtain ⟨A6, c6, hv6, hU⟩ := hO.rdUU (by omega) (fun i _ => ⟨beh_ws _ _ _, by have := beh_len a es i; omega⟩)
        cases hv6
        go_wp2_with fail
        go_ret2
        have e4 : behG a es = (List.range a).map (beh a es) := E3.out
        rw [e4, HE.out]
        exact ⟨A3, c3, by simp, hU, hB.trans (hb.mono hs)⟩
  · obtain ⟨E, hEE⟩ : ∃ E, E = errn N es := ⟨_, rfl⟩
    have hb0 : (E != 0) = true := by rw [hEE]; simpa using hE
    have hd : behG N es = [] := by unfold behG; rw [if_neg hE]
    have HD := Lib.hid hd
    have HEE := Lib.hid hEE
    rw [← hEE]
    clear hE hEE hd
    go_wp2_with fail
    go_ret2
    rw [HD.out, ← HEE.out]
    exact ⟨none, 0, rfl, rdUU_nil _ _ _, hB⟩
end Go.Proofs.YtaboafkpmgadmaaDoor

namespace Go.Proofs.YtaboafkpmgadmaaDoor
open Go.RowKit Go.Shelf
set_option maxRecDepth 100000

theorem sameSets1_same (A A' : Option Addr) (c c' : Nat) (xs : List Nat) (w : World) (hx : RdU w w.heap.size A xs) (hy : RdU w w.heap.size A' xs) :
    Calls Tryd.prog 56 #[.slice A xs.length c, .slice A' xs.length c'] w fun e w' => e = .returned (.bool true) ∧ Below w.heap.size w w' := by
  go_enter Tryd.func56, Tryd.ntmps56
  go_wp2_with (refine (equalU_same A A' c c' xs _ hx hy).mono ?_; rintro e w1 ⟨rfl, hb⟩)
  go_ret
  exact ⟨rfl, hb⟩

set_option maxHeartbeats 1000000 in
theorem equalFunc_same (A A' : Option Addr) (c c' : Nat) (xss : List (List Nat)) (w : World) (hx : RdUU w w.heap.size A xss) (hy : RdUU w w.heap.size A' xss) :
    Calls Tryd.prog 55 #[.slice A xss.length c, .slice A' xss.length c', .func (.func 56) #[] #[]] w fun e w' => e = .returned (.bool true) ∧ Below w.heap.size w w' := by
  have hr := hx.room
  have hl : ((xss.length : Int) != (xss.length : Int)) = false := by simp
  go_enter Tryd.func55, Tryd.ntmps55
  go_wp2_with fail
  go_loopw [17] (fun i wr => ∃ k : Nat, k ≤ xss.length ∧ i = .int .i64 k ∧ Below w.heap.size w wr) (fun i _ => xss.length - (intOf i).toNat)
  case atStart => exact ⟨0, Nat.zero_le _, rfl, Below.refl _ _⟩
  case round =>
    obtain ⟨k, hk, rfl, hb⟩ := hrel
    by_cases hlt : k < xss.length
    · have X := hx.step hb
      have Y := hy.step hb
      obtain ⟨b, off, A1, c1, rfl, _, hc1, r1⟩ := X.at_ hlt
      obtain ⟨b2, off2, A2, c2, rfl, _, hc2, r2⟩ := Y.at_ hlt
      clear X Y
      go_wp2_with (refine (sameSets1_same A1 A2 c1 c2 (st xss k) _ r1 r2).mono ?_; rintro e w1 ⟨rfl, hb1⟩)
      have hB := hb.trans (hb1.mono hb.size)
      go_roundw
      case rel => exact ⟨k + 1, by omega, by go_num, hB⟩
      case measure => simp [intOf]; omega
    · go_wp2_with fail
      go_ret
      exact ⟨rfl, hb⟩
theorem sameSets_same (A A' : Option Addr) (c c' : Nat) (xss : List (List Nat)) (w : World) (hx : RdUU w w.heap.size A xss) (hy : RdUU w w.heap.size A' xss) :
    Calls Tryd.prog 18 #[.slice A xss.length c, .slice A' xss.length c'] w fun e w' => e = .returned (.bool true) ∧ Below w.heap.size w w' := by
  go_enter Tryd.func18, Tryd.ntmps18
  go_wp2_with (refine (equalFunc_same A A' c c' xss _ hx hy).mono ?_; rintro e w1 ⟨rfl, hb⟩)
  go_ret
  exact ⟨rfl, hb⟩

set_option maxHeartbeats 2000000 in
theorem sortsLaw_any (A : Option Addr) (c : Nat) (N : Int) (es : List (Int × Int)) (w : World) (he : RdE w w.heap.size A es) (_hl : es.length ≤ 1048576) (hT : Tab w) :
    Calls Tryd.prog 3 #[.agg #[.int .i64 N, .slice A es.length c]] w fun e w' => e = .returned (.bool true) ∧ Below w.heap.size w w' := by
  go_enter Tryd.func3, Tryd.ntmps3
  go_wp2_with fail
  have g1 := GB.new w 24 N (.slice A es.length c)
  have hB := below_alloc w (.cells #[.int .i64 N, .slice A es.length c] 24)
  obtain ⟨w1, hw1⟩ : ∃ w1, w1 = w.alloc (.cells #[.int .i64 N, .slice A es.length c] 24) := ⟨_, rfl⟩
  rw [← hw1] at g1 hB ⊢
  have hs := hB.size
  have r1 := he.step hB
  replace hT := hT.step hB
  clear hw1 he
  obtain ⟨E, hE⟩ : ∃ E, E = errn N es := ⟨_, rfl⟩
  obtain ⟨O, hO⟩ : ∃ O, O = ordG N es := ⟨_, rfl⟩
  obtain ⟨X, hX⟩ : ∃ X, X = behG N es := ⟨_, rfl⟩
  have f1 : ∀ (W : World), RdE W W.heap.size A es → Tab W → Calls Tryd.prog 13 #[.agg #[.int .i64 N, .slice A es.length c]] W fun e w' => ∃ A1 c1, e = .returned (.tuple #[.slice A1 O.length c1, .int .i64 E]) ∧ RdI w' w'.heap.size A1 O ∧ Below W.heap.size W w' := fun W h hT => by
    rw [hO, hE]; exact sort_any A c N es W h hT
  have f2 : ∀ (W : World), RdE W W.heap.size A es → Calls Tryd.prog 14 #[.agg #[.int .i64 N, .slice A es.length c]] W fun e w' => ∃ A1 c1, e = .returned (.tuple #[.slice A1 O.length c1, .int .i64 E]) ∧ RdI w' w'.heap.size A1 O ∧ Below W.heap.size W w' := fun W h => by
    rw [hO, hE]; exact bsort_any A c N es W h
  have f3 : ∀ (W : World), RdE W W.heap.size A es → Tab W → Calls Tryd.prog 15 #[.agg #[.int .i64 N, .slice A es.length c]] W fun e w' => ∃ A1 c1, e = .returned (.tuple #[.slice A1 X.length c1, .int .i64 E]) ∧ RdUU w' w'.heap.size A1 X ∧ Below W.heap.size W w' := fun W h hT => by
    rw [hX, hE]; exact behind_any A c N es W h hT
  have f4 : ∀ (W : World), RdE W W.heap.size A es → Calls Tryd.prog 16 #[.agg #[.int .i64 N, .slice A es.length c]] W fun e w' => ∃ A1 c1, e = .returned (.tuple #[.slice A1 X.length c1, .int .i64 E]) ∧ RdUU w' w'.heap.size A1 X ∧ Below W.heap.size W w' := fun W h => by
    rw [hX, hE]; exact bbehind_any A c N es W h
  have F1 := Lib.hid f1
  have F2 := Lib.hid f2
  have F3 := Lib.hid f3
  have F4 := Lib.hid f4
  have hEE : (E == E) = true := by simp
  clear f1 f2 f3 f4 hO hE hX
  refine (F1.out _ r1 hT).mono ?_
  rintro e w2 ⟨A2, c2, rfl, q2, hb⟩
  replace g1 := g1.step hb
  replace r1 := r1.step hb
  replace hT := hT.step hb
  replace hB := below_step hB hs hb
  replace hs := hB.size
  clear hb
  have n1 := g1.n
  have e1 := g1.e
  go_wp2_with fail
  clear n1 e1
  refine (F2.out _ r1).mono ?_
  rintro e w3 ⟨A3, c3, rfl, q3, hb⟩
  replace g1 := g1.step hb
  replace r1 := r1.step hb
  replace q2 := q2.step hb
  replace hT := hT.step hb
  replace hB := below_step hB hs hb
  replace hs := hB.size
  clear hb
  have n1 := g1.n
  have e1 := g1.e
  go_wp2_with fail
  clear n1 e1
  refine (F3.out _ r1 hT).mono ?_
  rintro e w4 ⟨A4, c4, rfl, q4, hb⟩
  replace g1 := g1.step hb
  replace r1 := r1.step hb
  replace q2 := q2.step hb
  replace q3 := q3.step hb
  replace hB := below_step hB hs hb
  replace hs := hB.size
  clear hb
  have n1 := g1.n
  have e1 := g1.e
  go_wp2_with fail
  clear n1 e1
  refine (F4.out _ r1).mono ?_
  rintro e w5 ⟨A5, c5, rfl, q5, hb⟩
  replace q2 := q2.step hb
  replace q3 := q3.step hb
  replace q4 := q4.step hb
  replace hB := below_step hB hs hb
  replace hs := hB.size
  clear hb g1 r1
  go_wp2_with fail
  refine (equalI_same A2 A3 c2 c3 O _ q2 q3).mono ?_
  rintro e w6 ⟨rfl, hb⟩
  replace q4 := q4.step hb
  replace q5 := q5.step hb
  replace hB := below_step hB hs hb
  replace hs := hB.size
  clear hb q2 q3
  go_wp2_with fail
  refine (sameSets_same A4 A5 c4 c5 X _ q4 q5).mono ?_
  rintro e w7 ⟨rfl, hb⟩
  replace hB := below_step hB hs hb
  clear hb q4 q5
  go_wp2_with fail
  go_ret
  exact ⟨rfl, hB⟩
end Go.Proofs.YtaboafkpmgadmaaDoor
