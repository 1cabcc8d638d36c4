/-
  Contracts of graph.Closure and graph.Core.
-/
import Derived.Test.YtaboafkpmgadmaaDoorGrFs
namespace Go.Proofs.YtaboafkpmgadmaaDoor
open Go.RowKit Go.Shelf
set_option maxRecDepth 100000

theorem results_row_tmp {P : Program} {fn : Func} {p u : Tmp} {ty : TypeId} (h : fn.results = #[.cell p ty, .tmp u]) (tmps : Array Value) (w : World) (g : Nat) (t : TypeId) (cs : Array Value) (fr : Nat × Nat) (d : TypeDesc)
    (hp : tmps.getD p undef = .pointer (some ⟨g, 0, none⟩)) (hg : w.heap[g]? = some (.cells cs t fr))
    (hu : P.underlying ty = some d) (hd : (match d with | .struct _ | .array _ _ => true | _ => false) = true) (hi : (P.info? ty).map (·.size) = some cs.size) :
    (results fn tmps).run P w = .ok (.tuple #[.agg cs, tmps.getD u undef]) w := by
  have hp' : tmps[p]?.getD undef = .pointer (some ⟨g, 0, none⟩) := by simpa using hp
  simp [results, h, hp', asAddr, run_loadVar_row w g t ty cs fr d hg hu hd hi]

theorem errn_split {N : Int} {es : List (Int × Int)} (h : errn N es = 0) : ∃ m : Nat, N = (m : Int) ∧ inR m es = true ∧ (ordr m es).length = m := by
  unfold errn at h
  split at h
  · rename_i hin
    have hm := okN_of hin
    obtain ⟨m, rfl⟩ : ∃ m : Nat, N = (m : Int) := ⟨N.toNat, by omega⟩
    rw [Int.toNat_natCast] at h
    have := ordr_le m es
    refine ⟨m, rfl, hin, ?_⟩
    split at h
    · omega
    · omega
  · omega

theorem opless_own (A A' : Option Addr) (c c' : Nat) (xs ys : List Nat) (w : World) (hx : RdU w w.heap.size A xs) (hy : RdU w w.heap.size A' ys) (hxl : xs.length ≤ 35184372088832) (hyl : ys.length ≤ 35184372088832) :
    Calls Tryd.prog 61 #[.slice A xs.length c, .slice A' ys.length c'] w fun e w' => ∃ A1 c1, e = .returned (.slice A1 (mrg lessN xs ys).length c1) ∧ RdUp w' (fun b => w.heap.size ≤ b ∧ b < w'.heap.size) A1 (mrg lessN xs ys) ∧ Below w.heap.size w w' := by
  go_enter Tryd.func61, Tryd.ntmps61
  go_wp2_with fail
  refine (mergelessN_any A A' c c' xs ys _ hx hy hxl hyl).mono ?_
  rintro e w1 ⟨v, rfl, hown, hB⟩
  have hle := mrg_le lessN xs ys
  obtain ⟨A1, c1, rfl, hr⟩ := own_rdUp hown (fun k => by rw [mrg_wd rfl]; exact lessN_lt _ _ (hx.lt k)) (by omega)
  have hr2 := hr.lt'
  clear hown hr
  go_wp2
  go_ret
  exact ⟨_, _, rfl, hr2, hB⟩

theorem rdE_nil (w : World) (B : Nat) (A : Option Addr) : RdE w B A [] := ⟨by simp [ed], by simp [ed], by simp [ed], by simp [ed], by simp, fun h => by simp at h⟩
theorem rdUU_nil (w : World) (B : Nat) (A : Option Addr) : RdUU w B A [] := ⟨by simp, fun _ => none, fun _ => 0, fun h => by simp at h, fun k h => by simp at h⟩

theorem RdE.set {w : World} {B n c : Nat} {A : Option Addr} {es : List (Int × Int)} (h : RdE w B A es) {p : Addr} (hp : (Value.slice A n c).ownBlock ≠ some p.block) (v : Value) : RdE (w.setCell p v) B A es :=
  ⟨h.lo1, h.hi1, h.lo2, h.hi2, h.room, fun hn => by
    obtain ⟨b, off, hA, hb, hc⟩ := h.rd hn
    have hne : p.block ≠ b := fun e => hp (by rw [hA, e]; rfl)
    exact ⟨b, off, hA, hb, fun k hk => ⟨(World.cell?_setCell_far w p _ v hne).trans (hc k hk).1, (World.cell?_setCell_far w p _ v hne).trans (hc k hk).2⟩⟩⟩

/-- what follows each node -/
def behs (m : Nat) (es : List (Int × Int)) : List (List Nat) := (List.range m).map (beh m es)
theorem behs_len (m : Nat) (es : List (Int × Int)) : (behs m es).length = m := by simp [behs]
theorem st_behs {m k : Nat} (es : List (Int × Int)) (h : k < m) : st (behs m es) k = beh m es k := st_map _ _ _ h
theorem behs_bits {m : Nat} {es : List (Int × Int)} (h : inR m es = true) : ∀ k, k < m → ∀ j, bitB (st (behs m es) k) j = true → j < m := fun k hk j hj => by
  rw [st_behs _ hk, beh_bit h] at hj
  exact (fw_lt h hj).2
theorem behs_room (m : Nat) (es : List (Int × Int)) : ∀ k, k < m → (st (behs m es) k).length ≤ 1024 := fun k hk => by rw [st_behs _ hk]; exact beh_len _ _ _
theorem mem_beh_lt {m : Nat} {es : List (Int × Int)} (h : inR m es = true) (k : Nat) : ∀ j, j ∈ mem (beh m es k) → j < m := fun j hj => by
  rw [mem_iff, beh_bit h] at hj
  exact (fw_lt h hj).2
/-- what follows a node at once -/
def corS (m : Nat) (es : List (Int × Int)) (k : Nat) : List Nat := mrg lessN (beh m es k) (unionL (behs m es) (mem (beh m es k)))
def cors (m : Nat) (es : List (Int × Int)) : List (List Nat) := (List.range m).map (corS m es)
theorem cors_len (m : Nat) (es : List (Int × Int)) : (cors m es).length = m := by simp [cors]
theorem st_cors {m k : Nat} (es : List (Int × Int)) (h : k < m) : st (cors m es) k = corS m es k := st_map _ _ _ h
theorem behU_len {m : Nat} {es : List (Int × Int)} (h : inR m es = true) (k : Nat) : (unionL (behs m es) (mem (beh m es k))).length ≤ 1024 := unionL_len _ _ fun j hj => behs_room m es j (mem_beh_lt h k j hj)
theorem corS_len {m : Nat} {es : List (Int × Int)} (h : inR m es = true) (k : Nat) : (corS m es k).length ≤ 1024 := by
  have h1 := mrg_le lessN (beh m es k) (unionL (behs m es) (mem (beh m es k)))
  have h2 := beh_len m es k
  have h3 := behU_len h k
  unfold corS
  omega
theorem corS_bit {m : Nat} {es : List (Int × Int)} (h : inR m es = true) (k j : Nat) : bitB (corS m es k) j = (fw (gR es) m k j && !((List.range m).any fun c => fw (gR es) m k c && fw (gR es) m c j)) := by
  unfold corS
  rw [less_bit _ _ (unionL_ws _ _ fun c hc => by rw [st_behs _ (mem_beh_lt h k c hc)]; exact beh_ws _ _ _), beh_bit h, union_bit]
  congr 2
  rw [Bool.eq_iff_iff, List.any_eq_true, List.any_eq_true]
  constructor
  · rintro ⟨c, hc, e⟩
    have hlt := mem_beh_lt h k c hc
    rw [st_behs _ hlt, beh_bit h] at e
    rw [mem_iff, beh_bit h] at hc
    exact ⟨c, List.mem_range.2 hlt, by rw [hc, e]; rfl⟩
  · rintro ⟨c, hc, e⟩
    rw [Bool.and_eq_true] at e
    refine ⟨c, by rw [mem_iff, beh_bit h]; exact e.1, ?_⟩
    rw [st_behs _ (List.mem_range.1 hc), beh_bit h]
    exact e.2
theorem cors_bits {m : Nat} {es : List (Int × Int)} (h : inR m es = true) : ∀ k, k < m → ∀ j, bitB (st (cors m es) k) j = true → j < m := fun k hk j hj => by
  rw [st_cors _ hk, corS_bit h, Bool.and_eq_true] at hj
  exact (fw_lt h hj.1).2
theorem cors_room {m : Nat} {es : List (Int × Int)} (h : inR m es = true) : ∀ k, k < m → (st (cors m es) k).length ≤ 1024 := fun k hk => by rw [st_cors _ hk]; exact corS_len h k

/-- the graph of the answer: its nodes, and its edges -/
def nG (N : Int) (es : List (Int × Int)) : Int := if errn N es = 0 then N else 0
def behG (N : Int) (es : List (Int × Int)) : List (List Nat) := if errn N es = 0 then behs N.toNat es else []
def clsG (N : Int) (es : List (Int × Int)) : List (Int × Int) := if errn N es = 0 then elI (elist (behs N.toNat es) N.toNat) else []
def corG (N : Int) (es : List (Int × Int)) : List (Int × Int) := if errn N es = 0 then elI (elist (cors N.toNat es) N.toNat) else []

theorem behind_any (A : Option Addr) (c : Nat) (N : Int) (es : List (Int × Int)) (w : World) (he : RdE w w.heap.size A es) (hT : Tab w) :
    Calls Tryd.prog 15 #[.agg #[.int .i64 N, .slice A es.length c]] w fun e w' => ∃ A1 c1, e = .returned (.tuple #[.slice A1 (behG N es).length c1, .int .i64 (errn N es)]) ∧ RdUU w' w'.heap.size A1 (behG N es) ∧ Below w.heap.size w w' := by
  by_cases hE : errn N es = 0
  · obtain ⟨m, rfl, hin, hfull⟩ := errn_split hE
    refine (callsIn_wide.1 (behind_in 14 (Nat.le_refl _) A c m es w he hin hfull hT)).mono ?_
    rintro e w' ⟨A1, rfl, h1, h2⟩
    have hb : behG m es = behs m es := by unfold behG; rw [if_pos hE, Int.toNat_natCast]
    rw [hb, hE, behs_len]
    exact ⟨A1, m, rfl, h1, h2⟩
  · refine (behind_no A c N es w he hT hE).mono ?_
    rintro e w' ⟨rfl, h2⟩
    have hb : behG N es = [] := by unfold behG; rw [if_neg hE]
    rw [hb]
    exact ⟨none, 0, rfl, rdUU_nil _ _ _, h2⟩
theorem fromSets_any (m : Nat) (hm : m ≤ 200) (A : Option Addr) (c : Nat) (xss : List (List Nat)) (hl : xss.length = m) (w : World) (hx : RdUU w w.heap.size A xss)
    (hbits : ∀ k, k < m → ∀ j, bitB (st xss k) j = true → j < m) (hroom : ∀ k, k < m → (st xss k).length ≤ 1024) (hT : Tab w) :
    Calls Tryd.prog 62 #[.slice A m c] w fun e w' => ∃ A1 c1, e = .returned (.agg #[.int .i64 (m : Int), .slice A1 (elI (elist xss m)).length c1]) ∧ RdE w' w'.heap.size A1 (elI (elist xss m)) ∧ (∀ b, (Value.slice A1 (elI (elist xss m)).length c1).ownBlock = some b → w.heap.size ≤ b) ∧ Below w.heap.size w w' :=
  callsIn_wide.1 (fromSets_in 8 (Nat.le_refl _) m hm A c xss hl w hx hbits hroom hT)


set_option maxHeartbeats 1000000 in
theorem core_any (A : Option Addr) (c : Nat) (N : Int) (es : List (Int × Int)) (w : World) (he : RdE w w.heap.size A es) (hT : Tab w) :
    Calls Tryd.prog 23 #[.agg #[.int .i64 N, .slice A es.length c]] w fun e w' => ∃ A1 c1, e = .returned (.tuple #[.agg #[.int .i64 (nG N es), .slice A1 (corG N es).length c1], .int .i64 (errn N es)]) ∧ RdE w' w'.heap.size A1 (corG N es) ∧ Below w.heap.size w w' := by
  go_enter Tryd.func23, Tryd.ntmps23
  go_wp2_with fail
  have hR0 := GB.new (w.alloc (.cells #[.int .i64 N, .slice A es.length c] 24)) 24 0 (.slice none 0 0)
  obtain ⟨w1, hw1⟩ : ∃ w1, w1 = (w.alloc (.cells #[.int .i64 N, .slice A es.length c] 24)).alloc (.cells #[.int .i64 0, .slice none 0 0] 24) := ⟨_, rfl⟩
  have hb1 : Below w.heap.size w w1 := by rw [hw1]; exact ((Below.refl _ _).alloc (Nat.le_refl _) _).alloc (by simp) _
  have hs1 : w.heap.size + 1 < w1.heap.size := by rw [hw1]; simp
  rw [World.size_alloc] at hR0
  rw [← hw1] at hR0 ⊢
  have he1 := he.step hb1
  have hT1 := hT.step hb1
  obtain ⟨gc, hgc⟩ : ∃ gc, gc = w.heap.size := ⟨_, rfl⟩
  rw [← hgc] at hR0 hs1 ⊢
  have HGC := Lib.hid hgc
  clear hw1 hgc he hT
  refine (behind_any A c N es _ he1 hT1).mono ?_
  rintro e w2 ⟨A1, c1, rfl, hu, hb2⟩
  have hR2 : GB 24 w2 (gc + 1) 0 (.slice none 0 0) := (hb2.block (gc + 1) hs1).trans hR0
  have hT2 := hT1.step hb2
  have hs2 : gc + 1 < w2.heap.size := Nat.lt_of_lt_of_le hs1 hb2.size
  have hB2 : Below w.heap.size w w2 := hb1.trans (hb2.mono hb1.size)
  clear hR0 he1 hT1 hb1 hs1 hb2
  have hrn := hR2.n
  have hre := hR2.e
  have hrf0 := hR2.frozen 0
  have hrf1 := hR2.frozen 1
  by_cases hE : errn N es = 0
  · obtain ⟨m, rfl, hin, hfull⟩ := errn_split hE
    have hm := okN_of hin
    have hm2 : m ≤ 200 := by omega
    have e1 : nG m es = m := by unfold nG; rw [if_pos hE]
    have e2 : corG m es = elI (elist (cors m es) m) := by unfold corG; rw [if_pos hE, Int.toNat_natCast]
    have e3 : behG m es = behs m es := by unfold behG; rw [if_pos hE, Int.toNat_natCast]
    rw [e3] at hu
    rw [e3, hE, behs_len]
    have E1 := Lib.hid e1
    have E2 := Lib.hid e2
    have HE := Lib.hid hE
    clear e1 e2 e3 hE hfull hm
    have hmk := run_make_row' (P := Tryd.prog) 29 49 (.slice none 0 0) 24 Tryd.underlying29 Tryd.infoSU rfl .i64 .i64 m (by omega) (by omega)
    go_wp2_with fail
    have hU0 := OwnUU.new 49 w2 w2.heap.size m (Nat.le_refl _)
    obtain ⟨w3, hw3⟩ : ∃ w3, w3 = w2.alloc (.cells (madeCells #[.slice none 0 0] m) 49) := ⟨_, rfl⟩
    have hb3 : Below w2.heap.size w2 w3 := by rw [hw3]; exact below_alloc _ _
    rw [← hw3] at hU0 ⊢
    obtain ⟨gn, hgn⟩ : ∃ gn, gn = w2.heap.size := ⟨_, rfl⟩
    rw [← hgn] at hU0 hb3 hu hs2 ⊢
    have HGN := Lib.hid hgn
    clear hw3 hmk hgn
    go_loopw [23] (fun i W => ∃ k : Nat, k ≤ m ∧ i = .int .i64 k ∧ OwnUU 49 W gn gn m (fun j => if j < k then corS m es j else []) ∧ Below gn w2 W) (fun i _ => m - (intOf i).toNat)
    case atStart => exact ⟨0, Nat.zero_le _, rfl, by simpa using hU0, hb3⟩
    case round =>
      obtain ⟨k, hk, rfl, hU, hbW⟩ := hrel
      clear hU0 hb3
      by_cases hlt : k < m
      · have hgW : gn ≤ wr.heap.size := Nat.le_trans (Nat.le_of_eq HGN.out) hbW.size
        have hTW := hT2.step (by rw [← HGN.out]; exact hbW)
        have huW := (hu.below hbW).more hgW
        obtain ⟨b, off, A5, c5, rfl, hb5, hc5, hs5⟩ := hu.at_ (k := k) (by rw [behs_len]; exact hlt)
        have hcW := (hbW.cell (p := ⟨b, off + k, none⟩) hb5).trans hc5
        have hsW := (hs5.below hbW).more hgW
        rw [st_behs _ hlt] at hcW hsW
        have hbl := beh_len m es k
        have hUl := behU_len hin k
        have hlt2 := mem_beh_lt hin k
        clear hs5 hc5 hR2 hrn hre hrf0 hrf1
        obtain ⟨xs, hxs⟩ : ∃ xs, xs = beh m es k := ⟨_, rfl⟩
        rw [← hxs] at hcW hsW hbl hUl hlt2
        have HXS := Lib.hid hxs
        clear hxs
        go_wp2_with fail
        refine (union_any _ A5 _ c5 m (behs m es) (behs_len _ _) xs _ huW hsW hlt2 (behs_room _ _) hbl hTW).mono ?_
        rintro e w5 ⟨A6, c6, rfl, hr6, hb6⟩
        go_wp2_with fail
        refine (opless_own A5 A6 c5 c6 xs _ w5 (hsW.step hb6) hr6 (by omega) (by omega)).mono ?_
        rintro e w7 ⟨A7, c7, rfl, hr7, hb7⟩
        have hcor : mrg lessN xs (unionL (behs m es) (mem xs)) = corS m es k := by rw [HXS.out]; rfl
        rw [hcor] at hr7 ⊢
        have hb67 := hb6.trans (hb7.mono hb6.size)
        have hU6 := hU.step hb67
        obtain ⟨A8, c8, hc8, hf8, _⟩ := hU6.cell hlt
        have hU7 := hU6.set (i := k) (c' := c7) (hr7.imp fun b hb => Nat.le_trans (Nat.le_trans hgW hb6.size) hb.1)
        have hb9 : Below gn w2 (w7.setCell ⟨gn, k, none⟩ (.slice A7 (corS m es k).length c7)) := (hbW.trans (hb67.mono hgW)).setCell (p := ⟨gn, k, none⟩) (Nat.le_refl _) _
        clear hU hU6 hr6 hr7 hb6 hb7 hb67 hbW hsW hcW huW hTW hcor
        have he7 : (fun j => if j = k then corS m es k else if j < k then corS m es j else []) = (fun j => if j < k + 1 then corS m es j else []) := by
          funext j
          by_cases e1 : j = k
          · subst e1
            rw [if_pos rfl, if_pos (by omega)]
          · rw [if_neg e1]
            by_cases e2 : j < k
            · rw [if_pos e2, if_pos (by omega)]
            · rw [if_neg e2, if_neg (by omega)]
        rw [he7] at hU7
        clear he7
        go_wp2
        go_roundw
        case rel => exact ⟨k + 1, by omega, by go_num, hU7, hb9⟩
        case measure => simp [intOf]; omega
      · obtain rfl : k = m := by omega
        have hgW : gn ≤ wr.heap.size := Nat.le_trans (Nat.le_of_eq HGN.out) hbW.size
        have hx := hU.rd (by omega)
        have he8 : (List.range k).map (fun j => if j < k then corS k es j else []) = cors k es := List.map_congr_left fun j hj => by rw [if_pos (List.mem_range.1 hj)]
        rw [he8] at hx
        have hTW := hT2.step (by rw [← HGN.out]; exact hbW)
        have hR3 : GB 24 wr (gc + 1) 0 (.slice none 0 0) := (hbW.block (gc + 1) hs2).trans hR2
        have hs3 : gc + 1 < wr.heap.size := Nat.lt_of_lt_of_le hs2 hgW
        have hB3 : Below w.heap.size w wr := hB2.trans (hbW.mono (by have := hB2.size; have := HGN.out; omega))
        clear hU he8 hR2 hrn hre hrf0 hrf1 hu hB2 hT2
        go_wp2_with fail
        refine (fromSets_any k hm2 _ _ (cors k es) (cors_len _ _) _ hx.toUU (cors_bits hin) (cors_room hin) hTW).mono ?_
        rintro e w4 ⟨A3, c3, rfl, hr3, hA3, hb4⟩
        have hR4 : GB 24 w4 (gc + 1) 0 (.slice none 0 0) := (hb4.block (gc + 1) hs3).trans hR3
        have hB4 : Below w.heap.size w w4 := hB3.trans (hb4.mono hB3.size)
        have hrn := hR4.n
        have hre := hR4.e
        have hrf0 := hR4.frozen 0
        have hrf1 := hR4.frozen 1
        have hR5 := (hR4.set0 (k : Int)).set (.slice A3 (elI (elist (cors k es) k)).length c3)
        clear hR3 hB3 hb4 hx hTW
        go_wp2
        (try simp only [Exit.inBlock, Exit.then])
        refine bodyPost_ret (results_row_tmp rfl _ _ (gc + 1) 24 _ (0, 0) _ rfl hR5 rfl rfl Tryd.infoGr) rfl ?_
        have hG := HGC.out
        have hbf : Below (gc + 1) w4 ((w4.setCell ⟨gc + 1, 0, none⟩ (.int .i64 (k : Int))).setCell ⟨gc + 1, 1, none⟩ (.slice A3 (elI (elist (cors k es) k)).length c3)) := ((Below.refl _ _).setCell (p := ⟨gc + 1, 0, none⟩) (Nat.le_refl _) _).setCell (p := ⟨gc + 1, 1, none⟩) (Nat.le_refl _) _
        have hne : (Value.slice A3 (elI (elist (cors k es) k)).length c3).ownBlock ≠ some (gc + 1) := fun e => by
          have := hA3 _ e
          omega
        rw [E1.out, E2.out, HE.out]
        exact ⟨A3, c3, rfl, by rw [World.size_setCell, World.size_setCell]; exact (hr3.set (p := ⟨gc + 1, 0, none⟩) hne _).set (p := ⟨gc + 1, 1, none⟩) hne _, hB4.trans (hbf.mono (by omega))⟩
  · have e1 : nG N es = 0 := by unfold nG; rw [if_neg hE]
    have e2 : corG N es = [] := by unfold corG; rw [if_neg hE]
    have e3 : behG N es = [] := by unfold behG; rw [if_neg hE]
    rw [e3]
    have E1 := Lib.hid e1
    have E2 := Lib.hid e2
    clear e1 e2 e3
    obtain ⟨E, hEE⟩ : ∃ E, E = errn N es := ⟨_, rfl⟩
    rw [← hEE] at hE ⊢
    have hb : (E != 0) = true := by simpa using hE
    have HE := Lib.hid hEE
    have hR3 := (hR2.set0 0).set (.slice none 0 0)
    clear hE hEE hu
    go_wp2
    (try simp only [Exit.inBlock, Exit.then])
    refine bodyPost_ret (results_row_tmp rfl _ _ (gc + 1) 24 _ (0, 0) _ rfl hR3 rfl rfl Tryd.infoGr) rfl ?_
    have hG := HGC.out
    rw [E1.out, E2.out, ← HE.out]
    exact ⟨none, 0, rfl, rdE_nil _ _ _, (hB2.setCell (p := ⟨gc + 1, 0, none⟩) (by dsimp only; omega) _).setCell (p := ⟨gc + 1, 1, none⟩) (by dsimp only; omega) _⟩
end Go.Proofs.YtaboafkpmgadmaaDoor
