/-
  Contracts of graph.Closure and graph.Core.
  Contract of graph.Sort, whole; forkwrightkeep.alive2 answers true.
  The law GraphWrong: graph.Wrong and the reference's BWrong answer the same, for every graph.
  The law GraphBehind: what is behind what is behind is behind; nothing is behind itself; of two nodes one at most is behind the other.
-/
import Derived.Test.YtaboafkpmgadmaaDoorPk08
import Derived.Test.YtaboafkpmgadmaaDoorPk03
import Derived.Test.YtaboafkpmgadmaaDoorPk04
import Derived.Deep.RegionHeld3
import Derived.Deep.DrawnRows
import Derived.Test.YtaboafkpmgadmaaDoorPk06
namespace Go.Proofs.YtaboafkpmgadmaaDoor
open Go.RowKit Go.Shelf
set_option maxRecDepth 100000

theorem results_row_tmp {P : Program} {fn : Func} {p u : Tmp} {ty : TypeId} (h : fn.results = #[.cell p ty, .tmp u]) (tmps : Array Value) (w : World) (g : Nat) (t : TypeId) (cs : Array Value) (fr : Nat × Nat) (d : TypeDesc)
    (hp : tmps.getD p undef = .pointer (some ⟨g, 0, none⟩)) (hg : w.heap[g]? = some (.cells cs t fr))
    (hu : P.underlying ty = some d) (hd : (match d with | .struct _ | .array _ _ => true | _ => false) = true) (hi : (P.info? ty).map (·.size) = some cs.size) :
    (results fn tmps).run P w = .ok (.tuple #[.agg cs, tmps.getD u undef]) w := by
  have hp' : tmps[p]?.getD undef = .pointer (some ⟨g, 0, none⟩) := by simpa using hp
  simp [results, h, hp', asAddr, run_loadVar_row w g t ty cs fr d hg hu hd hi]

theorem errn_split {N : Int} {es : List (Int × Int)} (h : errn N es = 0) : ∃ m : Nat, N = (m : Int) ∧ inR m es = true ∧ (ordr m es).length = m := by
  unfold errn at h
  split at h
  · rename_i hin
    have hm := okN_of hin
    obtain ⟨m, rfl⟩ : ∃ m : Nat, N = (m : Int) := ⟨N.toNat, by omega⟩
    rw [Int.toNat_natCast] at h
    have := ordr_le m es
    refine ⟨m, rfl, hin, ?_⟩
    split at h
    · omega
    · omega
  · omega

theorem opless_own (A A' : Option Addr) (c c' : Nat) (xs ys : List Nat) (w : World) (hx : RdU w w.heap.size A xs) (hy : RdU w w.heap.size A' ys) (hxl : xs.length ≤ 35184372088832) (hyl : ys.length ≤ 35184372088832) :
    Calls Tryd.prog 61 #[.slice A xs.length c, .slice A' ys.length c'] w fun e w' => ∃ A1 c1, e = .returned (.slice A1 (mrg lessN xs ys).length c1) ∧ RdUp w' (fun b => w.heap.size ≤ b ∧ b < w'.heap.size) A1 (mrg lessN xs ys) ∧ Below w.heap.size w w' := by
  go_enter Tryd.func61, Tryd.ntmps61
  go_wp2_with fail
  refine (mergelessN_any A A' c c' xs ys _ hx hy hxl hyl).mono ?_
  rintro e w1 ⟨v, rfl, hown, hB⟩
  have hle := mrg_le lessN xs ys
  obtain ⟨A1, c1, rfl, hr⟩ := own_rdUp hown (fun k => by rw [mrg_wd rfl]; exact lessN_lt _ _ (hx.lt k)) (by omega)
  have hr2 := hr.lt'
  clear hown hr
  go_wp2
  go_ret
  exact ⟨_, _, rfl, hr2, hB⟩

theorem rdE_nil (w : World) (B : Nat) (A : Option Addr) : RdE w B A [] := ⟨by simp [ed], by simp [ed], by simp [ed], by simp [ed], by simp, fun h => by simp at h⟩
theorem rdUU_nil (w : World) (B : Nat) (A : Option Addr) : RdUU w B A [] := ⟨by simp, fun _ => none, fun _ => 0, fun h => by simp at h, fun k h => by simp at h⟩

theorem RdE.set {w : World} {B n c : Nat} {A : Option Addr} {es : List (Int × Int)} (h : RdE w B A es) {p : Addr} (hp : (Value.slice A n c).ownBlock ≠ some p.block) (v : Value) : RdE (w.setCell p v) B A es :=
  ⟨h.lo1, h.hi1, h.lo2, h.hi2, h.room, fun hn => by
    obtain ⟨b, off, hA, hb, hc⟩ := h.rd hn
    have hne : p.block ≠ b := fun e => hp (by rw [hA, e]; rfl)
    exact ⟨b, off, hA, hb, fun k hk => ⟨(World.cell?_setCell_far w p _ v hne).trans (hc k hk).1, (World.cell?_setCell_far w p _ v hne).trans (hc k hk).2⟩⟩⟩

/-- what follows each node -/
def behs (m : Nat) (es : List (Int × Int)) : List (List Nat) := (List.range m).map (beh m es)
theorem behs_len (m : Nat) (es : List (Int × Int)) : (behs m es).length = m := by simp [behs]
theorem st_behs {m k : Nat} (es : List (Int × Int)) (h : k < m) : st (behs m es) k = beh m es k := st_map _ _ _ h
theorem behs_bits {m : Nat} {es : List (Int × Int)} (h : inR m es = true) : ∀ k, k < m → ∀ j, bitB (st (behs m es) k) j = true → j < m := fun k hk j hj => by
  rw [st_behs _ hk, beh_bit h] at hj
  exact (fw_lt h hj).2
theorem behs_room (m : Nat) (es : List (Int × Int)) : ∀ k, k < m → (st (behs m es) k).length ≤ 1024 := fun k hk => by rw [st_behs _ hk]; exact beh_len _ _ _
theorem mem_beh_lt {m : Nat} {es : List (Int × Int)} (h : inR m es = true) (k : Nat) : ∀ j, j ∈ mem (beh m es k) → j < m := fun j hj => by
  rw [mem_iff, beh_bit h] at hj
  exact (fw_lt h hj).2
/-- what follows a node at once -/
def corS (m : Nat) (es : List (Int × Int)) (k : Nat) : List Nat := mrg lessN (beh m es k) (unionL (behs m es) (mem (beh m es k)))
def cors (m : Nat) (es : List (Int × Int)) : List (List Nat) := (List.range m).map (corS m es)
theorem cors_len (m : Nat) (es : List (Int × Int)) : (cors m es).length = m := by simp [cors]
theorem st_cors {m k : Nat} (es : List (Int × Int)) (h : k < m) : st (cors m es) k = corS m es k := st_map _ _ _ h
theorem behU_len {m : Nat} {es : List (Int × Int)} (h : inR m es = true) (k : Nat) : (unionL (behs m es) (mem (beh m es k))).length ≤ 1024 := unionL_len _ _ fun j hj => behs_room m es j (mem_beh_lt h k j hj)
theorem corS_len {m : Nat} {es : List (Int × Int)} (h : inR m es = true) (k : Nat) : (corS m es k).length ≤ 1024 := by
  have h1 := mrg_le lessN (beh m es k) (unionL (behs m es) (mem (beh m es k)))
  have h2 := beh_len m es k
  have h3 := behU_len h k
  unfold corS
  omega
theorem corS_bit {m : Nat} {es : List (Int × Int)} (h : inR m es = true) (k j : Nat) : bitB (corS m es k) j = (fw (gR es) m k j && !((List.range m).any fun c => fw (gR es) m k c && fw (gR es) m c j)) := by
  unfold corS
  rw [less_bit _ _ (unionL_ws _ _ fun c hc => by rw [st_behs _ (mem_beh_lt h k c hc)]; exact beh_ws _ _ _), beh_bit h, union_bit]
  congr 2
  rw [Bool.eq_iff_iff, List.any_eq_true, List.any_eq_true]
  constructor
  · rintro ⟨c, hc, e⟩
    have hlt := mem_beh_lt h k c hc
    rw [st_behs _ hlt, beh_bit h] at e
    rw [mem_iff, beh_bit h] at hc
    exact ⟨c, List.mem_range.2 hlt, by rw [hc, e]; rfl⟩
  · rintro ⟨c, hc, e⟩
    rw [Bool.and_eq_true] at e
    refine ⟨c, by rw [mem_iff, beh_bit h]; exact e.1, ?_⟩
    rw [st_behs _ (List.mem_range.1 hc), beh_bit h]
    exact e.2
theorem cors_bits {m : Nat} {es : List (Int × Int)} (h : inR m es = true) : ∀ k, k < m → ∀ j, bitB (st (cors m es) k) j = true → j < m := fun k hk j hj => by
  rw [st_cors _ hk, corS_bit h, Bool.and_eq_true] at hj
  exact (fw_lt h hj.1).2
theorem cors_room {m : Nat} {es : List (Int × Int)} (h : inR m es = true) : ∀ k, k < m → (st (cors m es) k).length ≤ 1024 := fun k hk => by rw [st_cors _ hk]; exact corS_len h k

/-- the graph of the answer: its nodes, and its edges -/
def nG (N : Int) (es : List (Int × Int)) : Int := if errn N es = 0 then N else 0
def behG (N : Int) (es : List (Int × Int)) : List (List Nat) := if errn N es = 0 then behs N.toNat es else []
def clsG (N : Int) (es : List (Int × Int)) : List (Int × Int) := if errn N es = 0 then elI (elist (behs N.toNat es) N.toNat) else []
def corG (N : Int) (es : List (Int × Int)) : List (Int × Int) := if errn N es = 0 then elI (elist (cors N.toNat es) N.toNat) else []

theorem behind_any (A : Option Addr) (c : Nat) (N : Int) (es : List (Int × Int)) (w : World) (he : RdE w w.heap.size A es) (hT : Tab w) :
    Calls Tryd.prog 15 #[.agg #[.int .i64 N, .slice A es.length c]] w fun e w' => ∃ A1 c1, e = .returned (.tuple #[.slice A1 (behG N es).length c1, .int .i64 (errn N es)]) ∧ RdUU w' w'.heap.size A1 (behG N es) ∧ Below w.heap.size w w' := by
  by_cases hE : errn N es = 0
  · obtain ⟨m, rfl, hin, hfull⟩ := errn_split hE
    refine (callsIn_wide.1 (behind_in 14 (Nat.le_refl _) A c m es w he hin hfull hT)).mono ?_
    rintro e w' ⟨A1, rfl, h1, h2⟩
    have hb : behG m es = behs m es := by unfold behG; rw [if_pos hE, Int.toNat_natCast]
    rw [hb, hE, behs_len]
    exact ⟨A1, m, rfl, h1, h2⟩
  · refine (behind_no A c N es w he hT hE).mono ?_
    rintro e w' ⟨rfl, h2⟩
    have hb : behG N es = [] := by unfold behG; rw [if_neg hE]
    rw [hb]
    exact ⟨none, 0, rfl, rdUU_nil _ _ _, h2⟩
theorem fromSets_any (m : Nat) (hm : m ≤ 200) (A : Option Addr) (c : Nat) (xss : List (List Nat)) (hl : xss.length = m) (w : World) (hx : RdUU w w.heap.size A xss)
    (hbits : ∀ k, k < m → ∀ j, bitB (st xss k) j = true → j < m) (hroom : ∀ k, k < m → (st xss k).length ≤ 1024) (hT : Tab w) :
    Calls Tryd.prog 62 #[.slice A m c] w fun e w' => ∃ A1 c1, e = .returned (.agg #[.int .i64 (m : Int), .slice A1 (elI (elist xss m)).length c1]) ∧ RdE w' w'.heap.size A1 (elI (elist xss m)) ∧ (∀ b, (Value.slice A1 (elI (elist xss m)).length c1).ownBlock = some b → w.heap.size ≤ b) ∧ Below w.heap.size w w' :=
  callsIn_wide.1 (fromSets_in 8 (Nat.le_refl _) m hm A c xss hl w hx hbits hroom hT)


set_option maxHeartbeats 1000000 in
theorem core_any (A : Option Addr) (c : Nat) (N : Int) (es : List (Int × Int)) (w : World) (he : RdE w w.heap.size A es) (hT : Tab w) :
    Calls Tryd.prog 23 #[.agg #[.int .i64 N, .slice A es.length c]] w fun e w' => ∃ A1 c1, e = .returned (.tuple #[.agg #[.int .i64 (nG N es), .slice A1 (corG N es).length c1], .int .i64 (errn N es)]) ∧ RdE w' w'.heap.size A1 (corG N es) ∧ Below w.heap.size w w' := by
  go_enter Tryd.func23, Tryd.ntmps23
  go_wp2_with fail
  have hR0 := GB.new (w.alloc (.cells #[.int .i64 N, .slice A es.length c] 24)) 24 0 (.slice none 0 0)
  obtain ⟨w1, hw1⟩ : ∃ w1, w1 = (w.alloc (.cells #[.int .i64 N, .slice A es.length c] 24)).alloc (.cells #[.int .i64 0, .slice none 0 0] 24) := ⟨_, rfl⟩
  have hb1 : Below w.heap.size w w1 := by rw [hw1]; exact ((Below.refl _ _).alloc (Nat.le_refl _) _).alloc (by simp) _
  have hs1 : w.heap.size + 1 < w1.heap.size := by rw [hw1]; simp
  rw [World.size_alloc] at hR0
  rw [← hw1] at hR0 ⊢
  have he1 := he.step hb1
  have hT1 := hT.step hb1
  obtain ⟨gc, hgc⟩ : ∃ gc, gc = w.heap.size := ⟨_, rfl⟩
  rw [← hgc] at hR0 hs1 ⊢
  have HGC := Lib.hid hgc
  clear hw1 hgc he hT
  refine (behind_any A c N es _ he1 hT1).mono ?_
  rintro e w2 ⟨A1, c1, rfl, hu, hb2⟩
  have hR2 : GB 24 w2 (gc + 1) 0 (.slice none 0 0) := (hb2.block (gc + 1) hs1).trans hR0
  have hT2 := hT1.step hb2
  have hs2 : gc + 1 < w2.heap.size := Nat.lt_of_lt_of_le hs1 hb2.size
  have hB2 : Below w.heap.size w w2 := hb1.trans (hb2.mono hb1.size)
  clear hR0 he1 hT1 hb1 hs1 hb2
  have hrn := hR2.n
  have hre := hR2.e
  have hrf0 := hR2.frozen 0
  have hrf1 := hR2.frozen 1
  by_cases hE : errn N es = 0
  · obtain ⟨m, rfl, hin, hfull⟩ := errn_split hE
    have hm := okN_of hin
    have hm2 : m ≤ 200 := by omega
    have e1 : nG m es = m := by unfold nG; rw [if_pos hE]
    have e2 : corG m es = elI (elist (cors m es) m) := by unfold corG; rw [if_pos hE, Int.toNat_natCast]
    have e3 : behG m es = behs m es := by unfold behG; rw [if_pos hE, Int.toNat_natCast]
    rw [e3] at hu
    rw [e3, hE, behs_len]
    have E1 := Lib.hid e1
    have E2 := Lib.hid e2
    have HE := Lib.hid hE
    clear e1 e2 e3 hE hfull hm
    have hmk := run_make_row' (P := Tryd.prog) 29 49 (.slice none 0 0) 24 Tryd.underlying29 Tryd.infoSU rfl .i64 .i64 m (by omega) (by omega)
    go_wp2_with fail
    have hU0 := OwnUU.new 49 w2 w2.heap.size m (Nat.le_refl _)
    obtain ⟨w3, hw3⟩ : ∃ w3, w3 = w2.alloc (.cells (madeCells #[.slice none 0 0] m) 49) := ⟨_, rfl⟩
    have hb3 : Below w2.heap.size w2 w3 := by rw [hw3]; exact below_alloc _ _
    rw [← hw3] at hU0 ⊢
    obtain ⟨gn, hgn⟩ : ∃ gn, gn = w2.heap.size := ⟨_, rfl⟩
    rw [← hgn] at hU0 hb3 hu hs2 ⊢
    have HGN := Lib.hid hgn
    clear hw3 hmk hgn
    go_loopw [23] (fun i W => ∃ k : Nat, k ≤ m ∧ i = .int .i64 k ∧ OwnUU 49 W gn gn m (fun j => if j < k then corS m es j else []) ∧ Below gn w2 W) (fun i _ => m - (intOf i).toNat)
    case atStart => exact ⟨0, Nat.zero_le _, rfl, by simpa using hU0, hb3⟩
    case round =>
      obtain ⟨k, hk, rfl, hU, hbW⟩ := hrel
      clear hU0 hb3
      by_cases hlt : k < m
      · have hgW : gn ≤ wr.heap.size := Nat.le_trans (Nat.le_of_eq HGN.out) hbW.size
        have hTW := hT2.step (by rw [← HGN.out]; exact hbW)
        have huW := (hu.below hbW).more hgW
        obtain ⟨b, off, A5, c5, rfl, hb5, hc5, hs5⟩ := hu.at_ (k := k) (by rw [behs_len]; exact hlt)
        have hcW := (hbW.cell (p := ⟨b, off + k, none⟩) hb5).trans hc5
        have hsW := (hs5.below hbW).more hgW
        rw [st_behs _ hlt] at hcW hsW
        have hbl := beh_len m es k
        have hUl := behU_len hin k
        have hlt2 := mem_beh_lt hin k
        clear hs5 hc5 hR2 hrn hre hrf0 hrf1
        obtain ⟨xs, hxs⟩ : ∃ xs, xs = beh m es k := ⟨_, rfl⟩
        rw [← hxs] at hcW hsW hbl hUl hlt2
        have HXS := Lib.hid hxs
        clear hxs
        go_wp2_with fail
        refine (union_any _ A5 _ c5 m (behs m es) (behs_len _ _) xs _ huW hsW hlt2 (behs_room _ _) hbl hTW).mono ?_
        rintro e w5 ⟨A6, c6, rfl, hr6, hb6⟩
        go_wp2_with fail
        refine (opless_own A5 A6 c5 c6 xs _ w5 (hsW.step hb6) hr6 (by omega) (by omega)).mono ?_
        rintro e w7 ⟨A7, c7, rfl, hr7, hb7⟩
        have hcor : mrg lessN xs (unionL (behs m es) (mem xs)) = corS m es k := by rw [HXS.out]; rfl
        rw [hcor] at hr7 ⊢
        have hb67 := hb6.trans (hb7.mono hb6.size)
        have hU6 := hU.step hb67
        obtain ⟨A8, c8, hc8, hf8, _⟩ := hU6.cell hlt
        have hU7 := hU6.set (i := k) (c' := c7) (hr7.imp fun b hb => Nat.le_trans (Nat.le_trans hgW hb6.size) hb.1)
        have hb9 : Below gn w2 (w7.setCell ⟨gn, k, none⟩ (.slice A7 (corS m es k).length c7)) := (hbW.trans (hb67.mono hgW)).setCell (p := ⟨gn, k, none⟩) (Nat.le_refl _) _
        clear hU hU6 hr6 hr7 hb6 hb7 hb67 hbW hsW hcW huW hTW hcor
        have he7 : (fun j => if j = k then corS m es k else if j < k then corS m es j else []) = (fun j => if j < k + 1 then corS m es j else []) := by
          funext j
          by_cases e1 : j = k
          · subst e1
            rw [if_pos rfl, if_pos (by omega)]
          · rw [if_neg e1]
            by_cases e2 : j < k
            · rw [if_pos e2, if_pos (by omega)]
            · rw [if_neg e2, if_neg (by omega)]
        rw [he7] at hU7
        clear he7
        go_wp2
        go_roundw
        case rel => exact ⟨k + 1, by omega, by go_num, hU7, hb9⟩
        case measure => simp [intOf]; omega
      · obtain rfl : k = m := by omega
        have hgW : gn ≤ wr.heap.size := Nat.le_trans (Nat.le_of_eq HGN.out) hbW.size
        have hx := hU.rd (by omega)
        have he8 : (List.range k).map (fun j => if j < k then corS k es j else []) = cors k es := List.map_congr_left fun j hj => by rw [if_pos (List.mem_range.1 hj)]
        rw [he8] at hx
        have hTW := hT2.step (by rw [← HGN.out]; exact hbW)
        have hR3 : GB 24 wr (gc + 1) 0 (.slice none 0 0) := (hbW.block (gc + 1) hs2).trans hR2
        have hs3 : gc + 1 < wr.heap.size := Nat.lt_of_lt_of_le hs2 hgW
        have hB3 : Below w.heap.size w wr := hB2.trans (hbW.mono (by have := hB2.size; have := HGN.out; omega))
        clear hU he8 hR2 hrn hre hrf0 hrf1 hu hB2 hT2
        go_wp2_with fail
        refine (fromSets_any k hm2 _ _ (cors k es) (cors_len _ _) _ hx.toUU (cors_bits hin) (cors_room hin) hTW).mono ?_
        rintro e w4 ⟨A3, c3, rfl, hr3, hA3, hb4⟩
        have hR4 : GB 24 w4 (gc + 1) 0 (.slice none 0 0) := (hb4.block (gc + 1) hs3).trans hR3
        have hB4 : Below w.heap.size w w4 := hB3.trans (hb4.mono hB3.size)
        have hrn := hR4.n
        have hre := hR4.e
        have hrf0 := hR4.frozen 0
        have hrf1 := hR4.frozen 1
        have hR5 := (hR4.set0 (k : Int)).set (.slice A3 (elI (elist (cors k es) k)).length c3)
        clear hR3 hB3 hb4 hx hTW
        go_wp2
        (try simp only [Exit.inBlock, Exit.then])
        refine bodyPost_ret (results_row_tmp rfl _ _ (gc + 1) 24 _ (0, 0) _ rfl hR5 rfl rfl Tryd.infoGr) rfl ?_
        have hG := HGC.out
        have hbf : Below (gc + 1) w4 ((w4.setCell ⟨gc + 1, 0, none⟩ (.int .i64 (k : Int))).setCell ⟨gc + 1, 1, none⟩ (.slice A3 (elI (elist (cors k es) k)).length c3)) := ((Below.refl _ _).setCell (p := ⟨gc + 1, 0, none⟩) (Nat.le_refl _) _).setCell (p := ⟨gc + 1, 1, none⟩) (Nat.le_refl _) _
        have hne : (Value.slice A3 (elI (elist (cors k es) k)).length c3).ownBlock ≠ some (gc + 1) := fun e => by
          have := hA3 _ e
          omega
        rw [E1.out, E2.out, HE.out]
        exact ⟨A3, c3, rfl, by rw [World.size_setCell, World.size_setCell]; exact (hr3.set (p := ⟨gc + 1, 0, none⟩) hne _).set (p := ⟨gc + 1, 1, none⟩) hne _, hB4.trans (hbf.mono (by omega))⟩
  · have e1 : nG N es = 0 := by unfold nG; rw [if_neg hE]
    have e2 : corG N es = [] := by unfold corG; rw [if_neg hE]
    have e3 : behG N es = [] := by unfold behG; rw [if_neg hE]
    rw [e3]
    have E1 := Lib.hid e1
    have E2 := Lib.hid e2
    clear e1 e2 e3
    obtain ⟨E, hEE⟩ : ∃ E, E = errn N es := ⟨_, rfl⟩
    rw [← hEE] at hE ⊢
    have hb : (E != 0) = true := by simpa using hE
    have HE := Lib.hid hEE
    have hR3 := (hR2.set0 0).set (.slice none 0 0)
    clear hE hEE hu
    go_wp2
    (try simp only [Exit.inBlock, Exit.then])
    refine bodyPost_ret (results_row_tmp rfl _ _ (gc + 1) 24 _ (0, 0) _ rfl hR3 rfl rfl Tryd.infoGr) rfl ?_
    have hG := HGC.out
    rw [E1.out, E2.out, ← HE.out]
    exact ⟨none, 0, rfl, rdE_nil _ _ _, (hB2.setCell (p := ⟨gc + 1, 0, none⟩) (by dsimp only; omega) _).setCell (p := ⟨gc + 1, 1, none⟩) (by dsimp only; omega) _⟩
end Go.Proofs.YtaboafkpmgadmaaDoor

namespace Go.Proofs.YtaboafkpmgadmaaDoor
open Go.RowKit Go.Shelf
set_option maxRecDepth 100000

def ordG (N : Int) (es : List (Int × Int)) : List Int := if errn N es = 0 then toI (ordr N.toNat es) else []
theorem zd_toI_bd (L : List Nat) (m : Nat) (h : ∀ x, x ∈ L → x < m) (k : Nat) : 0 ≤ zd (toI L) k ∧ zd (toI L) k ≤ (m : Int) := by
  unfold zd toI
  rw [List.getD_eq_getElem?_getD, List.getElem?_map]
  cases he : L[k]? with
  | none => simp
  | some x =>
    have := h x (List.mem_of_getElem? he)
    simp
    omega
theorem sort_any (A : Option Addr) (c : Nat) (N : Int) (es : List (Int × Int)) (w : World) (he : RdE w w.heap.size A es) (hT : Tab w) :
    Calls Tryd.prog 13 #[.agg #[.int .i64 N, .slice A es.length c]] w fun e w' => ∃ A1 c1, e = .returned (.tuple #[.slice A1 (ordG N es).length c1, .int .i64 (errn N es)]) ∧ RdI w' w'.heap.size A1 (ordG N es) ∧ Below w.heap.size w w' := by
  cases hin : inR N es with
  | false =>
    refine (sort_no A c N es w he hin).mono ?_
    rintro e w' ⟨rfl, h2⟩
    have hE := errn_no hin
    have hb : ordG N es = [] := by unfold ordG; rw [if_neg (by omega)]
    rw [hb, hE]
    exact ⟨none, 0, rfl, ⟨fun k => by simp [zd], fun k => by simp [zd], by simp, fun h => by simp at h⟩, h2⟩
  | true =>
    have hm := okN_of hin
    obtain ⟨m, rfl⟩ : ∃ m : Nat, N = (m : Int) := ⟨N.toNat, by omega⟩
    refine (callsIn_wide.1 (sort_in 12 (Nat.le_refl _) A c m es w he hin hT)).mono ?_
    rintro e w' ⟨(⟨hl, v, rfl, hown⟩ | ⟨hlt, rfl⟩), h2⟩
    · have hE := errn_ok hin hl
      have hb : ordG m es = toI (ordr m es) := by unfold ordG; rw [if_pos hE, Int.toNat_natCast]
      have hgood : Good (gR es) m (ordr m es) := good_topoN _ _ _
      have hbd := zd_toI_bd (ordr m es) m hgood.lt
      obtain ⟨A1, c1, rfl, hr⟩ := own_rdI hown (fun k => by have := hbd k; omega) (fun k => by have := hbd k; omega) (by rw [toI_len]; omega)
      rw [hb, hE]
      exact ⟨A1, c1, rfl, hr, h2⟩
    · have hE := errn_loop hin hlt
      have hb : ordG m es = [] := by unfold ordG; rw [if_neg (by omega)]
      rw [hb, hE]
      exact ⟨none, 0, rfl, ⟨fun k => by simp [zd], fun k => by simp [zd], by simp, fun h => by simp at h⟩, h2⟩

theorem rdE_lit (w : World) (E : TypeId) (es : List (Int × Int)) (h : ∀ e ∈ es, (-9223372036854775808 ≤ e.1 ∧ e.1 ≤ 9223372036854775807) ∧ -9223372036854775808 ≤ e.2 ∧ e.2 ≤ 9223372036854775807) (hl : es.length ≤ 1099511627776) :
    RdE (w.alloc (.cells (eVals es).toArray E)) (w.alloc (.cells (eVals es).toArray E)).heap.size (some ⟨w.heap.size, 0, none⟩) es := by
  have hb : ∀ k, (-9223372036854775808 ≤ (ed es k).1 ∧ (ed es k).1 ≤ 9223372036854775807) ∧ -9223372036854775808 ≤ (ed es k).2 ∧ (ed es k).2 ≤ 9223372036854775807 := fun k => by
    unfold ed
    rw [List.getD_eq_getElem?_getD]
    cases he : es[k]? with
    | none => simp
    | some e => exact h e (List.mem_of_getElem? he)
  refine ⟨fun k => (hb k).1.1, fun k => (hb k).1.2, fun k => (hb k).2.1, fun k => (hb k).2.2, hl, fun _ => ⟨w.heap.size, 0, rfl, by simp, fun k hk => ?_⟩⟩
  have hg := World.alloc_heap_new w (.cells (eVals es).toArray E)
  have := eVals_at es k hk
  rw [Nat.zero_add, cell_of_row _ _ _ _ _ _ hg, cell_of_row _ _ _ _ _ _ hg]
  simpa using this

abbrev es3 : List (Int × Int) := [(2, 0), (0, 1), (2, 1)]
theorem es3_err : errn 3 es3 = 0 := by decide +kernel
theorem es3_ord : ordG 3 es3 = [2, 0, 1] := by decide +kernel
theorem es3_beh : behG 3 es3 = [[2], [], [3]] := by decide +kernel
theorem es3_cor : (corG 3 es3).length = 2 := by decide +kernel
theorem es1_err : errn 1 [(0, 0)] = 3 := by decide +kernel

set_option maxHeartbeats 1000000 in
theorem alive2_any (w : World) (hT : Tab w) :
    Calls Tryd.prog 19 #[] w fun e w' => e = .returned (.bool true) ∧ Below w.heap.size w w' := by
  go_enter Tryd.func19, Tryd.ntmps19
  go_wp2_with fail
  have r0 : RdE (w.alloc (.cells #[.int .i64 2, .int .i64 0, .int .i64 0, .int .i64 1, .int .i64 2, .int .i64 1] 38)) (w.alloc (.cells #[.int .i64 2, .int .i64 0, .int .i64 0, .int .i64 1, .int .i64 2, .int .i64 1] 38)).heap.size (some ⟨w.heap.size, 0, none⟩) es3 := rdE_lit w 38 es3 (by decide) (by decide)
  have hG0 := GB.new (w.alloc (.cells #[.int .i64 2, .int .i64 0, .int .i64 0, .int .i64 1, .int .i64 2, .int .i64 1] 38)) 24 3 (.slice (some ⟨w.heap.size, 0, none⟩) 3 3)
  obtain ⟨w1, hw1⟩ : ∃ w1, w1 = (w.alloc (.cells #[.int .i64 2, .int .i64 0, .int .i64 0, .int .i64 1, .int .i64 2, .int .i64 1] 38)).alloc (.cells #[.int .i64 3, .slice (some ⟨w.heap.size, 0, none⟩) 3 3] 24) := ⟨_, rfl⟩
  have hB : Below w.heap.size w w1 := by rw [hw1]; exact ((Below.refl _ _).alloc (Nat.le_refl _) _).alloc (by simp) _
  have hs := hB.size
  have hs1 : w.heap.size + 1 < w1.heap.size := by rw [hw1]; simp
  have r1 : RdE w1 w1.heap.size (some ⟨w.heap.size, 0, none⟩) es3 := by rw [hw1]; exact r0.step (below_alloc _ _)
  rw [World.size_alloc] at hG0
  rw [← hw1] at hG0 ⊢
  replace hT := hT.step hB
  clear r0 hw1
  have hgn := hG0.n
  have hge := hG0.e
  refine (sort_any _ 3 3 es3 _ r1 hT).mono ?_
  rw [es3_ord, es3_err]
  rintro e w2 ⟨A1, c1, rfl, l1, hb⟩
  replace hG0 : GB 24 w2 (w.heap.size + 1) 3 (.slice (some ⟨w.heap.size, 0, none⟩) 3 3) := (hb.block (w.heap.size + 1) hs1).trans hG0
  replace hs1 := Nat.lt_of_lt_of_le hs1 hb.size
  replace r1 := r1.step hb
  replace hT := hT.step hb
  replace hB := below_step hB hs hb
  replace hs := hB.size
  clear hb hgn hge
  have hgn := hG0.n
  have hge := hG0.e
  go_wp2_with fail
  refine (behind_any _ 3 3 es3 _ r1 hT).mono ?_
  rw [es3_beh, es3_err]
  rintro e w3 ⟨A2, c2, rfl, u2, hb⟩
  replace hG0 : GB 24 w3 (w.heap.size + 1) 3 (.slice (some ⟨w.heap.size, 0, none⟩) 3 3) := (hb.block (w.heap.size + 1) hs1).trans hG0
  replace hs1 := Nat.lt_of_lt_of_le hs1 hb.size
  replace r1 := r1.step hb
  replace l1 := l1.step hb
  replace hT := hT.step hb
  replace hB := below_step hB hs hb
  replace hs := hB.size
  clear hb hgn hge
  have hgn := hG0.n
  have hge := hG0.e
  go_wp2_with fail
  refine (core_any _ 3 3 es3 _ r1 hT).mono ?_
  rw [es3_cor, es3_err, show nG 3 es3 = 3 by decide +kernel]
  rintro e w4 ⟨A3, c3, rfl, _, hb⟩
  replace l1 := l1.step hb
  replace u2 := u2.step hb
  replace hT := hT.step hb
  replace hB := below_step hB hs hb
  replace hs := hB.size
  clear hb hgn hge hG0 hs1 r1
  go_wp2_with fail
  have hc0 := GB.new w4 24 3 (.slice A3 2 c3)
  have hb := below_alloc w4 (.cells #[.int .i64 3, .slice A3 2 c3] 24)
  replace l1 := l1.step hb
  replace u2 := u2.step hb
  replace hT := hT.step hb
  replace hB := below_step hB hs hb
  replace hs := hB.size
  clear hb
  obtain ⟨w5, hw5⟩ : ∃ w5, w5 = w4.alloc (.cells #[.int .i64 3, .slice A3 2 c3] 24) := ⟨_, rfl⟩
  have hs5 : w4.heap.size + 1 = w5.heap.size := by rw [hw5]; simp
  rw [← hw5] at l1 u2 hT hB hs hc0 ⊢
  rw [hs5]
  clear hw5 hs5
  have r4 := rd_lit w5 3 [2, 0, 1] (by decide) (by decide)
  have hb := below_alloc w5 (.cells (iVals [2, 0, 1]).toArray 3)
  replace hc0 := hc0.alloc (.cells (iVals [2, 0, 1]).toArray 3)
  replace l1 := l1.step hb
  replace u2 := u2.step hb
  replace hT := hT.step hb
  replace hB := below_step hB hs hb
  replace hs := hB.size
  clear hb
  refine (equalI_same A1 _ c1 3 [2, 0, 1] _ l1 r4).mono ?_
  rintro e w7 ⟨rfl, hb⟩
  have hc7 : GB 24 w7 w4.heap.size 3 (.slice A3 2 c3) := (hb.block w4.heap.size hc0.lt).trans hc0
  replace u2 := u2.step hb
  replace hT := hT.step hb
  replace hB := below_step hB hs hb
  replace hs := hB.size
  clear hb l1 r4 hc0
  obtain ⟨b8, off8, A8, c8, rfl, hb8, hc8, hs8⟩ := u2.at_ (k := 2) (by decide)
  have hc8' : w7.cell? ⟨b8, off8 + 2, none⟩ = some (.slice A8 1 c8) := hc8
  have hs8' : RdU w7 w7.heap.size A8 [3] := hs8
  have hce := hc7.e
  clear hc8 hs8 u2
  go_wp2_with fail
  refine (size_any A8 c8 [3] _ hs8' (by decide)).mono ?_
  rw [show ones [3] [3].length = 2 by decide +kernel]
  rintro e w' ⟨rfl, rfl⟩
  go_wp2_with fail
  have r9 := rdE_lit w7 38 [(0, 0)] (by decide) (by decide)
  have hb := below_alloc w7 (.cells (eVals [(0, 0)]).toArray 38)
  replace hT := hT.step hb
  replace hB := below_step hB hs hb
  replace hs := hB.size
  clear hb
  refine (wrong_any _ 1 1 [(0, 0)] _ r9 hT).mono ?_
  rw [es1_err]
  rintro e w9 ⟨rfl, hb⟩
  replace hB := below_step hB hs hb
  go_wp2
  go_ret
  exact ⟨rfl, hB⟩
end Go.Proofs.YtaboafkpmgadmaaDoor

namespace Go.Proofs.YtaboafkpmgadmaaDoor
open Go.RowKit Go.Shelf
set_option maxRecDepth 100000
attribute [local go_sem ↓] Go.wp_at_zero Go.wp_at_succ

/-- the graph's box, and all that lay when it was made, lie as they lay -/
abbrev HeldG (w1 : World) (B : Nat) (N : Int) (A : Option Addr) (l c : Nat) (w' : World) : Prop := w'.cell? ⟨B, 0, none⟩ = some (.int .i64 N) ∧ w'.cell? ⟨B, 1, none⟩ = some (.slice A l c) ∧ Below w1.heap.size w1 w'

theorem HeldG.drew {w1 W : World} {B : Nat} {N : Int} {A : Option Addr} {l c : Nat} (h : HeldG w1 B N A l c W) : HeldG w1 B N A l c W.drew := ⟨h.1, h.2.1, h.2.2.drew⟩
theorem HeldG.step {w1 W w2 : World} {B : Nat} {N : Int} {A : Option Addr} {l c : Nat} (h : HeldG w1 B N A l c W) (hs : B < w1.heap.size) (hb : Below W.heap.size W w2) : HeldG w1 B N A l c w2 := by
  have hlt : B < W.heap.size := Nat.lt_of_lt_of_le hs h.2.2.size
  exact ⟨(hb.cell (p := ⟨B, 0, none⟩) hlt).trans h.1, (hb.cell (p := ⟨B, 1, none⟩) hlt).trans h.2.1, h.2.2.trans (hb.mono h.2.2.size)⟩

end Go.Proofs.YtaboafkpmgadmaaDoor

namespace Go.Proofs.YtaboafkpmgadmaaDoor
open Go.RowKit Go.Shelf
set_option maxRecDepth 100000
attribute [local go_sem ↓] Go.wp_at_zero Go.wp_at_succ

theorem inB_bits {xs ys : List Nat} (hx : Ws xs) (hy : Ws ys) : inB xs ys = true ↔ ∀ n, bitB xs n = true → bitB ys n = true := by
  rw [inB_iff hx hy]
  constructor
  · intro h n hn
    rw [bitB_tb] at hn ⊢
    exact h _ _ (Nat.mod_lt _ (by decide)) hn
  · intro h k j hj hb
    rw [tb_bit _ _ _ hj] at hb ⊢
    exact h _ hb
theorem inB_one (c : Nat) (hc : c ≤ 65535) {ys : List Nat} (hy : Ws ys) : inB (ofS [(c : Int)]) ys = bitB ys c := by
  rw [Bool.eq_iff_iff, inB_bits (ofS_wd _) hy]
  have hb : ∀ n, bitB (ofS [(c : Int)]) n = true ↔ n = c := fun n => by
    rw [ofS_bit, decide_eq_true_iff, mem_alw]
    simp
    omega
  constructor
  · intro h
    exact h c ((hb c).2 rfl)
  · intro h n hn
    rw [(hb n).1 hn]
    exact h
theorem fw_tr {m : Nat} {es : List (Int × Int)} (h : inR m es = true) {i j k : Nat} (h1 : fw (gR es) m i j = true) (h2 : fw (gR es) m j k = true) : fw (gR es) m i k = true :=
  (fw_iff (gR_lt h) _ _).2 (((fw_iff (gR_lt h) _ _).1 h1).trans ((fw_iff (gR_lt h) _ _).1 h2))
theorem fw_irr {m : Nat} {es : List (Int × Int)} (h : inR m es = true) (hfull : (ordr m es).length = m) (i : Nat) : fw (gR es) m i i = false := by
  cases hf : fw (gR es) m i i with
  | false => rfl
  | true =>
    have := (loop_iff h).2 ⟨i, (fw_lt h hf).1, hf⟩
    omega
theorem beh_sub {m : Nat} {es : List (Int × Int)} (h : inR m es = true) {i j : Nat} (h1 : fw (gR es) m i j = true) : inB (beh m es j) (beh m es i) = true := by
  rw [inB_bits (beh_ws _ _ _) (beh_ws _ _ _)]
  intro n hn
  rw [beh_bit h] at hn ⊢
  exact fw_tr h h1 hn

/-- two cells lie as they lay, and all that lay -/
abbrev HeldB (w1 : World) (B : Nat) (v : Value) (b o : Nat) (u : Value) (w' : World) : Prop := w'.cell? ⟨B, 0, none⟩ = some v ∧ w'.cell? ⟨b, o, none⟩ = some u ∧ Below w1.heap.size w1 w'
theorem HeldB.drew {w1 W : World} {B b o : Nat} {v u : Value} (h : HeldB w1 B v b o u W) : HeldB w1 B v b o u W.drew := ⟨h.1, h.2.1, h.2.2.drew⟩
theorem HeldB.step {w1 W w2 : World} {B b o : Nat} {v u : Value} (h : HeldB w1 B v b o u W) (hb : Below W.heap.size W w2) : HeldB w1 B v b o u w2 :=
  ⟨(hb.cell (p := ⟨B, 0, none⟩) (World.block_lt_of_cell? _ _ h.1)).trans h.1, (hb.cell (p := ⟨b, o, none⟩) (World.block_lt_of_cell? _ _ h.2.1)).trans h.2.1, h.2.2.trans (hb.mono h.2.2.size)⟩
theorem HeldB.alloc {w1 W : World} {B b o : Nat} {v u : Value} (h : HeldB w1 B v b o u W) (ob : Obj) : HeldB w1 B v b o u (W.alloc ob) := h.step (below_alloc W ob)


/-- three cells lie as they lay, and all that lay -/
abbrev HeldC (w1 : World) (B : Nat) (v : Value) (b o : Nat) (u : Value) (o2 : Nat) (u2 : Value) (w' : World) : Prop := w'.cell? ⟨B, 0, none⟩ = some v ∧ w'.cell? ⟨b, o, none⟩ = some u ∧ w'.cell? ⟨b, o2, none⟩ = some u2 ∧ Below w1.heap.size w1 w'
theorem HeldC.drew {w1 W : World} {B b o o2 : Nat} {v u u2 : Value} (h : HeldC w1 B v b o u o2 u2 W) : HeldC w1 B v b o u o2 u2 W.drew := ⟨h.1, h.2.1, h.2.2.1, h.2.2.2.drew⟩
theorem HeldC.step {w1 W w2 : World} {B b o o2 : Nat} {v u u2 : Value} (h : HeldC w1 B v b o u o2 u2 W) (hb : Below W.heap.size W w2) : HeldC w1 B v b o u o2 u2 w2 :=
  ⟨(hb.cell (p := ⟨B, 0, none⟩) (World.block_lt_of_cell? _ _ h.1)).trans h.1, (hb.cell (p := ⟨b, o, none⟩) (World.block_lt_of_cell? _ _ h.2.1)).trans h.2.1, (hb.cell (p := ⟨b, o2, none⟩) (World.block_lt_of_cell? _ _ h.2.2.1)).trans h.2.2.1, h.2.2.2.trans (hb.mono h.2.2.2.size)⟩

end Go.Proofs.YtaboafkpmgadmaaDoor
