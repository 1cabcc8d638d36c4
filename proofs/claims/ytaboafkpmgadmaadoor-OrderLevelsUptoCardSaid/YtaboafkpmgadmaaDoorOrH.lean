/-
  Contracts of the reference's CLevels, of height, CHeight and Height.
-/
import Derived.Test.YtaboafkpmgadmaaDoorOrE
namespace Go.Proofs.YtaboafkpmgadmaaDoor
open Go.RowKit
set_option maxRecDepth 100000

/-- the edges as nodes -/
def nE (es : List (Int × Int)) : List (Nat × Nat) := es.map fun e => (e.1.toNat, e.2.toNat)
theorem nE_len (es : List (Int × Int)) : (nE es).length = es.length := by unfold nE; simp
theorem nE_iff {m : Nat} {es : List (Int × Int)} (h : inR m es = true) (a b : Nat) : gR es a b = true ↔ (a, b) ∈ nE es := by
  unfold nE gR
  rw [List.mem_map, decide_eq_true_eq]
  constructor
  · intro hm
    exact ⟨_, hm, by simp⟩
  · rintro ⟨⟨x, y⟩, hz, he⟩
    have := edge_in h hz
    injection he with h1 h2
    dsimp only at h1 h2
    rwa [show (a : Int) = x by omega, show (b : Int) = y by omega]
theorem take_nE (es : List (Int × Int)) (k : Nat) (h : k < es.length) : (nE es).take (k + 1) = (nE es).take k ++ [((ed es k).1.toNat, (ed es k).2.toNat)] := by
  unfold nE
  rw [← List.map_take, ← List.map_take, take_ed es k h, List.map_append]
  rfl
theorem lvs_rnds {m : Nat} {es : List (Int × Int)} (h : inR m es = true) (hfull : (ordr m es).length = m) : lvs m es = rnds (nE es) m :=
  (lvs_lev h hfull).uniq (rnds_lev (ordr_good m es) hfull (gR_lt h) (nE_iff h))

set_option maxHeartbeats 4000000 in
theorem clevels_any (A : Option Addr) (c : Nat) (N : Int) (es : List (Int × Int)) (w : World) (he : RdE w w.heap.size A es) :
    Calls Tryd.prog 30 #[.agg #[.int .i64 N, .slice A es.length c]] w fun e w' => ∃ A1 c1, e = .returned (.tuple #[.slice A1 (levG N es).length c1, .int .i64 (errn N es)]) ∧ RdI w' w'.heap.size A1 (levG N es) ∧ Below w.heap.size w w' := by
  have hroom := he.room
  have hmk := fun m (hm : m ≤ 200) => run_make_row' (P := Tryd.prog) 25 3 (.int .i64 0) 8 Tryd.underlying25 Tryd.infoInt rfl .i64 .i64 m (by omega) (by omega)
  go_enter Tryd.func30, Tryd.ntmps30
  go_wp2_with fail
  have g1 := GB.new w 24 N (.slice A es.length c)
  have hB := below_alloc w (.cells #[.int .i64 N, .slice A es.length c] 24)
  obtain ⟨w1, hw1⟩ : ∃ w1, w1 = w.alloc (.cells #[.int .i64 N, .slice A es.length c] 24) := ⟨_, rfl⟩
  rw [← hw1] at g1 hB ⊢
  have hs := hB.size
  replace he := he.step hB
  clear hw1
  refine (bwrong_any A c N es _ he).mono ?_
  rintro e w3 ⟨rfl, hb⟩
  replace g1 := g1.step hb
  replace he := he.step hb
  replace hB := below_step hB hs hb
  replace hs := hB.size
  clear hb
  by_cases hE : errn N es = 0
  · obtain ⟨m, rfl, hin, hfull⟩ := errn_split hE
    have hm := okN_of hin
    rw [hE]
    have HEE := Lib.hid hE
    have HLE := Lib.hid ((levG_ok hE).trans (by rw [lvs_rnds hin hfull]))
    have n1 := g1.n
    have n4 : ∀ o, (w3.alloc o).cell? ⟨w.heap.size, 0, none⟩ = some (.int .i64 (m : Int)) := fun o => (World.cell?_alloc_lt w3 o ⟨w.heap.size, 0, none⟩ g1.lt).trans n1
    have hmk := hmk m (by omega)
    go_wp2_with fail
    have R := World.rowIs_made w3 (.int .i64 0) m 3
    have hBn := below_alloc w3 (.cells (madeCells #[.int .i64 0] m) 3)
    obtain ⟨w4, hw4⟩ : ∃ w4, w4 = w3.alloc (.cells (madeCells #[.int .i64 0] m) 3) := ⟨_, rfl⟩
    obtain ⟨g, hg⟩ : ∃ g, g = w3.heap.size := ⟨_, rfl⟩
    rw [← hw4] at R hBn ⊢
    rw [← hg] at R hBn he ⊢
    have hgs : w.heap.size ≤ g := by omega
    have hgl := g1.lt
    have e1 := g1.e
    rw [← hg] at hgl
    have HFULL := Lib.hid hfull
    have HGOOD := Lib.hid (ordr_good m es)
    have HRL := Lib.hid (gR_lt hin)
    have HIN := Lib.hid hin
    have HNE := Lib.hid (nE_iff hin)
    clear hw4 hg n1 hE hfull hin g1
    obtain ⟨wo, rfl⟩ : ∃ wo : World, wo = w3 := ⟨_, rfl⟩
    go_loopw [18] (fun i wr => ∃ k : Nat, k ≤ m ∧ i = .int .i64 k ∧ wr.rowIs g 3 m (fun x => .int .i64 ((rnds (nE es) k x : Nat) : Int)) ∧ Below g wo wr) (fun i _ => m - (intOf i).toNat)
    case atStart => exact ⟨0, Nat.zero_le _, rfl, R, hBn⟩
    case round =>
      obtain ⟨k, hk, rfl, hr, hbr⟩ := hrel
      clear R hBn n4
      by_cases hlt : k < m
      · have hS := rnds_snd (R := gR es) (E := nE es) (fun e he => (HNE.out _ _).2 he) k
        obtain ⟨f, hf⟩ : ∃ f, f = rnds (nE es) k := ⟨_, rfl⟩
        have hT0 : rnds (nE es) (k + 1) = rnd (nE es) f := by rw [hf]; rfl
        rw [← hf] at hr hS
        have HS := Lib.hid hS
        have HT := Lib.hid hT0
        have en := (hbr.cell (p := ⟨w.heap.size, 1, none⟩) hgl).trans e1
        clear hf hS hT0
        go_wp2_with fail
        go_loopw [23] (fun i wq => ∃ j : Nat, j ≤ es.length ∧ i = .int .i64 j ∧ wq.rowIs g 3 m (fun y => .int .i64 ((rnd ((nE es).take j) f y : Nat) : Int)) ∧ Below g wo wq) (fun i _ => es.length - (intOf i).toNat)
        case atStart => exact ⟨0, Nat.zero_le _, rfl, hr, hbr⟩
        case round =>
          obtain ⟨j, hj, rfl, hr, hbr⟩ := hrel
          by_cases hjl : j < es.length
          · obtain ⟨b6, off6, rfl, hb6, hc6⟩ := he.rd (by omega)
            have hcx := (hbr.cell (p := ⟨b6, off6 + j * 2, none⟩) hb6).trans (hc6 j hjl).1
            have hcy := (hbr.cell (p := ⟨b6, off6 + j * 2 + 1, none⟩) hb6).trans (hc6 j hjl).2
            obtain ⟨x, y, hex, hey, hxm, hym, hex2, hey2⟩ : ∃ x y : Nat, (ed es j).1 = (x : Int) ∧ (ed es j).2 = (y : Int) ∧ x < m ∧ y < m ∧ (ed es j).1.toNat = x ∧ (ed es j).2.toNat = y := by
              have := edge_in (a := (ed es j).1) (b := (ed es j).2) HIN.out (ed_mem es j hjl)
              exact ⟨(ed es j).1.toNat, (ed es j).2.toNat, by omega, by omega, by omega, by omega, rfl, rfl⟩
            rw [hex] at hcx
            rw [hey] at hcy
            have hto := take_nE es j hjl
            rw [hex2, hey2] at hto
            have hSn : Snd (gR es) (rnd ((nE es).take j) f) := HS.out.rnd fun e he => (HNE.out _ _).2 (List.mem_of_mem_take he)
            have hfx := hSn.lt HGOOD.out HFULL.out HRL.out hxm
            have hfy := hSn.lt HGOOD.out HFULL.out HRL.out hym
            have HN : Hid (rnd ((nE es).take (j + 1)) f = rlx (rnd ((nE es).take j) f) (x, y)) := Lib.hid (by rw [hto, rnd_snoc])
            obtain ⟨q, hq⟩ : ∃ q, q = rnd ((nE es).take j) f := ⟨_, rfl⟩
            rw [← hq] at hr hfx hfy HN
            clear hc6 hex hey hex2 hey2 hto hSn hq
            go_wp2_with fail
            have hX := EBox.new wr x y 38
            have hgr := hr.lt
            replace hr := hr.alloc (.cells #[.int .i64 (x : Int), .int .i64 (y : Int)] 38)
            replace hbr := hbr.alloc (by omega) (.cells #[.int .i64 (x : Int), .int .i64 (y : Int)] 38)
            obtain ⟨w5, hw5⟩ : ∃ w5, w5 = wr.alloc (.cells #[.int .i64 (x : Int), .int .i64 (y : Int)] 38) := ⟨_, rfl⟩
            rw [← hw5] at hX hr hbr ⊢
            have bx := hX.x
            have bY := hX.y
            obtain ⟨B5, hB5⟩ : ∃ B5, B5 = wr.heap.size := ⟨_, rfl⟩
            rw [← hB5] at bx bY ⊢
            have hne : B5 ≠ g := by omega
            have cx := hr.cell hxm
            have cy := hr.cell hym
            have fy := hr.frozen y
            have hset := hr.set y (.int .i64 ((max (q y) (q x + 1) : Nat) : Int))
            have hB2 := hbr.setCell (p := ⟨g, y, none⟩) (Nat.le_refl _) (.int .i64 ((max (q y) (q x + 1) : Nat) : Int))
            have hfun : (fun i => if i = y then Value.int .i64 ((max (q y) (q x + 1) : Nat) : Int) else Value.int .i64 ((q i : Nat) : Int)) = fun i => Value.int .i64 ((rlx q (x, y) i : Nat) : Int) := by
              funext i
              unfold rlx
              dsimp only
              split <;> rfl
            rw [hfun] at hset
            have HSET := Lib.hid hset
            have HB2 := Lib.hid hB2
            have hx0 : (0 : Int) ≤ (x : Int) := Int.natCast_nonneg _
            have hy0 : (0 : Int) ≤ (y : Int) := Int.natCast_nonneg _
            obtain ⟨qx, hqx⟩ : ∃ qx, qx = q x := ⟨_, rfl⟩
            obtain ⟨qy, hqy⟩ : ∃ qy, qy = q y := ⟨_, rfl⟩
            rw [← hqx] at cx hfx HSET HB2
            rw [← hqy] at cy hfy HSET HB2
            have hmax : ∀ (W : World) (ts : Array TypeId) (t : TypeId), (Builtin.max_ ts t #[.int .i64 (qy : Int), .int .i64 ((qx : Int) + 1)]).run Tryd.prog W = .ok (.int .i64 ((max qy (qx + 1) : Nat) : Int)) W := fun W ts t => by
              rw [Go.run_max_int2]
              congr 2
              split <;> omega
            clear hset hB2 hfun hqx hqy hr hw5 hX hgr hB5
            go_wp2_with fail
            go_region
            all_goals
              go_wp2
              go_roundw
              case rel =>
                refine ⟨j + 1, by omega, by go_num, ?_, HB2.out.drew⟩
                rw [HN.out]
                exact HSET.out
              case measure => simp [intOf]; omega
          · obtain rfl : j = es.length := by omega
            rw [List.take_of_length_le (by rw [nE_len]; omega), ← HT.out] at hr
            go_wp2_with fail
            go_roundw
            case rel => exact ⟨k + 1, by omega, by go_num, hr, hbr⟩
            case measure => simp [intOf]; omega
      · obtain rfl : k = m := by omega
        go_wp2_with fail
        go_ret2
        have hbd : ∀ b, b < k → rnds (nE es) k b < k := fun b hb => (rnds_snd (R := gR es) (fun e he => (HNE.out _ _).2 he) k).lt HGOOD.out HFULL.out HRL.out hb
        rw [HEE.out, HLE.out]
        refine ⟨some ⟨g, 0, none⟩, k, by simp, rowIs_rdI' hr hbd (by omega), hB.trans (hbr.mono hgs)⟩
  · have h3 : (errn N es != 0) = true := by simpa using hE
    have HL0 := Lib.hid (levG_no hE)
    obtain ⟨E, hEE⟩ : ∃ E, E = errn N es := ⟨_, rfl⟩
    have HEE := Lib.hid hEE
    rw [← hEE] at h3 ⊢
    clear hE hEE
    go_wp2
    go_ret2
    rw [HL0.out, ← HEE.out]
    exact ⟨_, _, rfl, ⟨fun k => by simp [zd], fun k => by simp [zd], by simp, fun h => by simp at h⟩, hB⟩

/-! ### heights -/
def hgtG (N : Int) (es : List (Int × Int)) : Int := if errn N es = 0 then ((hgt (lvs N.toNat es) N.toNat : Nat) : Int) else 0
theorem hgtG_ok {m : Nat} {es : List (Int × Int)} (h : errn m es = 0) : hgtG m es = ((hgt (lvs m es) m : Nat) : Int) := by unfold hgtG; rw [if_pos h, Int.toNat_natCast]
theorem hgtG_no {N : Int} {es : List (Int × Int)} (h : errn N es ≠ 0) : hgtG N es = 0 := by unfold hgtG; rw [if_neg h]

set_option maxHeartbeats 2000000 in
theorem height_any (A : Option Addr) (c m : Nat) (f : Nat → Nat) (hm : m ≤ 200) (hf : ∀ b, b < m → f b < m) (w : World) (hx : RdI w w.heap.size A ((List.range m).map fun k => ((f k : Nat) : Int))) :
    Calls Tryd.prog 67 #[.slice A m c] w fun e w' => e = .returned (.int .i64 ((hgt f m : Nat) : Int)) ∧ w = w' := by
  go_enter Tryd.func67, Tryd.ntmps67
  go_wp2_with fail
  obtain ⟨wo, rfl⟩ : ∃ wo : World, wo = w := ⟨_, rfl⟩
  go_loopw [8, 3] (fun i t wr => ∃ k : Nat, k ≤ m ∧ i = .int .i64 k ∧ t = .int .i64 (((hgt f k : Nat) : Int) - 1) ∧ wr = wo) (fun i _ _ => m - (intOf i).toNat)
  case atStart => exact ⟨0, Nat.zero_le _, rfl, rfl, rfl⟩
  case round =>
    obtain ⟨k, hk, rfl, rfl, rfl⟩ := hrel
    by_cases hlt : k < m
    · obtain ⟨b, off, rfl, hb, hc⟩ := hx.rd (by simp; omega)
      have hck := hc k (by simpa using hlt)
      dsimp only at hck
      rw [show zd ((List.range m).map fun k => ((f k : Nat) : Int)) k = ((f k : Nat) : Int) by unfold zd; simp [List.getD, hlt]] at hck
      have h1 := hf k hlt
      have h2 : hgt f k ≤ m := hgt_le f fun b hb => hf b (by omega)
      have h3 : hgt f (k + 1) = max (hgt f k) (f k + 1) := rfl
      have H3 := Lib.hid h3
      obtain ⟨p, hp⟩ : ∃ p, p = hgt f k := ⟨_, rfl⟩
      obtain ⟨q, hq⟩ : ∃ q, q = f k := ⟨_, rfl⟩
      rw [← hp] at h2 H3 ⊢
      rw [← hq] at h1 hck H3
      have hmax : ∀ (W : World) (ts : Array TypeId) (t : TypeId), (Builtin.max_ ts t #[.int .i64 ((p : Int) - 1), .int .i64 (q : Int)]).run Tryd.prog W = .ok (.int .i64 (((max p (q + 1) : Nat) : Int) - 1)) W := fun W ts t => by
        rw [Go.run_max_int2]
        congr 2
        split <;> omega
      clear hc h3 hp hq
      go_wp2_with fail
      go_roundw
      case rel => exact ⟨k + 1, by omega, by go_num, by rw [H3.out], by trivial⟩
      case measure => simp [intOf]; omega
    · obtain rfl : k = m := by omega
      have h2 : hgt f k ≤ k := hgt_le f hf
      obtain ⟨p, hp⟩ : ∃ p, p = hgt f k := ⟨_, rfl⟩
      rw [← hp] at h2 ⊢
      have HP := Lib.hid hp
      clear hp
      go_wp2_with fail
      go_ret
      refine ⟨?_, rfl⟩
      rw [← HP.out]
      simp

/-- the levels as a list that is read -/
theorem levG_hgt {m : Nat} {es : List (Int × Int)} (hE : errn m es = 0) (hin : inR m es = true) (hfull : (ordr m es).length = m) :
    levG m es = (List.range m).map (fun k => ((lvs m es k : Nat) : Int)) ∧ (∀ b, b < m → lvs m es b < m) := ⟨levG_ok hE, fun _ hb => lvs_lt hin hfull hb⟩

set_option maxHeartbeats 2000000 in
theorem heightG_any (A : Option Addr) (c : Nat) (N : Int) (es : List (Int × Int)) (w : World) (he : RdE w w.heap.size A es) (hT : Tab w) :
    Calls Tryd.prog 31 #[.agg #[.int .i64 N, .slice A es.length c]] w fun e w' => e = .returned (.tuple #[.int .i64 (hgtG N es), .int .i64 (errn N es)]) ∧ Below w.heap.size w w' := by
  go_enter Tryd.func31, Tryd.ntmps31
  go_wp2_with fail
  have hB := below_alloc w (.cells #[.int .i64 N, .slice A es.length c] 24)
  obtain ⟨w1, hw1⟩ : ∃ w1, w1 = w.alloc (.cells #[.int .i64 N, .slice A es.length c] 24) := ⟨_, rfl⟩
  rw [← hw1] at hB ⊢
  have hs := hB.size
  replace he := he.step hB
  replace hT := hT.step hB
  clear hw1
  refine (levels_any A c N es _ he hT).mono ?_
  rintro e w2 ⟨A2, c2, rfl, q2, hb⟩
  replace hB := below_step hB hs hb
  clear hb
  by_cases hE : errn N es = 0
  · obtain ⟨m, rfl, hin, hfull⟩ := errn_split hE
    have hm := okN_of hin
    obtain ⟨h1, h2⟩ := levG_hgt hE hin hfull
    have hl := levG_len hE
    have HH := Lib.hid (hgtG_ok hE)
    have HEE := Lib.hid hE
    rw [hl, hE]
    rw [h1] at q2
    obtain ⟨f, hf⟩ : ∃ f, f = lvs m es := ⟨_, rfl⟩
    rw [← hf] at q2 h2 HH
    clear hE hl h1 hf
    go_wp2_with (first | (refine (height_any A2 c2 m f (by omega) h2 _ q2).mono ?_; rintro e w3 ⟨rfl, rfl⟩) | fail)
    go_ret2
    rw [HH.out, HEE.out]
    exact ⟨rfl, hB⟩
  · have h3 : (errn N es != 0) = true := by simpa using hE
    rw [levG_no hE]
    have HH := Lib.hid (hgtG_no hE)
    obtain ⟨E, hEE⟩ : ∃ E, E = errn N es := ⟨_, rfl⟩
    have HEE := Lib.hid hEE
    rw [← hEE] at h3 ⊢
    clear hE hEE
    go_wp2
    go_ret2
    rw [HH.out, ← HEE.out]
    exact ⟨rfl, hB⟩

set_option maxHeartbeats 2000000 in
theorem cheight_any (A : Option Addr) (c : Nat) (N : Int) (es : List (Int × Int)) (w : World) (he : RdE w w.heap.size A es) :
    Calls Tryd.prog 32 #[.agg #[.int .i64 N, .slice A es.length c]] w fun e w' => e = .returned (.tuple #[.int .i64 (hgtG N es), .int .i64 (errn N es)]) ∧ Below w.heap.size w w' := by
  go_enter Tryd.func32, Tryd.ntmps32
  go_wp2_with fail
  have hB := below_alloc w (.cells #[.int .i64 N, .slice A es.length c] 24)
  obtain ⟨w1, hw1⟩ : ∃ w1, w1 = w.alloc (.cells #[.int .i64 N, .slice A es.length c] 24) := ⟨_, rfl⟩
  rw [← hw1] at hB ⊢
  have hs := hB.size
  replace he := he.step hB
  clear hw1
  refine (clevels_any A c N es _ he).mono ?_
  rintro e w2 ⟨A2, c2, rfl, q2, hb⟩
  replace hB := below_step hB hs hb
  clear hb
  by_cases hE : errn N es = 0
  · obtain ⟨m, rfl, hin, hfull⟩ := errn_split hE
    have hm := okN_of hin
    obtain ⟨h1, h2⟩ := levG_hgt hE hin hfull
    have hl := levG_len hE
    have HH := Lib.hid (hgtG_ok hE)
    have HEE := Lib.hid hE
    rw [hl, hE]
    rw [h1] at q2
    obtain ⟨f, hf⟩ : ∃ f, f = lvs m es := ⟨_, rfl⟩
    rw [← hf] at q2 h2 HH
    clear hE hl h1 hf
    go_wp2_with fail
    obtain ⟨wo, rfl⟩ : ∃ wo : World, wo = w2 := ⟨_, rfl⟩
    go_loopw [16, 6] (fun i t wr => ∃ k : Nat, k ≤ m ∧ i = .int .i64 k ∧ t = .int .i64 ((hgt f k : Nat) : Int) ∧ wr = wo) (fun i _ _ => m - (intOf i).toNat)
    case atStart => exact ⟨0, Nat.zero_le _, rfl, rfl, rfl⟩
    case round =>
      obtain ⟨k, hk, rfl, rfl, rfl⟩ := hrel
      by_cases hlt : k < m
      · obtain ⟨b, off, rfl, hb, hc⟩ := q2.rd (by simp; omega)
        have hck := hc k (by simpa using hlt)
        dsimp only at hck
        rw [show zd ((List.range m).map fun k => ((f k : Nat) : Int)) k = ((f k : Nat) : Int) by unfold zd; simp [List.getD, hlt]] at hck
        have h1 := h2 k hlt
        have h2' : hgt f k ≤ m := hgt_le f fun b hb => h2 b (by omega)
        have H3 : Hid (hgt f (k + 1) = max (hgt f k) (f k + 1)) := rfl
        obtain ⟨p, hp⟩ : ∃ p, p = hgt f k := ⟨_, rfl⟩
        obtain ⟨q, hq⟩ : ∃ q, q = f k := ⟨_, rfl⟩
        rw [← hp] at h2' H3 ⊢
        rw [← hq] at h1 hck H3
        have hmax : ∀ (W : World) (ts : Array TypeId) (t : TypeId), (Builtin.max_ ts t #[.int .i64 (p : Int), .int .i64 ((q : Int) + 1)]).run Tryd.prog W = .ok (.int .i64 ((max p (q + 1) : Nat) : Int)) W := fun W ts t => by
          rw [Go.run_max_int2]
          congr 2
          split <;> omega
        clear hc hp hq
        go_wp2_with fail
        go_roundw
        case rel => exact ⟨k + 1, by omega, by go_num, by rw [H3.out], by trivial⟩
        case measure => simp [intOf]; omega
      · obtain rfl : k = m := by omega
        go_wp2_with fail
        go_ret2
        rw [HH.out, HEE.out]
        exact ⟨rfl, hB⟩
  · rw [levG_no hE]
    have HH := Lib.hid (hgtG_no hE)
    clear hE
    go_wp2_with fail
    go_loopw [16, 6] (fun i t wr => i = .int .i64 0 ∧ t = .int .i64 0 ∧ wr = w2) (fun i _ _ => 0)
    case atStart => exact ⟨rfl, rfl, rfl⟩
    case round =>
      obtain ⟨rfl, rfl, rfl⟩ := hrel
      go_wp2_with fail
      go_ret2
      rw [HH.out]
      exact ⟨rfl, hB⟩
end Go.Proofs.YtaboafkpmgadmaaDoor
