/-
  Contracts of ufind's own root, has, number: trees in two rows.
-/
import Derived.Test.YtafhljjekpaehaaUfT
import Derived.Test.YtafhljjekpaehaaBsB
import Derived.Test.YtafhljjekpaehaaItO
import Derived.Deep.OwnRows
import Derived.Deep.CutRange
import Derived.BigRegion
import Derived.BigQuiet
import Derived.Deep.RegionHeld3
import Derived.Lib.Hide
namespace Go.Proofs.Ytafhljjekpaehaa
open Go.RowKit
set_option maxRecDepth 100000

theorem rowKeeps {w w' : World} {g t m : Nat} {f : Nat → Value} {p : Nat → Prop} (h : w.rowIs g t m f) (hk : Keeps p w w') (hp : p g) : w'.rowIs g t m f := h.of_block (hk.block g h.lt hp)
/-- the two rows as one value -/
abbrev SetsV (g h N : Nat) : Value := .agg #[.slice (some ⟨g, 0, none⟩) N N, .slice (some ⟨h, 0, none⟩) N N]
/-- a box of two rows -/
def N2 (D g h N : Nat) (W : World) : Prop := W.heap[D]? = some (.cells #[.slice (some ⟨g, 0, none⟩) N N, .slice (some ⟨h, 0, none⟩) N N] 39 (0, 0))
theorem N2.lt {D g h N : Nat} {W : World} (k : N2 D g h N W) : D < W.heap.size := (Array.getElem?_eq_some_iff.1 k).1
theorem N2.new (W : World) (g h N : Nat) : N2 W.heap.size g h N (W.alloc (.cells #[.slice (some ⟨g, 0, none⟩) N N, .slice (some ⟨h, 0, none⟩) N N] 39)) := World.alloc_heap_new W _
theorem N2.keep {D g h N : Nat} {W W' : World} {p : Nat → Prop} (k : N2 D g h N W) (hk : Keeps p W W') (hp : p D) : N2 D g h N W' := (hk.block D k.lt hp).trans k
theorem N2.c0 {D g h N : Nat} {W : World} (k : N2 D g h N W) : W.cell? ⟨D, 0, none⟩ = some (.slice (some ⟨g, 0, none⟩) N N) := by unfold N2 at k; unfold World.cell?; dsimp only; rw [k]; rfl
theorem N2.c1 {D g h N : Nat} {W : World} (k : N2 D g h N W) : W.cell? ⟨D, 1, none⟩ = some (.slice (some ⟨h, 0, none⟩) N N) := by unfold N2 at k; unfold World.cell?; dsimp only; rw [k]; rfl
/-- a row of numbers -/
abbrev RowN (W : World) (g N : Nat) (p : Nat → Nat) : Prop := W.rowIs g 3 N (fun x => .int .i64 ((p x : Nat) : Int))

/-- what a call of root leaves: another way up, the same tops -/
def RootE (g N : Nat) (p f d : Nat → Nat) (i : Nat) (w : World) (e : Ending) (w' : World) : Prop :=
  e = .returned (.int .i64 (f i : Int)) ∧ ∃ q, Fr N q f d ∧ (∀ x, q x = x ↔ p x = x) ∧ RowN w' g N q ∧ Keeps (fun b => b ≠ g) w w'

set_option maxHeartbeats 4000000 in
theorem root_any (g h N : Nat) (hN : N ≤ 200) (i : Nat) (hi : i < N) (p f d : Nat → Nat) (hF : Fr N p f d) (w : World) (hr : RowN w g N p) :
    Calls Try.prog 18 #[SetsV g h N, .int .i64 (i : Int)] w (RootE g N p f d i w) := by
  have hgw := hr.lt
  have hk1 : Keeps (fun b => b ≠ g) w (w.alloc (.cells #[.slice (some ⟨g, 0, none⟩) N N, .slice (some ⟨h, 0, none⟩) N N] 39)) := (Keeps.refl _ w).alloc _
  have hn1 := N2.new w g h N
  have hr1 := hr.alloc (.cells #[.slice (some ⟨g, 0, none⟩) N N, .slice (some ⟨h, 0, none⟩) N N] 39)
  obtain ⟨D, hD⟩ : ∃ D, D = w.heap.size := ⟨_, rfl⟩
  obtain ⟨w1, hw1⟩ : ∃ w1, w1 = w.alloc (.cells #[.slice (some ⟨g, 0, none⟩) N N, .slice (some ⟨h, 0, none⟩) N N] 39) := ⟨_, rfl⟩
  rw [← hD] at hn1 hgw
  rw [← hw1] at hn1 hr1 hk1
  have hDg : D ≠ g := by omega
  have HW := Lib.hid hw1
  have HD := Lib.hid hD
  have HK := Lib.hid hk1
  clear hw1 hD hk1 hr
  go_enter Try.func18, Try.ntmps18
  go_upto_region 1 with fail
  rw [← HW.out, ← HD.out]
  go_loopw [1] (fun v wr => ∃ (x : Nat) (q : Nat → Nat), x < N ∧ v = .int .i64 (x : Int) ∧ f x = f i ∧ Fr N q f d ∧ (∀ y, q y = y ↔ p y = y) ∧ RowN wr g N q ∧ N2 D g h N wr ∧ Keeps (fun b => b ≠ g) w wr) (fun v _ => d (intOf v).toNat)
  case atStart => exact ⟨i, p, hi, rfl, rfl, hF, fun _ => Iff.rfl, hr1, hn1, HK.out⟩
  case round =>
    obtain ⟨x, q, hx, rfl, hfx, hFq, ht, hrq, hn, hk⟩ := hrel
    clear hr1 hn1 hF
    have n0 := hn.c0
    have cx := hrq.cell hx
    by_cases he : q x = x
    · have HT := Lib.hid (And.intro hFq (And.intro ht (And.intro hrq hk)))
      have HX := Lib.hid (hfx.symm.trans (hFq.top x hx he))
      rw [he] at cx
      clear hfx hFq ht hrq hk hn he
      go_wp2_with fail
      go_ret
      obtain ⟨t1, t2, t3, t4⟩ := HT.out
      exact ⟨by rw [HX.out]; rfl, q, t1, t2, t3, t4⟩
    · have hqx := hFq.lt x hx
      have cy := hrq.cell hqx
      have hfz := hrq.frozen x
      have hQ := hFq.halve hx he
      have hQt : ∀ y, hlv q x y = y ↔ p y = y := fun y => (hFq.hlv_top hx he y).trans (ht y)
      have hQr : RowN (wr.setCell ⟨g, x, none⟩ (.int .i64 ((q (q x) : Nat) : Int))) g N (hlv q x) := (hrq.set x _).congr fun j _ => by
        unfold hlv
        by_cases e : j = x
        · rw [if_pos e, if_pos e]
        · rw [if_neg e, if_neg e]
      have hQk : Keeps (fun b => b ≠ g) w (wr.setCell ⟨g, x, none⟩ (.int .i64 ((q (q x) : Nat) : Int))) := hk.setCell (q := ⟨g, x, none⟩) (fun _ hp => hp rfl) _
      have hQn : N2 D g h N (wr.setCell ⟨g, x, none⟩ (.int .i64 ((q (q x) : Nat) : Int))) := hn.keep (p := fun b => b ≠ g) ((Keeps.refl _ _).setCell (q := ⟨g, x, none⟩) (fun _ hp => hp rfl) _) hDg
      have cz := hQr.cell hx
      have z0 := hQn.c0
      have hd1 : d (q x) < d x := hFq.dn x hx he
      have hd2 : d (q (q x)) < d x := by
        by_cases e : q (q x) = q x
        · rw [e]; exact hd1
        · exact Nat.lt_trans (hFq.dn (q x) hqx e) hd1
      have hlq : hlv q x x = q (q x) := by unfold hlv; rw [if_pos rfl]
      rw [hlq] at cz
      have hz : q (q x) < N := hFq.lt _ hqx
      have HX := Lib.hid ((hFq.up _ hqx).trans ((hFq.up x hx).trans hfx))
      have HQ := Lib.hid (And.intro hQ (And.intro hQt (And.intro hQr (And.intro hQn hQk))))
      obtain ⟨y, hy⟩ : ∃ y, y = q x := ⟨_, rfl⟩
      rw [← hy] at cx cy cz he hqx HX HQ hz hd1 hd2 hlq hQr hQn z0 
      obtain ⟨z, hzz⟩ : ∃ z, z = q y := ⟨_, rfl⟩
      rw [← hzz] at cy cz HX HQ hz hd2 z0
      have hx0 : (0 : Int) ≤ (x : Int) := Int.natCast_nonneg _
      have hx1 : (x : Int) < (N : Int) := by omega
      have hy0 : (0 : Int) ≤ (y : Int) := Int.natCast_nonneg _
      have hy1 : (y : Int) < (N : Int) := by omega
      have hbe : ((y : Int) != (x : Int)) = true := by simp; omega
      have hne : ¬ ((y : Int) = (x : Int)) := by omega
      have HD2 := Lib.hid hd2
      clear hQ hQt hQr hQk hQn hlq hd1 hd2 hFq ht hrq hn hk hzz hy hfx he
      go_wp2_with fail
      go_region
      go_wp2_with fail
      go_roundw
      case rel =>
        obtain ⟨q1, q2, q3, q4, q5⟩ := HQ.out
        exact ⟨z, hlv q x, hz, rfl, HX.out, q1, q2, q3.drew, q4, q5.drew⟩
      case measure => exact HD2.out

theorem has_any (g h N : Nat) (hN : N ≤ 200) (I : Int) (w : World) (h1 : -9223372036854775808 ≤ I ∧ I ≤ 9223372036854775807) :
    Calls Try.prog 17 #[SetsV g h N, .int .i64 I] w fun e w' => e = .returned (.bool (inS N I)) ∧ Below w.heap.size w w' := by
  have hb := (Below.refl w.heap.size w).alloc (Nat.le_refl _) (.cells #[.slice (some ⟨g, 0, none⟩) N N, .slice (some ⟨h, 0, none⟩) N N] 39)
  have hn := N2.new w g h N
  have n0 := hn.c0
  have HB := Lib.hid hb
  obtain ⟨b, hbe⟩ : ∃ b, b = inS N I := ⟨_, rfl⟩
  have HI : Hid (b = inS N I) := hbe
  by_cases h0 : 0 ≤ I
  · have hE : Hid (inS N I = decide (I < (N : Int))) := Lib.hid (by unfold inS; simp [h0])
    rw [← hbe]
    clear hbe hb hn
    go_enter Try.func17, Try.ntmps17
    go_wp2_with fail
    go_ret
    exact ⟨by rw [HI.out, hE.out]; rfl, HB.out⟩
  · have hE : Hid (inS N I = false) := Lib.hid (by unfold inS; simp [h0])
    rw [← hbe]
    clear hbe hb hn
    go_enter Try.func17, Try.ntmps17
    go_wp2_with fail
    go_ret
    exact ⟨by rw [HI.out, hE.out]; rfl, HB.out⟩
theorem number_any (b : Bool) (w : World) :
    Calls Try.prog 19 #[.bool b] w fun e w' => e = .returned (.int .i64 (if b = true then 1 else 0)) ∧ w = w' := by
  cases b
  all_goals
    go_enter Try.func19, Try.ntmps19
    go_wp2_with fail
    go_ret
    exact ⟨rfl, rfl⟩

/-- the sets in memory -/
def UM (N : Nat) (s : Nat → Nat) (g h : Nat) (W : World) : Prop := ∃ p z f d, Us N p z f d s ∧ RowN W g N p ∧ RowN W h N z
/-- while tops are looked for -/
def JR (N : Nat) (p z f d : Nat → Nat) (D g h : Nat) (w W : World) : Prop := (∃ q, Fr N q f d ∧ (∀ x, q x = x ↔ p x = x) ∧ RowN W g N q) ∧ RowN W h N z ∧ N2 D g h N W ∧ Keeps (fun b => b ≠ g ∧ b ≠ h) w W
abbrev HeldJ (N : Nat) (p z f d : Nat → Nat) (D g h : Nat) (w W : World) : Prop := W.cell? ⟨D, 0, none⟩ = some (.slice (some ⟨g, 0, none⟩) N N) ∧ W.cell? ⟨D, 1, none⟩ = some (.slice (some ⟨h, 0, none⟩) N N) ∧ JR N p z f d D g h w W
theorem HeldJ.of {N : Nat} {p z f d : Nat → Nat} {D g h : Nat} {w W : World} (k : JR N p z f d D g h w W) : HeldJ N p z f d D g h w W := ⟨k.2.2.1.c0, k.2.2.1.c1, k⟩
theorem HeldJ.drew {N : Nat} {p z f d : Nat → Nat} {D g h : Nat} {w W : World} (k : HeldJ N p z f d D g h w W) : HeldJ N p z f d D g h w W.drew :=
  HeldJ.of ⟨by obtain ⟨q, a, b, c⟩ := k.2.2.1; exact ⟨q, a, b, c.drew⟩, k.2.2.2.1.drew, k.2.2.2.2.1, k.2.2.2.2.2.drew⟩
theorem root_held (g h N : Nat) (hN : N ≤ 200) (p z f d : Nat → Nat) (D : Nat) (hgh : g ≠ h) (hDg : D ≠ g) (w W : World) (x : Nat) (hx : x < N) (k : HeldJ N p z f d D g h w W) :
    Calls Try.prog 18 #[SetsV g h N, .int .i64 (x : Int)] W fun e W' => e = .returned (.int .i64 ((f x : Nat) : Int)) ∧ HeldJ N p z f d D g h w W' := by
  obtain ⟨⟨q, a, b, c⟩, hz, hn, hk⟩ := k.2.2
  refine (root_any g h N hN x hx q f d a W c).mono ?_
  rintro e w' ⟨rfl, q', a', b', c', k'⟩
  exact ⟨rfl, HeldJ.of ⟨⟨q', a', fun y => (b' y).trans (b y), c'⟩, rowKeeps hz k' (fun e => hgh e.symm), hn.keep k' hDg, hk.trans (k'.mono fun b _ h => h.1)⟩⟩

set_option maxHeartbeats 4000000 in
theorem join_any (g h N : Nat) (hN : N ≤ 200) (hgh : g ≠ h) (i j : Nat) (hi : i < N) (hj : j < N) (s : Nat → Nat) (w : World) (hU : UM N s g h w) :
    Calls Try.prog 20 #[SetsV g h N, .int .i64 (i : Int), .int .i64 (j : Int)] w fun e w' => e = .returned (.bool (!decide (s i = s j))) ∧ UM N (rel s i j) g h w' ∧ Keeps (fun b => b ≠ g ∧ b ≠ h) w w' := by
  obtain ⟨p, z, f, d, hUs, hrp, hrz⟩ := hU
  have hDg : w.heap.size ≠ g := by have := hrp.lt; omega
  have hDh : w.heap.size ≠ h := by have := hrz.lt; omega
  have hJ0 : JR N p z f d w.heap.size g h w (w.alloc (.cells #[.slice (some ⟨g, 0, none⟩) N N, .slice (some ⟨h, 0, none⟩) N N] 39)) := ⟨⟨p, hUs.fr, fun _ => Iff.rfl, hrp.alloc _⟩, hrz.alloc _, N2.new _ _ _ _, (Keeps.refl _ w).alloc _⟩
  obtain ⟨D, hD⟩ : ∃ D, D = w.heap.size := ⟨_, rfl⟩
  obtain ⟨w1, hw1⟩ : ∃ w1, w1 = w.alloc (.cells #[.slice (some ⟨g, 0, none⟩) N N, .slice (some ⟨h, 0, none⟩) N N] 39) := ⟨_, rfl⟩
  rw [← hD] at hJ0 hDg hDh
  rw [← hw1] at hJ0
  have hH0 := HeldJ.of hJ0
  have HR := Lib.hid (fun W x hx k => root_held g h N hN p z f d D hgh hDg w W x hx k)
  have HW := Lib.hid hw1
  have HD := Lib.hid hD
  have HU := Lib.hid hUs
  have hfi := (hUs.fr.root hi)
  have hfj := (hUs.fr.root hj)
  have hfij := hUs.same i j hi hj
  have HLL := Lib.hid (show ∀ x, x < N → p x = x → z x = usz N s x from fun x hx h => hUs.sz x hx h)
  obtain ⟨a, ha⟩ : ∃ a, a = f i := ⟨_, rfl⟩
  obtain ⟨b, hb⟩ : ∃ b, b = f j := ⟨_, rfl⟩
  rw [← ha] at hfi
  rw [← hb] at hfj
  have HA := Lib.hid ha
  have HB := Lib.hid hb
  have HFI := Lib.hid hfi.2
  have HFJ := Lib.hid hfj.2
  have HIJ := Lib.hid (And.intro hi hj)
  have hza : z a ≤ 200 := by rw [HLL.out _ hfi.1 hfi.2]; exact Nat.le_trans (usz_leT _ _ _) hN
  have hzb : z b ≤ 200 := by rw [HLL.out _ hfj.1 hfj.2]; exact Nat.le_trans (usz_leT _ _ _) hN
  rw [← ha, ← hb] at hfij
  obtain ⟨r, hr⟩ : ∃ r : Bool, r = (!decide (s i = s j)) := ⟨_, rfl⟩
  have HRR := Lib.hid hr
  rw [← hr]
  have ha1 := hfi.1
  have hb1 := hfj.1
  have HS := Lib.hid hfij
  clear hw1 hD hUs hrp hrz hi hj ha hb hfi hfj hfij hr
  go_enter Try.func20, Try.ntmps20
  go_upto_region 1 with fail
  rw [← HW.out, ← HD.out]
  go_cut [1, 2] from 7 to 12 (fun t u wx => t = .int .i64 (a : Int) ∧ u = .int .i64 (b : Int) ∧ HeldJ N p z f d D g h w wx)
  case first =>
    go_region_held3 (HeldJ N p z f d D g h w)
      (first
        | (go_split_ands; refine ⟨?_, ?_, ?_⟩ <;> assumption)
        | (go_split_ands; exact HeldJ.drew ⟨‹_›, ‹_›, ‹_›⟩))
      (first
        | (go_at_call 18; with_reducible refine (HR.out _ _ HIJ.out.1 (by assumption)).mono ?_; rintro e w6 ⟨rfl, h6⟩; rw [← HA.out])
        | (go_at_call 18; with_reducible refine (HR.out _ _ HIJ.out.2 (by assumption)).mono ?_; rintro e w6 ⟨rfl, h6⟩; rw [← HB.out]))
    all_goals
      go_wp2_with fail
      go_meet
      case rel => exact ⟨rfl, rfl, by assumption⟩
  case rest =>
    obtain ⟨rfl, rfl, hc0, hc1, ⟨q, fq, ft, frow⟩, hz, hn, hk⟩ := hcut
    have hUq : Us N q z f d s := HU.out.of fq (fun x _ => ft x)
    by_cases he : a = b
    · have hs := HS.out.1 he
      have HF : Hid (UM N (rel s i j) g h wc ∧ Keeps (fun b => b ≠ g ∧ b ≠ h) w wc) := Lib.hid ⟨⟨q, z, f, d, by rw [rel_sameT hs]; exact hUq, frow, hz⟩, hk⟩
      have HSS := Lib.hid hs
      have he2 : (a : Int) = (b : Int) := by omega
      clear hUq hs frow hz hn hk hc0 hc1 hH0 hJ0 he
      go_wp2_with fail
      go_ret
      exact ⟨by rw [HRR.out, decide_eq_true HSS.out]; rfl, HF.out⟩
    · have hne2 : ¬ ((a : Int) = (b : Int)) := by omega
      have hsn : ¬ (s i = s j) := fun e => he (HS.out.2 e)
      have HRT : Hid (r = true) := Lib.hid (by rw [HRR.out, decide_eq_false hsn]; rfl)
      clear hsn
      have hfne : f i ≠ f j := fun e => he (HA.out.trans (e.trans HB.out.symm))
      have ca := hz.cell ha1
      have cb := hz.cell hb1
      have HA1 := Lib.hid ha1
      have HB1 := Lib.hid hb1
      have i0 : (0 : Int) ≤ (a : Int) := Int.natCast_nonneg _
      have i1 : (a : Int) < (N : Int) := by omega
      have j0 : (0 : Int) ≤ (b : Int) := Int.natCast_nonneg _
      have j1 : (b : Int) < (N : Int) := by omega
      obtain ⟨za, hza2⟩ : ∃ za, za = z a := ⟨_, rfl⟩
      obtain ⟨zb, hzb2⟩ : ∃ zb, zb = z b := ⟨_, rfl⟩
      rw [← hza2] at ca hza
      rw [← hzb2] at cb hzb
      have EA := Lib.hid hza2.symm
      have EB := Lib.hid hzb2.symm
      clear hza2 hzb2 hH0 hJ0 he
      by_cases hlt : za < zb
      · have HLK := Lib.hid (hUq.link HIJ.out.1 HIJ.out.2 hfne (u := b) (v := a) (.inr ⟨HB.out, HA.out⟩))
        clear hUq hfne
        go_wp2_with fail
        go_quiet (fail)
        have q5 := (show (wc.drewN nq).cell? ⟨D, 0, none⟩ = _ from hc0)
        have hr5 : RowN (wc.drewN nq) g N q := frow
        have hz5 : RowN (wc.drewN nq) h N z := hz
        have hn5 : N2 D g h N (wc.drewN nq) := hn
        have hk5 : Keeps (fun b => b ≠ g ∧ b ≠ h) w (wc.drewN nq) := hk.drewN nq
        clear hc0 hc1 ca cb
        obtain ⟨w5, hw5⟩ : ∃ w5, w5 = wc.drewN nq := ⟨_, rfl⟩
        rw [← hw5] at q5 hr5 hz5 hn5 hk5 ⊢
        have hfz5 := hr5.frozen a
        have hcx5 := hr5.cell HA1.out
        have hr6 := hr5.set a (.int .i64 (b : Int))
        have hz6 := hz5.setOther (a := ⟨g, a, none⟩) (fun e => hgh e.symm) (.int .i64 (b : Int))
        have hn6 := hn5.keep (p := fun b => b ≠ g) ((Keeps.refl _ _).setCell (q := ⟨g, a, none⟩) (fun _ hp => hp rfl) (.int .i64 (b : Int))) hDg
        have hk6 := hk5.setCell (q := ⟨g, a, none⟩) (fun _ hp => hp.1 rfl) (.int .i64 (b : Int))
        clear hr5 hz5 hn5 hk5 frow hz hn hk hw5
        go_wp2_with fail
        clear q5 hfz5 hcx5
        obtain ⟨w6, hw6⟩ : ∃ w6, w6 = w5.setCell ⟨g, a, none⟩ (.int .i64 (b : Int)) := ⟨_, rfl⟩
        rw [← hw6] at hr6 hz6 hn6 hk6 ⊢
        have n1 := hn6.c1
        have cu := hz6.cell HB1.out
        have cv := hz6.cell HA1.out
        have hfu := hz6.frozen b
        rw [EB.out] at cu
        rw [EA.out] at cv
        have FIN : Hid (∀ w7, w7 = w6.setCell ⟨h, b, none⟩ (.int .i64 ((zb : Int) + (za : Int))) → UM N (rel s i j) g h w7 ∧ Keeps (fun b => b ≠ g ∧ b ≠ h) w w7) := Lib.hid fun w7 e7 => by
          subst e7
          obtain ⟨f', d', hL⟩ := HLK.out
          refine ⟨⟨_, _, f', d', hL, ((hr6.setOther (a := ⟨h, b, none⟩) hgh _).congr fun y _ => ?_), ((hz6.set b _).congr fun y _ => ?_)⟩, hk6.setCell (q := ⟨h, b, none⟩) (fun _ hp => hp.2 rfl) _⟩
          · dsimp only
            split
            · rfl
            · rfl
          · dsimp only
            split
            · rw [EB.out, EA.out]; rfl
            · rfl
        clear hr6 hz6 hn6 hk6 hw6
        go_region
        go_wp2_with fail
        go_ret
        obtain ⟨f1, f2⟩ := FIN.out _ rfl
        exact ⟨by rw [HRT.out]; rfl, f1, f2.drew⟩
      · have HLK := Lib.hid (hUq.link HIJ.out.1 HIJ.out.2 hfne (u := a) (v := b) (.inl ⟨HA.out, HB.out⟩))
        clear hUq hfne
        have hd0 : decide ((za : Int) < (zb : Int)) = false := decide_eq_false (by omega)
        have hd1 : ¬ ((za : Int) < (zb : Int)) := by omega
        go_wp2_with fail
        go_quiet (fail)
        have q5 := (show (wc.drewN nq).cell? ⟨D, 0, none⟩ = _ from hc0)
        have hr5 : RowN (wc.drewN nq) g N q := frow
        have hz5 : RowN (wc.drewN nq) h N z := hz
        have hn5 : N2 D g h N (wc.drewN nq) := hn
        have hk5 : Keeps (fun b => b ≠ g ∧ b ≠ h) w (wc.drewN nq) := hk.drewN nq
        clear hc0 hc1 ca cb
        obtain ⟨w5, hw5⟩ : ∃ w5, w5 = wc.drewN nq := ⟨_, rfl⟩
        rw [← hw5] at q5 hr5 hz5 hn5 hk5 ⊢
        have hfz5 := hr5.frozen b
        have hcx5 := hr5.cell HB1.out
        have hr6 := hr5.set b (.int .i64 (a : Int))
        have hz6 := hz5.setOther (a := ⟨g, b, none⟩) (fun e => hgh e.symm) (.int .i64 (a : Int))
        have hn6 := hn5.keep (p := fun b => b ≠ g) ((Keeps.refl _ _).setCell (q := ⟨g, b, none⟩) (fun _ hp => hp rfl) (.int .i64 (a : Int))) hDg
        have hk6 := hk5.setCell (q := ⟨g, b, none⟩) (fun _ hp => hp.1 rfl) (.int .i64 (a : Int))
        clear hr5 hz5 hn5 hk5 frow hz hn hk hw5
        go_wp2_with fail
        clear q5 hfz5 hcx5
        obtain ⟨w6, hw6⟩ : ∃ w6, w6 = w5.setCell ⟨g, b, none⟩ (.int .i64 (a : Int)) := ⟨_, rfl⟩
        rw [← hw6] at hr6 hz6 hn6 hk6 ⊢
        have n1 := hn6.c1
        have cu := hz6.cell HA1.out
        have cv := hz6.cell HB1.out
        have hfu := hz6.frozen a
        rw [EA.out] at cu
        rw [EB.out] at cv
        have FIN : Hid (∀ w7, w7 = w6.setCell ⟨h, a, none⟩ (.int .i64 ((za : Int) + (zb : Int))) → UM N (rel s i j) g h w7 ∧ Keeps (fun b => b ≠ g ∧ b ≠ h) w w7) := Lib.hid fun w7 e7 => by
          subst e7
          obtain ⟨f', d', hL⟩ := HLK.out
          refine ⟨⟨_, _, f', d', hL, ((hr6.setOther (a := ⟨h, a, none⟩) hgh _).congr fun y _ => ?_), ((hz6.set a _).congr fun y _ => ?_)⟩, hk6.setCell (q := ⟨h, a, none⟩) (fun _ hp => hp.2 rfl) _⟩
          · dsimp only
            split
            · rfl
            · rfl
          · dsimp only
            split
            · rw [EA.out, EB.out]; rfl
            · rfl
        clear hr6 hz6 hn6 hk6 hw6
        go_region
        go_wp2_with fail
        go_ret
        obtain ⟨f1, f2⟩ := FIN.out _ rfl
        exact ⟨by rw [HRT.out]; rfl, f1, f2.drew⟩
end Go.Proofs.Ytafhljjekpaehaa
