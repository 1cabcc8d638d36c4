/-
  The height and the width of a term's graph are the term's span and width. Plain mathematics.
  Contract of slices.Repeat at a slice of one int.
  Contract of order.smallestBefore: for each node the smallest that may stand ahead of it in a longest way, or none.
  Contract of the search that order.fewestChains makes: the closure that calls itself.
  A region that draws its order, by what holds behind each of its operations in whatever order they came: one step an operation, not one way an order.
-/
import Derived.Test.YtidgibkiacbgfaaDoorPk21
import Derived.Test.YtidgibkiacbgfaaDoorPk19
import Derived.Test.YtidgibkiacbgfaaDoorPk17
import Derived.Shelf.Bits.Mul64
import Derived.Laws.CopyOwn
import Derived.Deep.RegionLaw
import Derived.Shelf.RegionOpenPlain
import Derived.Deep.CutRange
import Derived.Test.YtidgibkiacbgfaaDoorPk20
import Derived.Test.YtidgibkiacbgfaaDoorPk16
import Derived.Deep.RegionHeld3
namespace Go.Proofs.YtidgibkiacbgfaaDoor
set_option maxRecDepth 100000

/-! ### the width -/
theorem cntB_split (a b : Nat) (p : Nat → Bool) : cntB (a + b) p = cntB a p + cntB b fun n => p (a + n) := sumN_split a b _
theorem cntB_zero {N : Nat} {p : Nat → Bool} (h : ∀ n, n < N → p n = false) : cntB N p = 0 := sumN_zero fun n hn => by rw [h n hn]; rfl
theorem cntB_same {N : Nat} {p q : Nat → Bool} (h : ∀ n, n < N → p n = q n) : cntB N p = cntB N q := sumN_congr fun n hn => by rw [h n hn]
theorem cntB_ex {N : Nat} {p : Nat → Bool} (h : cntB N p ≠ 0) : ∃ n, n < N ∧ p n = true := by
  obtain ⟨n, hn, hp⟩ := sumN_ne h
  refine ⟨n, hn, ?_⟩
  cases hb : p n with
  | true => rfl
  | false => rw [hb] at hp; exact absurd rfl hp

theorem bN_seq_l (l r : Tm) {i j : Nat} (hi : i < l.sz) (hj : j < l.sz) : (Tm.seq l r).bN i j = l.bN i j := Tm.seq_left l r _ _ (by omega) (by omega)
theorem bN_par_l (l r : Tm) {i j : Nat} (hi : i < l.sz) (hj : j < l.sz) : (Tm.par l r).bN i j = l.bN i j := Tm.par_left l r _ _ (by omega) (by omega)
theorem bN_seq_x (l r : Tm) {i j : Nat} (hi : i < l.sz) (hj : j < r.sz) : (Tm.seq l r).bN i (l.sz + j) = true := Tm.seq_cross l r _ _ (by omega) (by omega) (by omega) (by omega)
theorem bN_par_x (l r : Tm) {i j : Nat} (hi : i < l.sz) : (Tm.par l r).bN i (l.sz + j) = false := Tm.par_cross l r _ _ (by omega) (by omega)

/-- no more are side by side than the term is wide -/
theorem Tm.anti_le (T : Tm) : ∀ p : Nat → Bool, (∀ a b, a < T.sz → b < T.sz → p a = true → p b = true → T.bN a b = false) → cntB T.sz p ≤ T.wd := by
  induction T with
  | nil => intro p _; exact Nat.le_refl _
  | one a => intro p _; show 0 + (p 0).toNat ≤ 1; cases p 0 <;> simp
  | seq l r il ir =>
    intro p h
    simp only [Tm.sz] at h ⊢
    rw [cntB_split, Tm.wd_seq]
    have h1 := il p fun a b ha hb pa pb => by rw [← bN_seq_l l r ha hb]; exact h a b (by omega) (by omega) pa pb
    have h2 := ir (fun n => p (l.sz + n)) fun a b ha hb pa pb => by rw [← Tm.seq_rightN l r]; exact h _ _ (by omega) (by omega) pa pb
    by_cases z1 : cntB l.sz p = 0
    · omega
    · by_cases z2 : cntB r.sz (fun n => p (l.sz + n)) = 0
      · omega
      · obtain ⟨i, hi, pi⟩ := cntB_ex z1
        obtain ⟨j, hj, pj⟩ := cntB_ex z2
        have := h i (l.sz + j) (by omega) (by omega) pi pj
        rw [bN_seq_x l r hi hj] at this
        cases this
  | par l r il ir =>
    intro p h
    simp only [Tm.sz] at h ⊢
    rw [cntB_split, Tm.wd_par]
    have h1 := il p fun a b ha hb pa pb => by rw [← bN_par_l l r ha hb]; exact h a b (by omega) (by omega) pa pb
    have h2 := ir (fun n => p (l.sz + n)) fun a b ha hb pa pb => by rw [← Tm.par_rightN l r]; exact h _ _ (by omega) (by omega) pa pb
    omega

/-- leaves side by side, as many as the term is wide -/
def Tm.acB : Tm → Nat → Bool
  | .nil, _ => false
  | .one _, k => decide (k = 0)
  | .seq l r, k => if r.wd ≤ l.wd then decide (k < l.sz) && l.acB k else decide (l.sz ≤ k) && r.acB (k - l.sz)
  | .par l r, k => if k < l.sz then l.acB k else r.acB (k - l.sz)
theorem Tm.acB_cnt (T : Tm) : cntB T.sz T.acB = T.wd := by
  induction T with
  | nil => rfl
  | one a => rfl
  | seq l r il ir =>
    simp only [Tm.sz]
    rw [cntB_split, Tm.wd_seq]
    by_cases h : r.wd ≤ l.wd
    · have e1 : cntB l.sz (Tm.seq l r).acB = cntB l.sz l.acB := cntB_same fun n hn => by simp only [Tm.acB]; rw [if_pos h, decide_eq_true hn, Bool.true_and]
      have e2 : cntB r.sz (fun n => (Tm.seq l r).acB (l.sz + n)) = 0 := cntB_zero fun n hn => by simp only [Tm.acB]; rw [if_pos h, decide_eq_false (by omega), Bool.false_and]
      omega
    · have e1 : cntB l.sz (Tm.seq l r).acB = 0 := cntB_zero fun n hn => by simp only [Tm.acB]; rw [if_neg h, decide_eq_false (by omega), Bool.false_and]
      have e2 : cntB r.sz (fun n => (Tm.seq l r).acB (l.sz + n)) = cntB r.sz r.acB := cntB_same fun n hn => by simp only [Tm.acB]; rw [if_neg h, decide_eq_true (by omega), Bool.true_and, Nat.add_sub_cancel_left]
      omega
  | par l r il ir =>
    simp only [Tm.sz]
    rw [cntB_split, Tm.wd_par]
    have e1 : cntB l.sz (Tm.par l r).acB = cntB l.sz l.acB := cntB_same fun n hn => by simp only [Tm.acB]; rw [if_pos hn]
    have e2 : cntB r.sz (fun n => (Tm.par l r).acB (l.sz + n)) = cntB r.sz r.acB := cntB_same fun n hn => by simp only [Tm.acB]; rw [if_neg (by omega), Nat.add_sub_cancel_left]
    omega
theorem Tm.acB_anti (T : Tm) : ∀ a b, a < T.sz → b < T.sz → T.acB a = true → T.acB b = true → T.bN a b = false := by
  induction T with
  | nil => intro a b ha; simp only [Tm.sz] at ha; omega
  | one x => intro a b ha hb _ _; rfl
  | seq l r il ir =>
    intro a b ha hb pa pb
    simp only [Tm.sz] at ha hb
    simp only [Tm.acB] at pa pb
    by_cases h : r.wd ≤ l.wd
    · rw [if_pos h, Bool.and_eq_true, decide_eq_true_eq] at pa pb
      rw [bN_seq_l l r pa.1 pb.1]
      exact il a b pa.1 pb.1 pa.2 pb.2
    · rw [if_neg h, Bool.and_eq_true, decide_eq_true_eq] at pa pb
      have := Tm.seq_rightN l r (a - l.sz) (b - l.sz)
      rw [show l.sz + (a - l.sz) = a by omega, show l.sz + (b - l.sz) = b by omega] at this
      rw [this]
      exact ir _ _ (by omega) (by omega) pa.2 pb.2
  | par l r il ir =>
    intro a b ha hb pa pb
    simp only [Tm.sz] at ha hb
    simp only [Tm.acB] at pa pb
    by_cases h1 : a < l.sz
    · by_cases h2 : b < l.sz
      · rw [if_pos h1] at pa
        rw [if_pos h2] at pb
        rw [bN_par_l l r h1 h2]
        exact il a b h1 h2 pa pb
      · have := bN_par_x l r (j := b - l.sz) h1
        rwa [show l.sz + (b - l.sz) = b by omega] at this
    · by_cases h2 : b < l.sz
      · exact Tm.bN_high _ a b (by omega)
      · rw [if_neg h1] at pa
        rw [if_neg h2] at pb
        have := Tm.par_rightN l r (a - l.sz) (b - l.sz)
        rw [show l.sz + (a - l.sz) = a by omega, show l.sz + (b - l.sz) = b by omega] at this
        rw [this]
        exact ir _ _ (by omega) (by omega) pa pb

/-- the leaves that a joining that cannot be bettered leaves over are as many as the term is wide -/
theorem Tm.kon_wd (T : Tm) {B H : Nat → Option Nat} {t : Nat → Bool} (hK : Kon T.bN T.sz B H t) (hS : So T.bN T.sz) : ((List.range T.sz).filter (lastU H t)).length = T.wd := by
  rw [cntB_filter]
  have h1 := T.anti_le (lastU H t) fun a b ha _ pa pb => hK.apart ha pa pb
  have h2 := apart_le hK.mt hS (fun a => decide (a < T.sz) && T.acB a) fun a b ha hb => by
    simp only [Bool.and_eq_true, decide_eq_true_eq] at ha hb
    exact T.acB_anti a b ha.1 hb.1 ha.2 hb.2
  rw [← hK.count hS, cntB_same (q := T.acB) fun n hn => by rw [decide_eq_true hn, Bool.true_and], T.acB_cnt] at h2
  omega

/-! ### the height -/
theorem wk_ce (T : Tm) {n b : Nat} (h : Wk (gR T.eds) n b) (hb : b < T.sz) : n + 1 ≤ T.ce (b : Int) := by
  induction h with
  | zero b => exact (T.ce_range (b : Int) (by omega) (by omega)).1
  | step hr _ ih =>
    rename_i n a b
    rw [eds_gR] at hr
    have h1 := T.bef_lt _ _ hr
    have h2 := T.ce_step _ _ hr
    have := ih (by omega)
    omega
theorem ce_wk (T : Tm) : ∀ n b : Nat, b < T.sz → T.ce (b : Int) = n + 1 → Wk (gR T.eds) n b := by
  intro n
  induction n with
  | zero => intro b _ _; exact .zero b
  | succ n ih =>
    intro b hb hc
    rcases T.ce_prev (b : Int) (by omega) (by omega) with h | ⟨i, h2, h3⟩
    · omega
    · have h4 := T.bef_lt _ _ h2
      obtain ⟨i, rfl⟩ : ∃ k : Nat, i = k := ⟨i.toNat, by omega⟩
      exact .step (by rw [eds_gR]; exact h2) (ih i (by omega) (by omega))
theorem lev_ce (T : Tm) {f : Nat → Nat} (hL : Lev (gR T.eds) f) {b : Nat} (hb : b < T.sz) : f b + 1 = T.ce (b : Int) := by
  have h1 := wk_ce T (hL.way b) hb
  have h0 := (T.ce_range (b : Int) (by omega) (by omega)).1
  have h2 := hL.top _ _ (ce_wk T (T.ce (b : Int) - 1) b hb (by omega))
  omega
theorem hgt_bst (T : Tm) {f : Nat → Nat} (hL : Lev (gR T.eds) f) : ∀ k, k ≤ T.sz → hgt f k = T.bst k := by
  intro k
  induction k with
  | zero => intro _; rfl
  | succ k ih =>
    intro hk
    simp only [hgt, Tm.bst]
    rw [ih (by omega), lev_ce T hL (by omega)]
theorem hgtG_eds (T : Tm) (hs : T.sz ≤ 200) : hgtG (T.sz : Int) T.eds = ((T.sn : Nat) : Int) := by
  rw [hgtG_ok (T.errn_eds hs), hgt_bst T (lvs_lev (T.inR_eds hs) (T.full_eds hs)) T.sz (Nat.le_refl _), T.bst_all]
end Go.Proofs.YtidgibkiacbgfaaDoor

namespace Go.Proofs.YtidgibkiacbgfaaDoor
open Go.RowKit Go.Shelf Go.Lib
set_option maxRecDepth 100000

set_option maxHeartbeats 1000000 in
theorem mul64_any (x y : Nat) (hx : x < 18446744073709551616) (hy : y < 18446744073709551616) (w : World) :
    Calls Tryd.prog 55 #[.int .u64 x, .int .u64 y] w fun e w' => e = .returned (.tuple #[.int .u64 ((x * y / 18446744073709551616 : Nat) : Int), .int .u64 ((x * y % 18446744073709551616 : Nat) : Int)]) ∧ w' = w := by
  obtain ⟨bd, bt, bw, hhi⟩ := Lib.mul64_hi x y hx hy
  have ba := Lib.half_mul_le (a := x / 4294967296) (b := y / 4294967296) (by omega) (by omega)
  have bb := Lib.half_mul_le (a := x / 4294967296) (b := y % 4294967296) (by omega) (by omega)
  have bc := Lib.half_mul_le (a := x % 4294967296) (b := y / 4294967296) (by omega) (by omega)
  have ba' : x / 4294967296 * (y / 4294967296) < 18446744073709551616 := by omega
  have bb' : x / 4294967296 * (y % 4294967296) < 18446744073709551616 := by omega
  have bc' : x % 4294967296 * (y / 4294967296) < 18446744073709551616 := by omega
  have bh1 : x / 4294967296 * (y / 4294967296) + (x / 4294967296 * (y % 4294967296) + x % 4294967296 * (y % 4294967296) / 4294967296) / 4294967296 < 18446744073709551616 := by omega
  have bh : x / 4294967296 * (y / 4294967296) + (x / 4294967296 * (y % 4294967296) + x % 4294967296 * (y % 4294967296) / 4294967296) / 4294967296 + ((x / 4294967296 * (y % 4294967296) + x % 4294967296 * (y % 4294967296) / 4294967296) % 4294967296 + x % 4294967296 * (y / 4294967296)) / 4294967296 < 18446744073709551616 := by omega
  go_enter Tryd.func55, Tryd.ntmps55
  go_wp2
  simp only [Mul64.maskN x hx, Mul64.maskN y hy, Mul64.divN, Mul64.mulN, Mul64.addN, Mul64.wrapN _ bd, Mul64.wrapN _ bb', Mul64.wrapN _ bt, Mul64.maskN _ bt, Mul64.wrapN _ bc', Mul64.wrapN _ bw, Mul64.wrapN _ ba', Mul64.wrapN _ bh1, Mul64.wrapN _ bh, Mul64.wrapM (x * y)]
  rw [hhi]
  go_ret2
  exact ⟨rfl, rfl⟩

set_option maxHeartbeats 1000000 in
theorem mul_any (x y : Nat) (hx : x < 18446744073709551616) (hy : y < 18446744073709551616) (w : World) :
    Calls Tryd.prog 46 #[.int .u64 x, .int .u64 y] w fun e w' => e = .returned (.tuple #[.int .u64 ((x * y / 18446744073709551616 : Nat) : Int), .int .u64 ((x * y % 18446744073709551616 : Nat) : Int)]) ∧ w' = w := by
  have c64 := mul64_any x y hx hy w
  go_enter Tryd.func46, Tryd.ntmps46
  go_wp2_with (go_at_call 55; refine c64.mono ?_; rintro e w' ⟨rfl, hw⟩; rw [hw])
  go_ret2
  exact ⟨rfl, rfl⟩

theorem rowIs_splice {w w' : World} {g n c l : Nat} {t : TypeId} {v z : Value} {cur : List Value} (hc : w.heap[g]? = some (.cells cur.toArray t (0, 0))) (h : w.rowIs g t n (fun k => if k < c then v else z))
    (hw' : w'.heap[g]? = some (.cells (splice cur c (List.replicate l v)).toArray t (0, 0))) (hl : c + l ≤ n) : w'.rowIs g t n (fun k => if k < c + l then v else z) := by
  obtain ⟨cs, h1, h2, h3⟩ := h
  rw [hc] at h1
  injection h1 with h1
  injection h1 with h1 _ _
  subst h1
  simp at h2
  refine ⟨_, hw', by simp [length_splice, h2, hl], fun i hi => ?_⟩
  have h4 := h3 i hi
  simp only [List.getElem?_toArray] at h4 ⊢
  unfold splice
  rcases Nat.lt_or_ge i c with hic | hic
  · rw [List.getElem?_append_left (by simp; omega), List.getElem?_take_of_lt hic, h4, if_pos hic, if_pos (by omega)]
  · rw [List.getElem?_append_right (by simp; omega), List.length_take, h2, Nat.min_eq_left (by omega)]
    rcases Nat.lt_or_ge i (c + l) with hil | hil
    · rw [List.getElem?_append_left (by simp; omega), List.getElem?_replicate, if_pos (by omega), if_pos hil]
    · rw [List.getElem?_append_right (by simp; omega), List.getElem?_drop, List.length_replicate, show c + l + (i - c - l) = i by omega, h4, if_neg (by omega), if_neg (by omega)]
theorem rowIs_cur {w : World} {g n : Nat} {t : TypeId} {f : Nat → Value} (h : w.rowIs g t n f) : ∃ cur : List Value, cur.length = n ∧ w.heap[g]? = some (.cells cur.toArray t (0, 0)) := by
  obtain ⟨cs, h1, h2, _⟩ := h
  exact ⟨cs.toList, by simpa using h2, by simpa using h1⟩

set_option maxHeartbeats 4000000 in
theorem repeat_any (b off c n : Nat) (hn : n ≤ 200) (v : Int) (w : World) (hb : b < w.heap.size) (hx : w.cell? ⟨b, off, none⟩ = some (.int .i64 v)) :
    Calls Tryd.prog 37 #[.slice (some ⟨b, off, none⟩) 1 c, .int .i64 n] w fun e w' => e = .returned (.slice (some ⟨w.heap.size, 0, none⟩) n n) ∧ w'.rowIs w.heap.size 3 n (fun _ => .int .i64 v) ∧ Below w.heap.size w w' := by
  have hmk := run_make_row' (P := Tryd.prog) 42 3 (.int .i64 0) 8 Tryd.underlying42 Tryd.infoInt rfl .i64 .i64 n (by omega) (by omega)
  have hmul := mul_any 1 n (by omega) (by omega) w
  rw [Nat.one_mul, show n / 18446744073709551616 = 0 by omega, show n % 18446744073709551616 = n by omega] at hmul
  go_enter Tryd.func37, Tryd.ntmps37
  go_upto_region 7 with (go_at_call 46; refine hmul.mono ?_; rintro e w' ⟨rfl, hw⟩; rw [hw])
  have R := World.rowIs_made w (.int .i64 0) n 3
  have hBn := below_alloc w (.cells (madeCells #[.int .i64 0] n) 3)
  have hx2 := (hBn.cell (p := ⟨b, off, none⟩) hb).trans hx
  obtain ⟨w1, hw1⟩ : ∃ w1, w1 = w.alloc (.cells (madeCells #[.int .i64 0] n) 3) := ⟨_, rfl⟩
  obtain ⟨g, hg⟩ : ∃ g, g = w.heap.size := ⟨_, rfl⟩
  rw [← hw1] at R hBn hx2 ⊢
  rw [← hg] at R hBn ⊢
  have hw0 : w.heap.size ≤ g := by omega
  have hmo : Tryd.prog.follows .mixedOrders = true := by kernel_rfl
  have hinf : (Tryd.prog.info? 3).map (·.size) = some 1 := by kernel_rfl
  have R0 : w1.rowIs g 3 n (fun k => if k < 0 then .int .i64 v else .int .i64 0) := by simpa using R
  obtain ⟨cur, hcl, hcur⟩ := rowIs_cur R0
  have hBg : Below g w w1 := hBn
  have hg1 : g < w1.heap.size := R.lt
  have HG := Lib.hid hg
  have HX := Lib.hid hx2
  have HR0 := Lib.hid R0
  have HCL := Lib.hid hcl
  have hlen1 : (List.replicate (Nat.min 1 n) (Value.int .i64 v)).length = Nat.min 1 n := List.length_replicate
  have hmn : Nat.min 1 n ≤ n := Nat.min_le_right _ _
  obtain ⟨c0, hc0⟩ : ∃ c0, c0 = Nat.min 1 n := ⟨_, rfl⟩
  have hpos : n = 0 ∨ 0 < c0 := by
    rcases Nat.eq_zero_or_pos n with h | h
    · exact .inl h
    · right; rw [hc0]; exact Nat.lt_min.2 ⟨by omega, h⟩
  have HC0 := Lib.hid hc0
  have hc1 : c0 ≤ 1 := by rw [hc0]; exact Nat.min_le_left 1 n
  have HC1 := Lib.hid hc1
  rw [← hc0] at hlen1 hmn
  clear hw1 hg R R0 hx2 hx hBn hc0 hmul hcl hc1
  have HL1 := Lib.hid hlen1
  clear hlen1
  go_wp2_with (with_reducible refine wpList_copy_splice rfl _ _ 42 42 rfl 3 Tryd.underlying42 hinf (some ⟨g, 0, none⟩) (some ⟨b, off, none⟩) n n 1 c rfl rfl g 0 cur 3 hcur (List.replicate c0 (Value.int .i64 v)) (by rw [List.length_replicate]; exact HC0.out) (fun h => ⟨rfl, ⟨b, off, none⟩, rfl, ?qc1⟩) (by rw [List.length_replicate, HCL.out]; omega) ?qc2 g w hBg (Nat.le_refl _) ?_)
  case qc1 =>
    intro j u hj
    rw [List.getElem?_replicate] at hj
    split at hj
    · obtain rfl : j = 0 := by have := HC1.out; omega
      rw [← Option.some.inj hj]
      exact HX.out
    · cases hj
  case qc2 => intro u hu; rw [(List.mem_replicate.1 hu).2]; rfl
  intro w2 hg2 hB2
  try rw [HL1.out]
  have hr2 : w2.rowIs g 3 n (fun k => if k < c0 then .int .i64 v else .int .i64 0) := by
    have := rowIs_splice (c := 0) hcur HR0.out hg2.out (by omega)
    rwa [Nat.zero_add] at this
  clear hg2 hcur hBg
  obtain ⟨wo, rfl⟩ : ∃ wo : World, wo = w2 := ⟨_, rfl⟩
  go_wp2_with fail
  go_loopw [8] (fun i wr => ∃ q : Nat, q ≤ n ∧ (n = 0 ∨ 0 < q) ∧ i = .int .i64 q ∧ wr.rowIs g 3 n (fun k => if k < q then .int .i64 v else .int .i64 0) ∧ Below g w wr) (fun i _ => n - (intOf i).toNat)
  case atStart => exact ⟨c0, hmn, hpos, rfl, hr2, hB2⟩
  case round =>
    obtain ⟨q, hq, hqp, rfl, hr, hbr⟩ := hrel
    clear hr2 hB2
    by_cases hlt : q < n
    · have hq0 : 0 < q := by omega
      obtain ⟨cu, hcl2, hcu⟩ := rowIs_cur hr
      have hne : ¬ n = q := by omega
      have hcd : wr.drew.heap[g]? = some (.cells cu.toArray 3 (0, 0)) := hcu
      have hbd : Below g w wr.drew := hbr.drew
      have HS : Hid (∀ j u, (List.replicate (Nat.min q (n - q)) (Value.int .i64 v))[j]? = some u → wr.drew.cell? ((⟨g, 0, none⟩ : Addr).add j) = some u) := by
        intro j u hj
        rw [List.getElem?_replicate] at hj
        split at hj
        · rename_i hjl
          have hql : Nat.min q (n - q) ≤ q := Nat.min_le_left q (n - q)
          have hcj := hr.cell (i := j) (by omega)
          rw [if_pos (by omega)] at hcj
          rw [← Option.some.inj hj, Addr.add_lit, Nat.zero_add]
          exact hcj
        · cases hj
      have HR := Lib.hid hr
      have HCL2 := Lib.hid hcl2
      have hmin : Nat.min q (n - q) ≤ n - q := Nat.min_le_right _ _
      have hmin0 : 0 < Nat.min q (n - q) := Nat.lt_min.2 ⟨hq0, by omega⟩
      obtain ⟨d, hd⟩ : ∃ d, d = Nat.min q (n - q) := ⟨_, rfl⟩
      have HD := Lib.hid hd
      rw [← hd] at hmin hmin0 HS
      clear hcl2 hr hd
      go_wp2_with fail
      go_region_law_o (refine step_copy_splice rfl (.tmp 41) (.tmp 44) 42 42 rfl 3 Tryd.underlying42 hinf (some ⟨g, q, none⟩) (some ⟨g, 0, none⟩) (n - q) (n - q) q n (by simp [Act.eval, Act.put]) (by simp [Act.eval, Act.put]) g q cu 3 hcd (List.replicate d (Value.int .i64 v)) (by rw [List.length_replicate]; exact HD.out) (fun _ => ⟨rfl, ⟨g, 0, none⟩, rfl, HS.out⟩) (by rw [List.length_replicate, HCL2.out]; omega) (by intro u hu; rw [(List.mem_replicate.1 hu).2]; rfl) g w hbd (Nat.le_refl _) ?_; intro w4 hg4 hb4; rw [List.length_replicate])
      all_goals
        have hr4 := rowIs_splice hcu HR.out hg4.out (by omega)
        have hwr : IntKind.i64.wrap ((q : Int) + (d : Int)) = ((q + d : Nat) : Int) := by rw [IntKind.wrap_i64]; omega
        go_simp
        try simp only [hwr]
        go_wp2
        go_roundw
        case rel => exact ⟨q + d, by omega, .inr (by omega), by go_num, hr4, hb4⟩
        case measure => simp [intOf]; omega
    · obtain rfl : q = n := by omega
      go_wp2_with fail
      go_ret
      refine ⟨by rw [← HG.out]; rfl, ?_, hbr.mono hw0⟩
      rw [← HG.out]
      exact hr.congr fun k hk => by rw [if_pos hk]
end Go.Proofs.YtidgibkiacbgfaaDoor

namespace Go.Proofs.YtidgibkiacbgfaaDoor
open Go.RowKit
set_option maxRecDepth 100000

/-- one more edge -/
def sbS (f : Nat → Nat) (g : Nat → Option Nat) (e : Nat × Nat) : Nat → Option Nat := fun k => if k = e.2 ∧ f e.1 + 1 = f e.2 then some (match g e.2 with | none => e.1 | some a => min a e.1) else g k
def sbF (f : Nat → Nat) (E : List (Nat × Nat)) : Nat → Option Nat := E.foldl (sbS f) (fun _ => none)
theorem sbF_snoc (f : Nat → Nat) (E : List (Nat × Nat)) (e : Nat × Nat) : sbF f (E ++ [e]) = sbS f (sbF f E) e := by unfold sbF; rw [List.foldl_append]; rfl
theorem sbF_spec (f : Nat → Nat) (b : Nat) : ∀ (n : Nat) (E : List (Nat × Nat)), E.length = n → (sbF f E b = none → ∀ a, (a, b) ∈ E → f a + 1 ≠ f b) ∧ ∀ a, sbF f E b = some a → (a, b) ∈ E ∧ f a + 1 = f b ∧ ∀ a', (a', b) ∈ E → f a' + 1 = f b → a ≤ a' := by
  intro n
  induction n with
  | zero =>
    intro E hE
    obtain rfl := List.length_eq_zero_iff.1 hE
    exact ⟨fun _ a h => by simp at h, fun a h => by simp [sbF] at h⟩
  | succ n ih =>
    intro E hE
    obtain ⟨E', e, rfl⟩ : ∃ E' e, E = E' ++ [e] := ⟨E.dropLast, E.getLast (by intro h; subst h; simp at hE), (List.dropLast_concat_getLast _).symm⟩
    obtain ⟨h1, h2⟩ := ih E' (by simp at hE; omega)
    obtain ⟨x, y⟩ := e
    rw [sbF_snoc]
    unfold sbS
    dsimp only
    by_cases hc : b = y ∧ f x + 1 = f y
    · rw [if_pos hc]
      obtain ⟨rfl, hf⟩ := hc
      refine ⟨fun h => (by cases h), fun a ha => ?_⟩
      injection ha with ha
      cases hg : sbF f E' b with
      | none =>
        rw [hg] at ha
        dsimp only at ha
        subst ha
        refine ⟨by simp, hf, fun a' hm hf' => ?_⟩
        rcases List.mem_append.1 hm with hm | hm
        · exact absurd hf' (h1 hg a' hm)
        · simp at hm; omega
      | some a0 =>
        rw [hg] at ha
        dsimp only at ha
        obtain ⟨q1, q2, q3⟩ := h2 a0 hg
        refine ⟨?_, ?_, fun a' hm hf' => ?_⟩
        · rcases Nat.le_total a0 x with h | h
          · rw [Nat.min_eq_left h] at ha; subst ha; exact List.mem_append_left _ q1
          · rw [Nat.min_eq_right h] at ha; subst ha; simp
        · rcases Nat.le_total a0 x with h | h
          · rw [Nat.min_eq_left h] at ha; subst ha; exact q2
          · rw [Nat.min_eq_right h] at ha; subst ha; exact hf
        · rcases List.mem_append.1 hm with hm | hm
          · have := q3 a' hm hf'; omega
          · simp at hm; omega
    · rw [if_neg hc]
      refine ⟨fun h a hm hf => ?_, fun a ha => ?_⟩
      · rcases List.mem_append.1 hm with hm | hm
        · exact h1 h a hm hf
        · simp at hm
          obtain ⟨rfl, rfl⟩ := hm
          exact hc ⟨rfl, hf⟩
      · obtain ⟨q1, q2, q3⟩ := h2 a ha
        refine ⟨List.mem_append_left _ q1, q2, fun a' hm hf => ?_⟩
        rcases List.mem_append.1 hm with hm | hm
        · exact q3 a' hm hf
        · simp at hm
          obtain ⟨rfl, rfl⟩ := hm
          exact absurd ⟨rfl, hf⟩ hc
theorem sbF_prv {R : Nat → Nat → Bool} {f : Nat → Nat} {N : Nat} {E : List (Nat × Nat)} (hR : ∀ i j, R i j = true → i < N ∧ j < N) (hE : ∀ a b, R a b = true ↔ (a, b) ∈ E) : sbF f E = prv R f N := by
  funext b
  obtain ⟨h1, h2⟩ := sbF_spec f b E.length E rfl
  cases hp : prv R f N b with
  | some a =>
    obtain ⟨q1, q2, q3⟩ := find_range hp
    unfold fit at q2
    simp only [Bool.and_eq_true, decide_eq_true_eq] at q2
    cases hs : sbF f E b with
    | none => exact absurd q2.1 (h1 hs a ((hE _ _).1 q2.2))
    | some a' =>
      obtain ⟨r1, r2, r3⟩ := h2 a' hs
      have := r3 a ((hE _ _).1 q2.2) q2.1
      rcases Nat.lt_or_ge a' a with h | h
      · have := q3 a' h
        unfold fit at this
        rw [(hE _ _).2 r1] at this
        simp [r2] at this
      · rw [show a' = a by omega]
  | none =>
    have hno := find_range_none hp
    cases hs : sbF f E b with
    | none => rfl
    | some a' =>
      obtain ⟨r1, r2, r3⟩ := h2 a' hs
      have := hno a' (hR _ _ ((hE _ _).2 r1)).1
      unfold fit at this
      rw [(hE _ _).2 r1] at this
      simp [r2] at this
def oI : Option Nat → Int
  | none => -1
  | some a => (a : Int)

theorem sbS_no {f : Nat → Nat} {q : Nat → Option Nat} {x y : Nat} (h : f x + 1 ≠ f y) : sbS f q (x, y) = q := by
  funext k
  unfold sbS
  exact if_neg fun h' => h h'.2
theorem sbS_set {f : Nat → Nat} {q : Nat → Option Nat} {x y : Nat} (h : f x + 1 = f y) (hq : ∀ a, q y = some a → x < a) : (fun i => if i = y then Value.int .i64 (x : Int) else Value.int .i64 (oI (q i))) = fun i => Value.int .i64 (oI (sbS f q (x, y) i)) := by
  funext i
  unfold sbS
  dsimp only
  by_cases e : i = y
  · subst e
    rw [if_pos rfl, if_pos ⟨rfl, h⟩]
    cases hs : q i with
    | none => rfl
    | some a =>
      have := hq a hs
      show _ = Value.int .i64 ((min a x : Nat) : Int)
      rw [Nat.min_eq_right (by omega)]
  · rw [if_neg e, if_neg fun h' => e h'.1]
theorem sbS_more {f : Nat → Nat} {q : Nat → Option Nat} {x y a : Nat} (hs : q y = some a) (hx : ¬ x < a) : sbS f q (x, y) = q := by
  funext k
  unfold sbS
  dsimp only
  split
  · rename_i h
    rw [h.1, hs]
    show some (min a x) = some a
    rw [Nat.min_eq_left (by omega)]
  · rfl
theorem oI_eq {o : Option Nat} {v : Int} (h : oI o = v) : (v = -1 ∧ o = none) ∨ ∃ a : Nat, v = (a : Int) ∧ o = some a := by
  cases o with
  | none => exact .inl ⟨h.symm, rfl⟩
  | some a => exact .inr ⟨a, h.symm, rfl⟩

end Go.Proofs.YtidgibkiacbgfaaDoor

namespace Go.Proofs.YtidgibkiacbgfaaDoor
open Go.RowKit
set_option maxRecDepth 100000

/-- the three rows' blocks are left aside -/
def NB (gb gh gt b : Nat) : Prop := b ≠ gb ∧ b ≠ gh ∧ b ≠ gt
structure Env (w : World) (es : List (Int × Int)) (m B1 B3 B4 gb gh gt base : Nat) (A1 : Option Addr) (c1 : Nat) : Prop where
  f : w.cell? ⟨B1, 0, none⟩ = some (.slice A1 m c1)
  s0 : w.cell? ⟨B3, 0, none⟩ = some (.slice (some ⟨gb, 0, none⟩) m m)
  s1 : w.cell? ⟨B3, 1, none⟩ = some (.slice (some ⟨gh, 0, none⟩) m m)
  s2 : w.cell? ⟨B3, 2, none⟩ = some (.slice (some ⟨gt, 0, none⟩) m m)
  v : w.cell? ⟨B4, 0, none⟩ = some (.func (.func 38) #[] #[.pointer (some ⟨B1, 0, none⟩), .pointer (some ⟨B3, 0, none⟩), .pointer (some ⟨B4, 0, none⟩)])
  u : RdUU w base A1 (behs m es)
  t : Tab w
  l1 : NB gb gh gt B1
  l3 : NB gb gh gt B3
  l4 : NB gb gh gt B4
  lb : base ≤ gb ∧ base ≤ gh ∧ base ≤ gt
  ls : base ≤ w.heap.size
  lt : 0 < base
  ne : gb ≠ gh ∧ gb ≠ gt ∧ gh ≠ gt
theorem Env.keeps {w w' : World} {es : List (Int × Int)} {m B1 B3 B4 gb gh gt base : Nat} {A1 : Option Addr} {c1 : Nat} (h : Env w es m B1 B3 B4 gb gh gt base A1 c1) (hk : Keeps (NB gb gh gt) w w') : Env w' es m B1 B3 B4 gb gh gt base A1 c1 := by
  have hB : Below base w w' := hk.below h.ls fun k hk => by have := h.lb; exact ⟨by omega, by omega, by omega⟩
  have hc : ∀ b o v, NB gb gh gt b → w.cell? ⟨b, o, none⟩ = some v → w'.cell? ⟨b, o, none⟩ = some v := fun b o v hn hc => (World.cell?_of_block (a := ⟨b, o, none⟩) (hk.block b (World.block_lt_of_cell? _ _ hc) hn)).trans hc
  exact ⟨hc _ _ _ h.l1 h.f, hc _ _ _ h.l3 h.s0, hc _ _ _ h.l3 h.s1, hc _ _ _ h.l3 h.s2, hc _ _ _ h.l4 h.v,
    h.u.below hB, h.t.below h.lt hB, h.l1, h.l3, h.l4, h.lb, Nat.le_trans h.ls hB.size, h.lt, h.ne⟩
/-- the three rows -/
structure Rows3 (w : World) (m gb gh gt : Nat) (B H : Nat → Option Nat) (T : Nat → Bool) : Prop where
  b : w.rowIs gb 3 m (fun k => .int .i64 (oI (B k)))
  h : w.rowIs gh 3 m (fun k => .int .i64 (oI (H k)))
  t : w.rowIs gt 4 m (fun k => .bool (T k))
theorem Rows3.step {w w' : World} {m gb gh gt : Nat} {B H : Nat → Option Nat} {T : Nat → Bool} (h : Rows3 w m gb gh gt B H T) (hb : Below w.heap.size w w') : Rows3 w' m gb gh gt B H T := ⟨rowIs_step h.b hb, rowIs_step h.h hb, rowIs_step h.t hb⟩
theorem Rows3.drew {w : World} {m gb gh gt : Nat} {B H : Nat → Option Nat} {T : Nat → Bool} (h : Rows3 w m gb gh gt B H T) : Rows3 w.drew m gb gh gt B H T := ⟨h.b, h.h, h.t⟩
theorem rowIs_other {w : World} {g t m : Nat} {f : Nat → Value} (h : w.rowIs g t m f) {p : Addr} (hne : g ≠ p.block) (v : Value) : (w.setCell p v).rowIs g t m f := h.of_block (Below.heap_setCell w p v g hne)
theorem oI_set (B : Nat → Option Nat) (x n : Nat) : (fun i => if i = x then Value.int .i64 (n : Int) else Value.int .i64 (oI (B i))) = fun i => Value.int .i64 (oI (setO B x n i)) := by
  funext i
  unfold setO
  split <;> rfl
theorem b_set (T : Nat → Bool) (x : Nat) : (fun i => if i = x then Value.bool true else Value.bool (T i)) = fun i => Value.bool (setT T x i) := by
  funext i
  unfold setT
  split <;> rfl
theorem Rows3.try_ {w : World} {m gb gh gt x : Nat} {B H : Nat → Option Nat} {T : Nat → Bool} (h : Rows3 w m gb gh gt B H T) (ne : gb ≠ gh ∧ gb ≠ gt ∧ gh ≠ gt) : Rows3 (w.setCell ⟨gt, x, none⟩ (.bool true)) m gb gh gt B H (setT T x) := by
  refine ⟨rowIs_other h.b ne.2.1 _, rowIs_other h.h ne.2.2 _, ?_⟩
  have := h.t.set x (.bool true)
  rwa [b_set] at this
theorem Rows3.join {w : World} {m gb gh gt x n : Nat} {B H : Nat → Option Nat} {T : Nat → Bool} (h : Rows3 w m gb gh gt B H T) (ne : gb ≠ gh ∧ gb ≠ gt ∧ gh ≠ gt) : Rows3 ((w.setCell ⟨gh, n, none⟩ (.int .i64 (x : Int))).setCell ⟨gb, x, none⟩ (.int .i64 (n : Int))) m gb gh gt (setO B x n) (setO H n x) T := by
  refine ⟨?_, ?_, rowIs_other (rowIs_other h.t (fun e => ne.2.2 e.symm) _) (fun e => ne.2.1 e.symm) _⟩
  · have := (rowIs_other (p := ⟨gh, n, none⟩) h.b ne.1 (.int .i64 (x : Int))).set x (.int .i64 (n : Int))
    rwa [oI_set] at this
  · have := h.h.set n (.int .i64 (x : Int))
    rw [oI_set] at this
    exact rowIs_other this (fun e => ne.1 e.symm) _
theorem Rows3.join' {w : World} {m gb gh gt x n : Nat} {B H : Nat → Option Nat} {T : Nat → Bool} (h : Rows3 w m gb gh gt B H T) (ne : gb ≠ gh ∧ gb ≠ gt ∧ gh ≠ gt) : Rows3 ((w.setCell ⟨gb, x, none⟩ (.int .i64 (n : Int))).setCell ⟨gh, n, none⟩ (.int .i64 (x : Int))) m gb gh gt (setO B x n) (setO H n x) T := by
  refine ⟨?_, ?_, rowIs_other (rowIs_other h.t (fun e => ne.2.1 e.symm) _) (fun e => ne.2.2 e.symm) _⟩
  · have := h.b.set x (.int .i64 (n : Int))
    rw [oI_set] at this
    exact rowIs_other this ne.1 _
  · have := (rowIs_other (p := ⟨gb, x, none⟩) h.h (fun e => ne.1 e.symm) (.int .i64 (n : Int))).set n (.int .i64 (x : Int))
    rwa [oI_set] at this

/-- what the search reads around its call of itself -/
abbrev HeldY (B3 B4 gb x : Nat) (sl fv u : Value) (w' : World) : Prop := w'.cell? ⟨B3, 0, none⟩ = some sl ∧ w'.cell? ⟨B4, 0, none⟩ = some fv ∧ w'.cell? ⟨gb, x, none⟩ = some u
theorem HeldY.drew {W : World} {B3 B4 gb x : Nat} {sl fv u : Value} (h : HeldY B3 B4 gb x sl fv u W) : HeldY B3 B4 gb x sl fv u W.drew := h

theorem list_new (A : Option Addr) (c : Nat) (xs : List Nat) (w : World) (hx : RdU w w.heap.size A xs) (hroom : xs.length ≤ 1048576) (hT : Tab w) :
    Calls Tryd.prog 39 #[.slice A xs.length c] w fun e w' => ∃ A1 c1, e = .returned (.slice A1 (alist xs (64 * xs.length)).length c1) ∧ RdI w' w'.heap.size A1 (alist xs (64 * xs.length)) ∧ (0 < (alist xs (64 * xs.length)).length → ∃ g, A1 = some ⟨g, 0, none⟩ ∧ w.heap.size ≤ g) ∧ Below w.heap.size w w' :=
  (callsIn_wide.1 (list_in 3 (Nat.le_refl _) A c xs w hx hroom hT)).mono fun e w' ⟨v, he, hown, hb⟩ => by
    have hl := alist_le xs (64 * xs.length)
    obtain ⟨A1, c1, rfl, hr⟩ := own_rdI hown (fun k => by have := alist_zd xs (64 * xs.length) k; omega) (fun k => by have := alist_zd xs (64 * xs.length) k; omega) (by omega)
    exact ⟨A1, c1, he, hr, fun h0 => by
      obtain ⟨g, cap, hv, hg, _⟩ := own_shape hown h0
      injection hv with hA
      exact ⟨g, hA, hg⟩, hb⟩

set_option maxHeartbeats 8000000 in
theorem extend_any (es : List (Int × Int)) (m : Nat) (_hm : m ≤ 200) (hin : inR m es = true) (f : Nat → Nat → Bool) (hf : f = fw (gR es) m) (B1 B3 B4 gb gh gt base : Nat) (A1 : Option Addr) (c1 : Nat) :
    ∀ s, ∀ (B H : Nat → Option Nat) (T : Nat → Bool) (n : Nat), untr m T ≤ s → Mt f m B H → n < m → (∀ k, H n = some k → T k = true) → ∀ w : World, Env w es m B1 B3 B4 gb gh gt base A1 c1 → Rows3 w m gb gh gt B H T →
    Calls Tryd.prog 38 #[.int .i64 (n : Int), .pointer (some ⟨B1, 0, none⟩), .pointer (some ⟨B3, 0, none⟩), .pointer (some ⟨B4, 0, none⟩)] w fun e w' => ∃ (r : Bool) (B' H' : Nat → Option Nat) (T' : Nat → Bool), e = .returned (.bool r) ∧ Rows3 w' m gb gh gt B' H' T' ∧ Keeps (NB gb gh gt) w w' ∧ (∀ k, T k = true → T' k = true) ∧
      ((r = true ∧ Suc f m B H T n B' H') ∨ (r = false ∧ B' = B ∧ H' = H ∧ Fal f B T n T')) := by
  intro s
  induction s using Nat.strongRecOn with
  | ind s ih =>
    intro B H T n hun hM hn hP w hE hR
    go_enter Tryd.func38, Tryd.ntmps38
    obtain ⟨b5, off5, A5, c5, rfl, hb5, hc5, hs5⟩ := hE.u.at_ (k := n) (by rw [behs_len]; exact hn)
    rw [st_behs _ hn] at hc5 hs5
    have hbl := beh_len m es n
    have hLf : ∀ k : Nat, f n k = true ↔ ((k : Nat) : Int) ∈ alist (beh m es n) (64 * (beh m es n).length) := fun k => by
      rw [mem_alist, hf]
      constructor
      · intro hk
        have hb : bitB (beh m es n) k = true := by rw [beh_bit hin]; exact hk
        exact ⟨k, bit_in' _ _ hb, hb, rfl⟩
      · rintro ⟨q, _, hq, hqk⟩
        obtain rfl : k = q := by omega
        rw [beh_bit hin] at hq
        exact hq
    obtain ⟨xs, hxs⟩ : ∃ xs, xs = beh m es n := ⟨_, rfl⟩
    rw [← hxs] at hc5 hs5 hbl hLf
    have ef := hE.f
    have n0 : (0 : Int) ≤ (n : Int) := Int.natCast_nonneg _
    have n1 : (n : Int) < (m : Int) := by omega
    have hlist := list_new A5 c5 xs w (hs5.more hE.ls) (by omega) hE.t
    obtain ⟨L, hL⟩ : ∃ L, L = alist xs (64 * xs.length) := ⟨_, rfl⟩
    have hLn : ∀ z, z ∈ L → ∃ k : Nat, z = (k : Int) := fun z hz => by
      rw [hL, mem_alist] at hz
      obtain ⟨k, _, _, e⟩ := hz
      exact ⟨k, e⟩
    have HLN := Lib.hid hLn
    rw [← hL] at hlist hLf
    have hLl : L.length ≤ 65536 := by
      have := alist_le xs (64 * xs.length)
      rw [← hL] at this
      omega
    have HLF := Lib.hid hLf
    have HLIST := Lib.hid hlist
    clear hlist hLf hL hLn hxs hs5 hbl
    go_wp2_with (first | (go_at_call 39; refine HLIST.out.mono ?_; rintro e w1 ⟨A9, c9, rfl, r9, hnew, hb1⟩) | fail)
    have hgl := hR.b.lt
    have hhl := hR.h.lt
    have htl := hR.t.lt
    have HNEW := Lib.hid hnew
    have hk1 : Keeps (NB gb gh gt) w w1 := Keeps.of_below hb1 fun k hk _ => hk
    have hE1 := hE.keeps hk1
    have hR1 := hR.step hb1
    have HM := Lib.hid hM
    have HP := Lib.hid hP
    have hne := hE.ne
    have HNE := Lib.hid hne
    have hne1 := hne.1
    have hne2 := hne.2.1
    have hne3 := hne.2.2
    have d1 : ¬ B3 = gh := hE1.l3.2.1
    have d2 : ¬ B3 = gb := hE1.l3.1
    have d3 : ¬ gb = gh := hne1
    have d4 : ¬ gh = gb := fun e => hne1 e.symm
    clear hM hP ef hc5 hE hR hb1 hne hnew
    go_loopw [14] (fun i wr => ∃ j : Nat, j ≤ L.length ∧ i = .int .i64 j ∧ ∃ Tc : Nat → Bool, Rows3 wr m gb gh gt B H Tc ∧ Par B f T L j Tc ∧ Keeps (NB gb gh gt) w1 wr) (fun i _ => L.length - (intOf i).toNat)
    case atStart => exact ⟨0, Nat.zero_le _, rfl, T, hR1, Par.start L, Keeps.refl _ _⟩
    case round =>
      obtain ⟨j, hj, rfl, Tc, hR, hPar, hkp⟩ := hrel
      clear hR1
      have hE := hE1.keeps hkp
      by_cases hjl : j < L.length
      · obtain ⟨b9, off9, rfl, hb9, hc9⟩ := r9.rd (by omega)
        have hcz := hc9 j hjl
        dsimp only at hcz
        have hzm : zd L j ∈ L := zd_mem' L j hjl
        obtain ⟨x, hx, hfx, hxm⟩ : ∃ x : Nat, zd L j = (x : Int) ∧ f n x = true ∧ x < m := by
          obtain ⟨x, hx⟩ : ∃ x : Nat, zd L j = (x : Int) := HLN.out _ hzm
          rw [hx] at hzm
          have h1 := (HLF.out x).2 hzm
          refine ⟨x, hx, h1, ?_⟩
          rw [hf] at h1
          exact (fw_lt hin h1).2
        have hb9n : b9 ≠ gb ∧ b9 ≠ gh ∧ b9 ≠ gt := by
          obtain ⟨g9, hg9, hg9l⟩ := HNEW.out (by omega)
          injection hg9 with hg9
          injection hg9 with hg9 _
          omega
        rw [hx] at hcz
        have hcx := (World.cell?_of_block (a := ⟨b9, off9 + j, none⟩) (hkp.block b9 hb9 hb9n)).trans hcz
        have HX := Lib.hid hx
        have x0 : (0 : Int) ≤ (x : Int) := Int.natCast_nonneg _
        have x1 : (x : Int) < (m : Int) := by omega
        have e0 := hE.s0
        have e1 := hE.s1
        have e2 := hE.s2
        have ev := hE.v
        have ct := hR.t.cell hxm
        have ft := hR.t.frozen x
        clear hc9 hcz hx hzm
        cases htx : Tc x with
        | true =>
          rw [htx] at ct
          have HS := Lib.hid (hPar.skip HX.out htx)
          clear htx e0 e1 ev
          go_wp2_with fail
          go_roundw
          case rel => exact ⟨j + 1, by omega, by go_num, Tc, hR, HS.out, hkp⟩
          case measure => simp [intOf]; omega
        | false =>
          rw [htx] at ct
          have hTx : T x = false := by
            rw [← Bool.not_eq_true]
            intro h1
            rw [hPar.up x h1] at htx
            cases htx
          have hut := untr_set hxm htx
          have hup0 := untr_up (m := m) hPar.up
          have hR2 := hR.try_ (x := x) HNE.out
          have hks : Keeps (NB gb gh gt) wr (wr.setCell ⟨gt, x, none⟩ (.bool true)) := (Keeps.refl _ wr).setCell (fun _ h => h.2.2 rfl) _
          have hkp2 := hkp.trans hks
          have hE2 := hE.keeps hks
          obtain ⟨w2, hw2⟩ : ∃ w2, w2 = wr.setCell ⟨gt, x, none⟩ (.bool true) := ⟨_, rfl⟩
          have bh := hR2.b.cell hxm
          go_upto_region 6 with fail
          rw [← hw2] at hR2 hks hkp2 hE2 bh ⊢
          have k0 := hE2.s0
          have k1 := hE2.s1
          have kv := hE2.v
          have HPU := Lib.hid hPar
          clear hw2 e0 e1 e2 ev ct ft hR hE hkp hks hPar
          try dsimp only at bh
          cases hBx : B x with
          | none =>
            rw [hBx] at bh
            have hbh : w2.cell? ⟨gb, x, none⟩ = some (.int .i64 (-1)) := bh
            have SUC := Lib.hid (Suc.direct HM.out hn hxm hfx hTx hBx HP.out)
            have ch := hR2.h.cell hn
            have fh := hR2.h.frozen n
            have fb := hR2.b.frozen x
            obtain ⟨vh, hvh⟩ : ∃ vh, vh = oI (H n) := ⟨_, rfl⟩
            try dsimp only at ch
            rw [← hvh] at ch
            have RJ := Lib.hid (hR2.join (x := x) (n := n) HNE.out)
            have RK := Lib.hid (hR2.join' (x := x) (n := n) HNE.out)
            have KJ := Lib.hid (((hk1.trans hkp2).setCell (q := ⟨gh, n, none⟩) (fun _ h => h.2.1 rfl) (.int .i64 (x : Int))).setCell (q := ⟨gb, x, none⟩) (fun _ h => h.1 rfl) (.int .i64 (n : Int)))
            have KK := Lib.hid (((hk1.trans hkp2).setCell (q := ⟨gb, x, none⟩) (fun _ h => h.1 rfl) (.int .i64 (n : Int))).setCell (q := ⟨gh, n, none⟩) (fun _ h => h.2.1 rfl) (.int .i64 (x : Int)))
            clear hBx bh hvh hR2 hE2 hkp2 kv htx
            go_quiet (fail)
            go_upto_region 7 with fail
            go_region
            all_goals
              go_wp2
              go_ret
              first
                | exact ⟨true, _, _, setT Tc x, rfl, ⟨RJ.out.b, RJ.out.h, RJ.out.t⟩, ⟨KJ.out.os, KJ.out.tape, KJ.out.output, KJ.out.size, KJ.out.block⟩, fun k hk => setT_up (HPU.out.up k hk), .inl ⟨rfl, SUC.out⟩⟩
                | exact ⟨true, _, _, setT Tc x, rfl, ⟨RK.out.b, RK.out.h, RK.out.t⟩, ⟨KK.out.os, KK.out.tape, KK.out.output, KK.out.size, KK.out.block⟩, fun k hk => setT_up (HPU.out.up k hk), .inl ⟨rfl, SUC.out⟩⟩
          | some a0 =>
            rw [hBx] at bh
            have hbh : w2.cell? ⟨gb, x, none⟩ = some (.int .i64 (a0 : Int)) := bh
            obtain ⟨ha0, _, _, hHa⟩ := HM.out.b x a0 hBx
            have hq0 : ((a0 : Int) == -1) = false := beq_eq_false_iff_ne.2 (by omega)
            have hs1 : untr m (setT Tc x) < s := by omega
            have hIH := ih _ hs1 B H (setT Tc x) a0 (Nat.le_refl _) HM.out ha0 (fun k hk => by rw [hHa] at hk; injection hk with hk; rw [← hk]; exact setT_same _ _)
            have HC : Hid (∀ W : World, Env W es m B1 B3 B4 gb gh gt base (some ⟨b5, off5, none⟩) c1 → Rows3 W m gb gh gt B H (setT Tc x) →
                Calls Tryd.prog 38 #[.int .i64 (a0 : Int), .pointer (some ⟨B1, 0, none⟩), .pointer (some ⟨B3, 0, none⟩), .pointer (some ⟨B4, 0, none⟩)] W fun e w' => ∃ (r : Bool) (B' H' : Nat → Option Nat) (T' : Nat → Bool), e = .returned (.bool r) ∧ Rows3 w' m gb gh gt B' H' T' ∧ Keeps (NB gb gh gt) W w' ∧ (∀ k, setT Tc x k = true → T' k = true) ∧
                  ((r = true ∧ Suc f m B H (setT Tc x) a0 B' H') ∨ (r = false ∧ B' = B ∧ H' = H ∧ Fal f B (setT Tc x) a0 T')) ∧
                  HeldY B3 B4 gb x (.slice (some ⟨gb, 0, none⟩) m m) (.func (.func 38) #[] #[.pointer (some ⟨B1, 0, none⟩), .pointer (some ⟨B3, 0, none⟩), .pointer (some ⟨B4, 0, none⟩)]) (.int .i64 (a0 : Int)) w') := fun W h1 h2 => by
              refine (hIH W h1 h2).mono ?_
              rintro e w' ⟨r, B', H', T', rfl, h3, h4, h5, h6⟩
              have h7 := h1.keeps h4
              refine ⟨r, B', H', T', rfl, h3, h4, h5, h6, h7.s0, h7.v, ?_⟩
              have h8 := h3.b.cell hxm
              try dsimp only at h8
              have h9 : B' x = some a0 := by
                rcases h6 with ⟨_, h6⟩ | ⟨_, h6, _⟩
                · exact h6.old x hHa
                · rw [h6]; exact hBx
              rw [h9] at h8
              exact h8
            have HBX := Lib.hid hBx
            have hE2d : Env w2.drew es m B1 B3 B4 gb gh gt base (some ⟨b5, off5, none⟩) c1 := hE2.keeps ((Keeps.refl _ w2).drew)
            have hR2d := hR2.drew
            clear bh hBx ih hIH hHa hE2 hR2 k1
            go_region_held3 (HeldY B3 B4 gb x (.slice (some ⟨gb, 0, none⟩) m m) (.func (.func 38) #[] #[.pointer (some ⟨B1, 0, none⟩), .pointer (some ⟨B3, 0, none⟩), .pointer (some ⟨B4, 0, none⟩)]) (.int .i64 (a0 : Int)))
              (first
                | (go_split_ands; refine ⟨?_, ?_, ?_⟩ <;> assumption)
                | (go_split_ands; exact HeldY.drew ⟨‹_›, ‹_›, ‹_›⟩))
              (first
                | (go_at_call 38; refine (HC.out _ (by assumption) (by assumption)).mono ?_; rintro e w6 ⟨r, Bq, Hq, Tq, rfl, hRq, hkq, hupq, hcase, hq6⟩))
            all_goals
              have hE6 := hE2d.keeps hkq
              have k0' := hE6.s0
              have k1' := hE6.s1
              cases r with
              | true =>
                have hi : Suc f m B H (setT Tc x) a0 Bq Hq := by
                  rcases hcase with ⟨_, h⟩ | ⟨h, _⟩
                  · exact h
                  · cases h
                have SUC := Lib.hid (Suc.deep HM.out hn hxm hfx hTx (fun k hk => setT_up (HPU.out.up k hk)) (setT_same _ _) HBX.out HP.out hi)
                have hbh6 := hRq.b.cell hxm
                have ch := hRq.h.cell hn
                have fh := hRq.h.frozen n
                have fb := hRq.b.frozen x
                try dsimp only at hbh6 ch
                obtain ⟨vh, hvh⟩ : ∃ vh, vh = oI (Hq n) := ⟨_, rfl⟩
                obtain ⟨vb, hvb⟩ : ∃ vb, vb = oI (Bq x) := ⟨_, rfl⟩
                rw [← hvh] at ch
                rw [← hvb] at hbh6
                have RJ := Lib.hid (hRq.join (x := x) (n := n) HNE.out)
                have RK := Lib.hid (hRq.join' (x := x) (n := n) HNE.out)
                have KJ := Lib.hid ((((hk1.trans hkp2).drew.trans hkq).setCell (q := ⟨gh, n, none⟩) (fun _ h => h.2.1 rfl) (.int .i64 (x : Int))).setCell (q := ⟨gb, x, none⟩) (fun _ h => h.1 rfl) (.int .i64 (n : Int)))
                have KK := Lib.hid ((((hk1.trans hkp2).drew.trans hkq).setCell (q := ⟨gb, x, none⟩) (fun _ h => h.1 rfl) (.int .i64 (n : Int))).setCell (q := ⟨gh, n, none⟩) (fun _ h => h.2.1 rfl) (.int .i64 (x : Int)))
                have HUP := Lib.hid hupq
                clear hvh hvb hRq hE6 hE2d hR2d hkp2 hkq hupq hcase hi hq6 kv k0
                go_upto_region 7 with fail
                go_region
                all_goals
                  go_wp2
                  go_ret
                  first
                    | exact ⟨true, _, _, Tq, rfl, ⟨RJ.out.b, RJ.out.h, RJ.out.t⟩, ⟨KJ.out.os, KJ.out.tape, KJ.out.output, KJ.out.size, KJ.out.block⟩, fun k hk => HUP.out k (setT_up (HPU.out.up k hk)), .inl ⟨rfl, SUC.out⟩⟩
                    | exact ⟨true, _, _, Tq, rfl, ⟨RK.out.b, RK.out.h, RK.out.t⟩, ⟨KK.out.os, KK.out.tape, KK.out.output, KK.out.size, KK.out.block⟩, fun k hk => HUP.out k (setT_up (HPU.out.up k hk)), .inl ⟨rfl, SUC.out⟩⟩
              | false =>
                have hi : Bq = B ∧ Hq = H ∧ Fal f B (setT Tc x) a0 Tq := by
                  rcases hcase with ⟨h, _⟩ | ⟨_, h⟩
                  · cases h
                  · exact h
                obtain ⟨rfl, rfl, hfa⟩ := hi
                have HS := Lib.hid (HPU.out.fail HX.out HBX.out hfa)
                have KP := Lib.hid ((hkp2.drew).trans hkq)
                clear hE6 hE2d hR2d hkp2 hkq hupq hcase hq6 kv k0 k0' k1' hfa
                go_wp2_with fail
                go_roundw
                case rel => exact ⟨j + 1, by omega, by go_num, Tq, hRq, HS.out, KP.out⟩
                case measure => simp [intOf]; omega
      · obtain rfl : j = L.length := by omega
        have HD := Lib.hid (hPar.done (n := n) fun k hk => (HLF.out k).1 hk)
        go_wp2_with fail
        go_ret
        exact ⟨false, B, H, Tc, rfl, hR, hk1.trans hkp, hPar.up, .inr ⟨rfl, rfl, rfl, HD.out⟩⟩
end Go.Proofs.YtidgibkiacbgfaaDoor

namespace Go.Proofs.YtidgibkiacbgfaaDoor

section
variable {P : Program} {ops : Array Oper} {Q : Exit → Act → World → Prop} {md : Region.Mode} {S : World → Prop}
/-- how many of n have not come up -/
def leftN (n : Nat) (listed : Array Bool) : Nat := ((List.range n).filter fun i => !listed.getD i true).length
theorem leftN_set {n i : Nat} {listed : Array Bool} (h : i < n) (hf : listed.getD i true = false) : leftN n (listed.setIfInBounds i true) < leftN n listed := by
  have hlt : i < listed.size := by
    rcases Nat.lt_or_ge i listed.size with h' | h'
    · exact h'
    · simp [Array.getElem?_eq_none h'] at hf
  have key : ∀ j, (listed.setIfInBounds i true).getD j true = if j = i then true else listed.getD j true := fun j => by
    by_cases e : j = i
    · subst e
      rw [if_pos rfl]
      simp [hlt]
    · rw [if_neg e]
      exact getD_set_ne true (Ne.symm e)
  unfold leftN
  induction n with
  | zero => omega
  | succ n ih =>
    rw [List.range_succ, List.filter_append, List.filter_append, List.length_append, List.length_append]
    by_cases e : i = n
    · subst e
      have h1 : (List.range i).filter (fun j => !(listed.setIfInBounds i true).getD j true) = (List.range i).filter (fun j => !listed.getD j true) :=
        List.filter_congr fun j hj => by rw [key, if_neg (by have := List.mem_range.1 hj; omega)]
      rw [h1]
      simp only [List.filter_cons, List.filter_nil, key, if_true, hf]
      simp
    · have h2 := ih (by omega)
      have h3 : ([n].filter fun j => !(listed.setIfInBounds i true).getD j true) = [n].filter fun j => !listed.getD j true :=
        List.filter_congr fun j hj => by rw [List.mem_singleton.1 hj, key, if_neg (by omega)]
      rw [h3]
      omega
theorem leftN_zero {listed : Array Bool} (h : leftN ops.size listed = 0) : Region.ready md ops listed = [] := by
  rw [List.eq_nil_iff_forall_not_mem]
  intro j hj
  obtain ⟨h1, o, ho, _⟩ := mem_ready.1 hj
  have hlt : j < ops.size := (Array.getElem?_eq_some_iff.1 ho).1
  have : j ∈ (List.range ops.size).filter fun i => !listed.getD i true := List.mem_filter.2 ⟨List.mem_range.2 hlt, by rw [h1]; rfl⟩
  unfold leftN at h
  rw [List.length_eq_zero_iff.1 h] at this
  cases this
/-- ONE STEP AN OPERATION: what holds behind each one holds whatever came between -/
theorem wpAnyH_inv {I : Array Bool → Act → World → Prop}
    (hstep : ∀ listed a w, I listed a w → ∀ i o, ops[i]? = some o → listed.getD i true = false → (∀ e ∈ o.after, Region.binds md e = true → listed.getD e.on false = true) →
      ∀ K' : Act → World → Prop, Shut (∀ a' w', S w' → I (listed.setIfInBounds i true) a' w' → K' a' w') → if Region.wanted o (yielded ops a.tmps) = true then Oper.wp P o a w K' Q else K' (a.put o.dst undef) w)
    (hend : ∀ listed a w, I listed a w → Region.ready md ops listed = [] → Q .normal a w) :
    ∀ (fuel : Nat) (listed : Array Bool) (a : Act) (w : World), leftN ops.size listed ≤ fuel → I listed a w → wpAnyH P md ops Q S fuel listed a w
  | 0, listed, a, w, hl, hI => by
    have hr := leftN_zero (md := md) (ops := ops) (listed := listed) (by omega)
    exact ⟨hr, hend _ _ _ hI hr⟩
  | fuel + 1, listed, a, w, hl, hI => by
    refine ⟨fun hr => hend _ _ _ hI hr, fun i hi => ?_⟩
    obtain ⟨hf, o, ho, ha⟩ := mem_ready.1 hi
    have hlt : i < ops.size := (Array.getElem?_eq_some_iff.1 ho).1
    refine wpOp_step ho fun K' hK => hstep listed a w hI i o ho hf ha K' fun a' w' hS hI' => hK a' w' ⟨hS, ?_⟩
    have := leftN_set hlt hf
    exact wpAnyH_inv hstep hend fuel _ a' w' (by omega) hI'
/-- where none may come up, one that waits for none that is left has come up -/
theorem came_up {listed : Array Bool} {i : Nat} {o : Oper} (hr : Region.ready md ops listed = []) (ho : ops[i]? = some o) (ha : ∀ e ∈ o.after, Region.binds md e = true → listed.getD e.on false = true) : listed.getD i true = true := by
  cases h : listed.getD i true with
  | true => rfl
  | false =>
    have : i ∈ Region.ready md ops listed := mem_ready.2 ⟨h, o, ho, ha⟩
    rw [hr] at this
    cases this
theorem came_up' {listed : Array Bool} {i : Nat} {o : Oper} (hr : Region.ready md ops listed = []) (ho : ops[i]? = some o) (ha : (o.after.toList.all fun e => !Region.binds md e || listed.getD e.on false) = true) : listed.getD i true = true :=
  came_up hr ho fun e he hb => by
    have := List.all_eq_true.1 ha e (by simpa using he)
    rw [hb] at this
    simpa using this
end
end Go.Proofs.YtidgibkiacbgfaaDoor
