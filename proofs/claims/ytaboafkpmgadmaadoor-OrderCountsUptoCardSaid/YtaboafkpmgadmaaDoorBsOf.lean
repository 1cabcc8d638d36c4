/-
  bitset.Of answers the set of the list's numbers between 0 and 65535, for every list of ints.
-/
import Derived.Test.YtaboafkpmgadmaaDoorBsIter
import Derived.Maps.AppendAt
import Derived.RangeFuncNested
namespace Go.Proofs.YtaboafkpmgadmaaDoor
open Go.RowKit Go.Shelf
set_option maxRecDepth 100000

attribute [local go_sem] Oper.semAt_some

/-- one more than the greatest, 0 of none -/
def gN (l : List Nat) : Nat := l.foldl (fun g x => max g (x + 1)) 0
theorem gN_le (l : List Nat) (h : ∀ x ∈ l, x < 65536) : gN l ≤ 65536 := by
  have : ∀ (l : List Nat) (g : Nat), g ≤ 65536 → (∀ x ∈ l, x < 65536) → l.foldl (fun g x => max g (x + 1)) g ≤ 65536 := by
    intro l
    induction l with
    | nil => intro g hg _; exact hg
    | cons a l ih => intro g hg ha; exact ih _ (by show max g (a + 1) ≤ 65536; have := ha a (by simp); omega) fun x hx => ha x (by simp [hx])
  exact this l 0 (by omega) h
theorem gN_snoc (l : List Nat) (x : Nat) : gN (l ++ [x]) = max (gN l) (x + 1) := by simp [gN]

theorem alw_lt (zs : List Int) : ∀ x ∈ alw zs, x < 65536 := fun x hx => by
  unfold alw at hx
  obtain ⟨z, _, hz⟩ := List.mem_filterMap.1 hx
  unfold okN at hz
  split at hz
  · injection hz with hz; omega
  · cases hz
theorem gN_ge (l : List Nat) : ∀ x ∈ l, x < gN l := by
  have : ∀ (l : List Nat) (g : Nat), g ≤ l.foldl (fun g x => max g (x + 1)) g ∧ ∀ x ∈ l, x < l.foldl (fun g x => max g (x + 1)) g := by
    intro l
    induction l with
    | nil => intro g; exact ⟨Nat.le_refl _, fun x hx => by cases hx⟩
    | cons a l ih =>
      intro g
      have h := ih (max g (a + 1))
      refine ⟨Nat.le_trans (by omega) h.1, fun x hx => ?_⟩
      rcases List.mem_cons.1 hx with rfl | hx
      · exact Nat.lt_of_lt_of_le (by omega) h.1
      · exact h.2 x hx
  exact (this l 0).2
theorem alw_mem (zs : List Int) (k : Nat) (hk : k < zs.length) (h1 : 0 ≤ zd zs k) (h2 : zd zs k ≤ 65535) : (zd zs k).toNat ∈ alw zs := by
  unfold alw
  refine List.mem_filterMap.2 ⟨zd zs k, ?_, by unfold okN; rw [if_pos ⟨h1, h2⟩]⟩
  unfold zd
  simp [List.getD, hk]
theorem gN_zd (zs : List Int) (k : Nat) (hk : k < zs.length) (h1 : 0 ≤ zd zs k) (h2 : zd zs k ≤ 65535) : zd zs k < (gN (alw zs) : Int) := by
  have := gN_ge (alw zs) _ (alw_mem zs k hk h1 h2)
  omega
def pw (x : Nat) : Nat := 2 ^ (x % 64)
/-- word k when the numbers of l are in -/
def setB (l : List Nat) (k : Nat) : Nat := l.foldl (fun a x => if k = x / 64 then orN a (pw x) else a) 0
theorem setB_snoc (l : List Nat) (x k : Nat) : setB (l ++ [x]) k = if k = x / 64 then orN (setB l k) (pw x) else setB l k := by simp [setB]
theorem pw_lt (x : Nat) : pw x < 18446744073709551616 := by
  have h : 2 ^ (x % 64) ≤ 2 ^ 63 := Nat.pow_le_pow_right (by omega) (by omega)
  unfold pw; omega
theorem setB_lt (l : List Nat) (k : Nat) : setB l k < 18446744073709551616 := by
  have : ∀ (l : List Nat) (a : Nat), a < 18446744073709551616 → l.foldl (fun a x => if k = x / 64 then orN a (pw x) else a) a < 18446744073709551616 := by
    intro l
    induction l with
    | nil => intro a ha; exact ha
    | cons b l ih =>
      intro a ha
      refine ih _ ?_
      show (if k = b / 64 then orN a (pw b) else a) < _
      split
      · exact orN_lt _ _ ha (pw_lt b)
      · exact ha
  exact this l 0 (by omega)
theorem ixs (x m : Nat) (h : x / 64 < m) (hx : x < 1048576) : (x : Int) / 64 < (m : Int) ∧ 0 ≤ (x : Int) / 64 ∧ (x : Int).tdiv 64 = (x : Int) / 64 ∧ IntKind.i64.wrap ((x : Int) / 64) = (x : Int) / 64 ∧ wrap64 ((x : Int) / 64) = (x : Int) / 64 ∧ (x : Int).tmod 64 = (x : Int) % 64 ∧
    ((x : Int) / 64).toNat = x / 64 ∧ ((x : Int) % 64).toNat = x % 64 ∧ 0 ≤ (x : Int) % 64 ∧ decide ((x : Int) % 64 < 0) = false :=
  ⟨by omega, by omega, by rw [Int.tdiv_eq_ediv_of_nonneg (by omega)], by rw [IntKind.wrap_i64]; omega, by unfold wrap64; omega, by rw [Int.tmod_eq_emod_of_nonneg (by omega)], by omega, by omega, by omega, by simp; omega⟩
/-- the whole set of m words -/
def ofL (l : List Nat) (m : Nat) : List Nat := (List.range m).map (setB l)
theorem ofL_len (l : List Nat) (m : Nat) : (ofL l m).length = m := by simp [ofL]
theorem ofL_nil (m : Nat) : uVals (ofL [] m) = (madeCells #[.int .u64 0] m).toList := by
  apply List.ext_getElem?
  intro i
  by_cases hi : i < m
  · rw [uVals_at _ _ (by rw [ofL_len]; exact hi)]
    unfold ofL
    rw [wd_map, if_pos hi]
    simp [setB, madeCells, hi, Nat.mod_one]
  · rw [List.getElem?_eq_none (by rw [uVals_len, ofL_len]; omega), List.getElem?_eq_none (by simp [madeCells]; omega)]
theorem ofL_snoc (l : List Nat) (x m : Nat) : (uVals (ofL l m)).set (x / 64) (.int .u64 (orN (setB l (x / 64)) (pw x) : Int)) = uVals (ofL (l ++ [x]) m) := by
  rw [show (uVals (ofL l m)).set (x / 64) (.int .u64 (orN (setB l (x / 64)) (pw x) : Int)) = uVals ((ofL l m).set (x / 64) (orN (setB l (x / 64)) (pw x))) by unfold uVals; rw [List.map_set]]
  congr 1
  apply List.ext_getElem (by simp [ofL])
  intro i h1 h2
  have hi : i < m := by simpa [ofL] using h2
  by_cases e : i = x / 64
  · subst e; simp [ofL, setB_snoc]
  · simp [ofL, setB_snoc, e, List.getElem_set_ne (Ne.symm e)]
theorem or_pw (a x : Nat) (ha : a < 18446744073709551616) : bits .or .u64 (a : Int) (IntKind.u64.wrap (2 ^ (x % 64))) = (orN a (pw x) : Int) := by
  have e : IntKind.u64.wrap ((2 : Int) ^ (x % 64)) = (pw x : Int) := by
    have h := pw_lt x
    have e : ((2 : Int) ^ (x % 64)) = ((pw x : Nat) : Int) := by simp [pw]
    rw [e, IntKind.wrap_u64]; omega
  rw [e]
  exact u64_or_nat a (pw x) ha (pw_lt x)

theorem of_step {w X X' : World} {Bb b D m : Nat} {o : Obj} (pre : List Nat) (y : Nat) (hb : w.heap.size ≤ b) (hne : Bb ≠ b) (hDb : D ≠ b) (hV : Boxed X Bb 49 (.slice (some ⟨b, 0, none⟩) m m))
    (hrow : X.ownsRow w.heap.size 54 1 (.slice (some ⟨b, 0, none⟩) m m) m (uVals (ofL pre m))) (hB : Below w.heap.size w X) (hD : X.heap[D]? = some o)
    (hX : X' = (X.setCell ⟨b, y / 64, none⟩ (.int .u64 (orN (setB pre (y / 64)) (pw y) : Int))).drew) :
    KeepsOthers X X' ∧ Below w.heap.size X X' ∧ (∃ v, Boxed X' Bb 49 v ∧ X'.ownsRow w.heap.size 54 1 v m (uVals (ofL (pre ++ [y]) m)) ∧ v = .slice (some ⟨b, 0, none⟩) m m) ∧ Below w.heap.size w X' ∧ X'.heap[D]? = some o := by
  subst hX
  have hr := (hrow.stored (y / 64) (.int .u64 (orN (setB pre (y / 64)) (pw y) : Int))).1
  rw [ofL_snoc] at hr
  refine ⟨(KeepsOthers.setCell _ _ _).trans (KeepsOthers.drew _), ((Below.refl _ X).setCell (p := ⟨b, y / 64, none⟩) hb _).drew, ⟨_, ?_, hr.drew, rfl⟩, (hB.setCell (p := ⟨b, y / 64, none⟩) hb _).drew, ?_⟩
  · show (X.setCell _ _).heap[Bb]? = _
    rw [Below.heap_setCell _ _ _ _ hne]
    exact hV
  · show (X.setCell _ _).heap[D]? = _
    rw [Below.heap_setCell _ _ _ _ hDb]
    exact hD
/-- the answer of bitset.Of -/
def ofS (zs : List Int) : List Nat := ofL (alw zs) ((gN (alw zs) + 63) / 64)

set_option maxRecDepth 100000 in
set_option maxHeartbeats 2000000 in
theorem of_in (F : Fence) (n : Nat) (h9 : F.fn 71) (h21 : F.fn 105) (h33 : F.fn 118) (hro : F.round = none) (hn : 3 ≤ n) (A : Option Addr) (c : Nat) (zs : List Int) (w : World) (hx : RdI w w.heap.size A zs) :
    CallsIn F n Tryd.prog 71 #[.slice A zs.length c] w fun e w' => ∃ v, e = .returned v ∧ w'.ownsRow w.heap.size 54 1 v (ofS zs).length (uVals (ofS zs)) ∧ Below w.heap.size w w' := by
  have h1 : 1 ≤ n := by omega
  have hroom := hx.room
  obtain ⟨i0, hi, hz0, hz1, hz2⟩ := info_parts Tryd.infoU64
  refine callsIn_of_wp_marks Tryd.func71 rfl h9 ?_ hro
  simp only [Tryd.ntmps71, List.size_toArray, List.length_cons, List.length_nil, Nat.reduceAdd, Nat.reduceSub, Array.replicate_succ, Array.replicate_zero, List.push_toArray, List.append_toArray, List.nil_append, List.cons_append]
  gi_wp2_with (gi_at_call 105; refine (allowed_in F (n - 1) h21 hro _ _ _ _).mono ?_; rintro e w' ⟨rfl, rfl⟩)
  have bG := Boxed.new w 3 (.int .i64 (-1))
  have bL := Boxed.new (w.alloc (.cells #[.int .i64 (-1)] 3)) 25 (.slice A zs.length c)
  rw [World.size_alloc] at bL
  have hB0 : Below w.heap.size w ((w.alloc (.cells #[.int .i64 (-1)] 3)).alloc (.cells #[.slice A zs.length c] 25)) := ((Below.refl _ w).alloc (Nat.le_refl _) _).alloc (by simp) _
  refine wpIn_rangeFunc_ownF hro h1 (gf := 118) (lb := #[.pointer (some ⟨w.heap.size + 1, 0, none⟩)]) rfl h33 (enters_of Tryd.func118 (by kernel_rfl) rfl)
    (allowed_stops F (n - 1) h33 hro (by omega) (w.heap.size + 1) w.heap.size c A zs 65536 (fun k _ _ h => by omega) _ (by simp) (by simp; omega) bL.cell (hx.below hB0)) belowK_t (belowK_b (by simp; omega)) (Below.refl _ _) (fun _ => rfl)
    (fun pre W => Boxed W w.heap.size 3 (.int .i64 ((gN (vals pre) : Int) - 1)) ∧ Below w.heap.size w W)
    (fun _ _ _ => False)
    (OwnFrom.and (Own.from (boxed_own _ _ _) _) (ownFrom_below (Nat.le_refl _) (by simp; omega)))
    (fun _ _ _ _ _ hs _ _ => hs)
    ⟨bG.alloc _, hB0⟩
    (fun x => { tmps := #[.slice A zs.length c, undef, .slice none 0 0, .pointer (some ⟨w.heap.size, 0, none⟩), .int .i64 (x.1 : Int), undef, undef, .slice A zs.length c, .func (.func 118) #[] #[.pointer (some ⟨w.heap.size + 1, 0, none⟩)], .int .i64 (x.1 : Int), undef, undef, undef, undef, undef, undef, undef, undef, undef, undef, undef, undef, undef, undef, undef, undef, undef, undef, undef, undef, undef], defers := [] }) ?assign1 ?body1 ?done1 ?stop1
  case assign1 =>
    intro l x W K hK
    gi_wp2
    exact hK
  case body1 =>
    rintro l pre x W ⟨hG, hB⟩ _
    have hc := hG.cell
    have hf := hG.frozen
    have hxl := x.2
    gi_wp2
    all_goals
      have e : (gN (vals (pre ++ [x])) : Int) - 1 = max ((gN (vals pre) : Int) - 1) (x.1 : Int) := by rw [vals_snoc, gN_snoc]; omega
      refine ⟨KeepsOthers.setCell _ _ _, (Below.refl _ W).setCell (p := ⟨w.heap.size, 0, none⟩) (Nat.le_refl _) _, ?_, hB.setCell (p := ⟨w.heap.size, 0, none⟩) (Nat.le_refl _) _⟩
      show Boxed _ _ _ (.int .i64 ((gN (vals (pre ++ [x])) : Int) - 1))
      rw [e]
      first
        | (rw [Int.max_eq_right (by omega)]; exact hG.set _)
        | (rw [Int.max_eq_left (by omega)]; exact hG.set _)
  case done1 =>
    rintro D ys W hD hys ⟨hG, hB⟩ hK
    have hc := hG.cell
    have hgl := gN_le (vals ys) (fun x hx => by unfold vals at hx; obtain ⟨y, _, rfl⟩ := List.mem_map.1 hx; exact y.2)
    rw [hys] at hc hgl
    obtain ⟨g, hg⟩ : ∃ g, g = gN (alw zs) := ⟨_, rfl⟩
    rw [← hg] at hc hgl
    have HGN := Lib.hid hg
    have HDge := Lib.hid hD
    clear hg hys hG
    obtain ⟨m, hm⟩ : ∃ m, m = (g + 63) / 64 := ⟨_, rfl⟩
    have hml : m ≤ 1024 := by omega
    have hgl2 : g ≤ 65536 := hgl
    have em : ((g : Int) - 1 + 64) / 64 = (m : Int) := by omega
    have HM := Lib.hid hm
    clear hm
    have hmk : ∀ u : World, (Instr.makeSlice 49 (.int .i64 (m : Int)) (.int .i64 (m : Int))).run Tryd.prog u = .ok (.slice (some ⟨u.heap.size, 0, none⟩) m m) (u.alloc (.cells (madeCells #[.int .u64 0] m) 54)) := fun u => by
      have h := run_make (P := Tryd.prog) u 49 54 i0 (.int .u64 0) Tryd.underlying49 hi hz0 .i64 .i64 (m : Int) (m : Int) (by omega) (Int.le_refl _) (by rw [hz2]; omega) (by omega)
      simpa [hz1, Value.cells] using h
    have hBs := hB.size
    gi_wp2_with (gi_at_call 105; refine (allowed_in F (n - 1) h21 hro _ _ _ _).mono ?_; rintro e w' ⟨rfl, rfl⟩)
    have hrow0 : (W.alloc (.cells (madeCells #[.int .u64 0] m) 54)).ownsRow w.heap.size 54 1 (.slice (some ⟨W.heap.size, 0, none⟩) m m) m (uVals (ofL [] m)) := by
      obtain ⟨w', hrun, r1, _⟩ := run_make_full (P := Tryd.prog) W w.heap.size 49 54 i0 (.int .u64 0) 1 Tryd.underlying49 hi hz0 hz1 .i64 .i64 m (by rw [hz2]; omega) (by unfold maxLen; omega) hBs
      rw [hmk W] at hrun
      injection hrun with _ hw
      rw [hw, ofL_nil]
      simpa [Value.cells] using r1
    have bV := Boxed.new (W.alloc (.cells (madeCells #[.int .u64 0] m) 54)) 49 (.slice (some ⟨W.heap.size, 0, none⟩) m m)
    have bN := Boxed.new ((W.alloc (.cells (madeCells #[.int .u64 0] m) 54)).alloc (.cells #[.slice (some ⟨W.heap.size, 0, none⟩) m m] 49)) 25 (.slice A zs.length c)
    simp only [World.size_alloc] at bV bN
    have hB2 : Below w.heap.size w (((W.alloc (.cells (madeCells #[.int .u64 0] m) 54)).alloc (.cells #[.slice (some ⟨W.heap.size, 0, none⟩) m m] 49)).alloc (.cells #[.slice A zs.length c] 25)) :=
      ((hB.alloc hBs _).alloc (by simp; omega) _).alloc (by simp; omega) _
    have hDlt : D < W.heap.size := (Array.getElem?_eq_some_iff.1 hK).1
    have hgz : ∀ k, k < zs.length → 0 ≤ zd zs k → zd zs k ≤ 65535 → zd zs k < (g : Int) := fun k hk h1 h2 => by rw [HGN.out]; exact gN_zd zs k hk h1 h2
    refine wpIn_rangeFunc_ownF hro h1 (gf := 118) (lb := #[.pointer (some ⟨W.heap.size + 1 + 1, 0, none⟩)]) rfl h33 (enters_of Tryd.func118 (by kernel_rfl) rfl)
      (allowed_stops F (n - 1) h33 hro (by omega) (W.heap.size + 1 + 1) w.heap.size c A zs g hgz _ (by simp) (by simp; omega) bN.cell (hx.below hB2)) belowK_t (belowK_b (by simp; omega)) (Below.refl _ _) (fun _ => rfl)
      (fun pre X => (∃ v, Boxed X (W.heap.size + 1) 49 v ∧ X.ownsRow w.heap.size 54 1 v m (uVals (ofL (vals pre) m)) ∧ v = .slice (some ⟨W.heap.size, 0, none⟩) m m) ∧ (Below w.heap.size w X ∧ X.heap[D]? = some (.deferred (some []))))
      (fun _ _ _ => False)
      (OwnFrom.and (Own.from (holdsRow_own w.heap.size (W.heap.size + 1) 49 54 1 (fun _ => m) (fun pre => uVals (ofL (vals pre) m)) (fun _ v => v = .slice (some ⟨W.heap.size, 0, none⟩) m m)) _) (OwnFrom.and (ownFrom_below (Nat.le_refl _) (by simp; omega)) (fun s X Y row hs hg hr => (hg.block D (Array.getElem?_eq_some_iff.1 hs).1 (fun e => by have := (hr D e.symm).1; simp at this; omega)).trans hs)))
      (fun _ _ _ _ _ hs _ _ => hs)
      ⟨⟨_, bV.alloc _, (hrow0.alloc _).alloc _, rfl⟩, hB2, (Below.heap_alloc _ _ _ (by simp; omega)).trans ((Below.heap_alloc _ _ _ (by simp; omega)).trans ((Below.heap_alloc _ _ _ hDlt).trans hK))⟩
      (fun x => { tmps := #[.slice A zs.length c, undef, .slice none 0 0, .pointer (some ⟨w.heap.size, 0, none⟩), undef, .pointer (some ⟨W.heap.size + 1, 0, none⟩), .int .i64 (x.1 : Int), .slice A zs.length c, .func (.func 118) #[] #[.pointer (some ⟨w.heap.size + 1, 0, none⟩)], undef, undef, undef, undef, .int .i64 ((g : Int) - 1), .int .i64 ((g : Int) - 1 + 64), .int .i64 (m : Int), .slice (some ⟨W.heap.size, 0, none⟩) m m, .slice A zs.length c, .func (.func 118) #[] #[.pointer (some ⟨W.heap.size + 1 + 1, 0, none⟩)], .int .i64 (x.1 : Int), undef, undef, undef, undef, undef, undef, undef, undef, undef, undef, undef], defers := [] }) ?assign2 ?body2 ?done2 ?stop2
    case assign2 =>
      intro l x W K hK
      gi_wp2
      exact hK
    case body2 =>
      rintro l pre x X ⟨⟨v, hV, hrow, rfl⟩, hBX, hD2⟩ _
      have hc2 := hV.cell
      have hxm : x.1 / 64 < m := by have := x.2; have := HM.out; omega
      have hcell : X.cell? ⟨W.heap.size, x.1 / 64, none⟩ = some (.int .u64 (setB (vals pre) (x.1 / 64) : Int)) := by
        rw [hrow.cellAt (x.1 / 64) (by omega), uVals_at _ _ (by rw [ofL_len]; exact hxm)]
        unfold ofL
        rw [wd_map, if_pos hxm]
      have hfz : X.frozen? ⟨W.heap.size, x.1 / 64, none⟩ = false := hrow.frozenAt _
      have hxl := x.2
      have hor := or_pw (setB (vals pre) (x.1 / 64)) x.1 (setB_lt _ _)
      have hlt16 : x.1 < 65536 := by omega
      have hmo : Tryd.prog.follows .mixedOrders = true := by kernel_rfl
      have HF := Lib.hid (of_step (vals pre) x.1 hBs (by omega) (by omega) hV hrow hBX hD2 rfl)
      rw [← vals_snoc] at HF
      clear hV hrow hBX hD2 bG bL hB0 bV bN hB2 hrow0 hmk hgz hc em hK hD hB hx hgl hgl2 hxl hroom hi hz0 hz1 hz2 hBs hDlt
      have Hx : Hid (∃ y : Nat, y = x.1) := Lib.hid ⟨_, rfl⟩
      obtain ⟨y, hy⟩ := Hx.out
      clear Hx
      have Hy := Lib.hid hy
      rw [← hy] at hxm hcell hfz hor hlt16 HF
      rw [← hy]
      clear hy
      obtain ⟨k, r, hk, hr⟩ : ∃ k r : Nat, k = y / 64 ∧ r = y % 64 := ⟨_, _, rfl, rfl⟩
      have e1 : IntKind.i64.wrap ((y : Int) / 64) = (k : Int) := by rw [IntKind.wrap_i64]; omega
      have e2 : (y : Int).tmod 64 = (r : Int) := by rw [Int.tmod_eq_emod_of_nonneg (by omega)]; omega
      have hr64 : r < 64 := by omega
      have Hk := Lib.hid hk
      have Hr := Lib.hid hr
      rw [← hk] at hxm hcell hfz hor HF
      rw [← hr] at hor
      clear hk hr
      gi_wp2
      gi_region_with_o (fail)
      all_goals
        gi_wp2
        exact HF.out
    case done2 =>
      rintro D2 ys X hD2 hys ⟨⟨v, hV, hrow, rfl⟩, hBX, hDX⟩ hK2
      have hc2 := hV.cell
      clear bG bL hB0 hB2 bV bN hrow0 hmk hgz hc em hx hD hB hK
      gi_wp2
      have hne1 : D ≠ D2 := by simp at hD2; omega
      refine ⟨by simp, .inl ⟨_, _, rfl, run_takeDeferred hK2, ?_⟩⟩
      refine ⟨by simp, .inl ⟨_, _, rfl, run_takeDeferred ((World.putObj_heap_other hne1).trans hDX), ?_⟩⟩
      refine ⟨_, results_tmp rfl _ _ _, _, rfl, ?_⟩
      have hD2g : W.heap.size < D2 := by simp at hD2; omega
      have g1 := grownBy_putObj' X D2 (.deferred none)
      have g2 := grownBy_putObj' (X.putObj D2 (.deferred none)) D (.deferred none)
      have r2 := (hrow.kept g1 (.inr (by simp [Value.ownBlock]; omega))).kept g2 (.inr (by simp [Value.ownBlock]; omega))
      have hXs := hBX.size
      have hDge : w.heap.size ≤ D := by have := HDge.out; simp at this; omega
      have b2 := (hBX.grown g1 (by omega) (fun k e => by cases e; omega)).grown g2 (by simp; omega) (fun k e => by cases e; omega)
      refine ⟨?_, b2⟩
      have e2 : (ofS zs).length = m := by unfold ofS; rw [ofL_len, ← HGN.out, ← HM.out]
      rw [e2]
      rw [hys, show ofL (alw zs) m = ofS zs by unfold ofS; rw [← HGN.out, ← HM.out]] at r2
      exact r2
    case stop2 =>
      rintro D c pre W _ _ h _
      exact h.elim
  case stop1 =>
    rintro D c pre W _ _ h _
    exact h.elim
end Go.Proofs.YtaboafkpmgadmaaDoor
