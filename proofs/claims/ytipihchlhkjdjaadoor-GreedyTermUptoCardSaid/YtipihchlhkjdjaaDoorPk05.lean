/-
  bitset.Of answers the set of the list's numbers between 0 and 65535, for every list of ints.
  alive1 answers true, where the library's table holds its own numbers.
  Contract of graph.successors: for every graph in range, the set of the successors of each node.
  The iterator graph.edges: the edges from each node to those of its set, sorted, for every loop body that owns what it writes.
-/
import Derived.Test.YtipihchlhkjdjaaDoorPk04
import Derived.Maps.AppendAt
import Derived.RangeFuncNested
import Derived.Test.YtipihchlhkjdjaaDoorPk02
import Derived.Deep.RegionHeld3
import Derived.Deep.RegionLaw
import Derived.Deep.AppendLies
import Derived.Deep.DrawnRows
namespace Go.Proofs.YtipihchlhkjdjaaDoor
open Go.RowKit Go.Shelf
set_option maxRecDepth 100000

attribute [local go_sem] Oper.semAt_some

/-- one more than the greatest, 0 of none -/
def gN (l : List Nat) : Nat := l.foldl (fun g x => max g (x + 1)) 0
theorem gN_le (l : List Nat) (h : ∀ x ∈ l, x < 65536) : gN l ≤ 65536 := by
  have : ∀ (l : List Nat) (g : Nat), g ≤ 65536 → (∀ x ∈ l, x < 65536) → l.foldl (fun g x => max g (x + 1)) g ≤ 65536 := by
    intro l
    induction l with
    | nil => intro g hg _; exact hg
    | cons a l ih => intro g hg ha; exact ih _ (by show max g (a + 1) ≤ 65536; have := ha a (by simp); omega) fun x hx => ha x (by simp [hx])
  exact this l 0 (by omega) h
theorem gN_snoc (l : List Nat) (x : Nat) : gN (l ++ [x]) = max (gN l) (x + 1) := by simp [gN]

theorem alw_lt (zs : List Int) : ∀ x ∈ alw zs, x < 65536 := fun x hx => by
  unfold alw at hx
  obtain ⟨z, _, hz⟩ := List.mem_filterMap.1 hx
  unfold okN at hz
  split at hz
  · injection hz with hz; omega
  · cases hz
theorem gN_ge (l : List Nat) : ∀ x ∈ l, x < gN l := by
  have : ∀ (l : List Nat) (g : Nat), g ≤ l.foldl (fun g x => max g (x + 1)) g ∧ ∀ x ∈ l, x < l.foldl (fun g x => max g (x + 1)) g := by
    intro l
    induction l with
    | nil => intro g; exact ⟨Nat.le_refl _, fun x hx => by cases hx⟩
    | cons a l ih =>
      intro g
      have h := ih (max g (a + 1))
      refine ⟨Nat.le_trans (by omega) h.1, fun x hx => ?_⟩
      rcases List.mem_cons.1 hx with rfl | hx
      · exact Nat.lt_of_lt_of_le (by omega) h.1
      · exact h.2 x hx
  exact (this l 0).2
theorem alw_mem (zs : List Int) (k : Nat) (hk : k < zs.length) (h1 : 0 ≤ zd zs k) (h2 : zd zs k ≤ 65535) : (zd zs k).toNat ∈ alw zs := by
  unfold alw
  refine List.mem_filterMap.2 ⟨zd zs k, ?_, by unfold okN; rw [if_pos ⟨h1, h2⟩]⟩
  unfold zd
  simp [List.getD, hk]
theorem gN_zd (zs : List Int) (k : Nat) (hk : k < zs.length) (h1 : 0 ≤ zd zs k) (h2 : zd zs k ≤ 65535) : zd zs k < (gN (alw zs) : Int) := by
  have := gN_ge (alw zs) _ (alw_mem zs k hk h1 h2)
  omega
def pw (x : Nat) : Nat := 2 ^ (x % 64)
/-- word k when the numbers of l are in -/
def setB (l : List Nat) (k : Nat) : Nat := l.foldl (fun a x => if k = x / 64 then orN a (pw x) else a) 0
theorem setB_snoc (l : List Nat) (x k : Nat) : setB (l ++ [x]) k = if k = x / 64 then orN (setB l k) (pw x) else setB l k := by simp [setB]
theorem pw_lt (x : Nat) : pw x < 18446744073709551616 := by
  have h : 2 ^ (x % 64) ≤ 2 ^ 63 := Nat.pow_le_pow_right (by omega) (by omega)
  unfold pw; omega
theorem setB_lt (l : List Nat) (k : Nat) : setB l k < 18446744073709551616 := by
  have : ∀ (l : List Nat) (a : Nat), a < 18446744073709551616 → l.foldl (fun a x => if k = x / 64 then orN a (pw x) else a) a < 18446744073709551616 := by
    intro l
    induction l with
    | nil => intro a ha; exact ha
    | cons b l ih =>
      intro a ha
      refine ih _ ?_
      show (if k = b / 64 then orN a (pw b) else a) < _
      split
      · exact orN_lt _ _ ha (pw_lt b)
      · exact ha
  exact this l 0 (by omega)
theorem ixs (x m : Nat) (h : x / 64 < m) (hx : x < 1048576) : (x : Int) / 64 < (m : Int) ∧ 0 ≤ (x : Int) / 64 ∧ (x : Int).tdiv 64 = (x : Int) / 64 ∧ IntKind.i64.wrap ((x : Int) / 64) = (x : Int) / 64 ∧ wrap64 ((x : Int) / 64) = (x : Int) / 64 ∧ (x : Int).tmod 64 = (x : Int) % 64 ∧
    ((x : Int) / 64).toNat = x / 64 ∧ ((x : Int) % 64).toNat = x % 64 ∧ 0 ≤ (x : Int) % 64 ∧ decide ((x : Int) % 64 < 0) = false :=
  ⟨by omega, by omega, by rw [Int.tdiv_eq_ediv_of_nonneg (by omega)], by rw [IntKind.wrap_i64]; omega, by unfold wrap64; omega, by rw [Int.tmod_eq_emod_of_nonneg (by omega)], by omega, by omega, by omega, by simp; omega⟩
/-- the whole set of m words -/
def ofL (l : List Nat) (m : Nat) : List Nat := (List.range m).map (setB l)
theorem ofL_len (l : List Nat) (m : Nat) : (ofL l m).length = m := by simp [ofL]
theorem ofL_nil (m : Nat) : uVals (ofL [] m) = (madeCells #[.int .u64 0] m).toList := by
  apply List.ext_getElem?
  intro i
  by_cases hi : i < m
  · rw [uVals_at _ _ (by rw [ofL_len]; exact hi)]
    unfold ofL
    rw [wd_map, if_pos hi]
    simp [setB, madeCells, hi, Nat.mod_one]
  · rw [List.getElem?_eq_none (by rw [uVals_len, ofL_len]; omega), List.getElem?_eq_none (by simp [madeCells]; omega)]
theorem ofL_snoc (l : List Nat) (x m : Nat) : (uVals (ofL l m)).set (x / 64) (.int .u64 (orN (setB l (x / 64)) (pw x) : Int)) = uVals (ofL (l ++ [x]) m) := by
  rw [show (uVals (ofL l m)).set (x / 64) (.int .u64 (orN (setB l (x / 64)) (pw x) : Int)) = uVals ((ofL l m).set (x / 64) (orN (setB l (x / 64)) (pw x))) by unfold uVals; rw [List.map_set]]
  congr 1
  apply List.ext_getElem (by simp [ofL])
  intro i h1 h2
  have hi : i < m := by simpa [ofL] using h2
  by_cases e : i = x / 64
  · subst e; simp [ofL, setB_snoc]
  · simp [ofL, setB_snoc, e, List.getElem_set_ne (Ne.symm e)]
theorem or_pw (a x : Nat) (ha : a < 18446744073709551616) : bits .or .u64 (a : Int) (IntKind.u64.wrap (2 ^ (x % 64))) = (orN a (pw x) : Int) := by
  have e : IntKind.u64.wrap ((2 : Int) ^ (x % 64)) = (pw x : Int) := by
    have h := pw_lt x
    have e : ((2 : Int) ^ (x % 64)) = ((pw x : Nat) : Int) := by simp [pw]
    rw [e, IntKind.wrap_u64]; omega
  rw [e]
  exact u64_or_nat a (pw x) ha (pw_lt x)

theorem of_step {w X X' : World} {Bb b D m : Nat} {o : Obj} (pre : List Nat) (y : Nat) (hb : w.heap.size ≤ b) (hne : Bb ≠ b) (hDb : D ≠ b) (hV : Boxed X Bb 102 (.slice (some ⟨b, 0, none⟩) m m))
    (hrow : X.ownsRow w.heap.size 125 1 (.slice (some ⟨b, 0, none⟩) m m) m (uVals (ofL pre m))) (hB : Below w.heap.size w X) (hD : X.heap[D]? = some o)
    (hX : X' = (X.setCell ⟨b, y / 64, none⟩ (.int .u64 (orN (setB pre (y / 64)) (pw y) : Int))).drew) :
    KeepsOthers X X' ∧ Below w.heap.size X X' ∧ (∃ v, Boxed X' Bb 102 v ∧ X'.ownsRow w.heap.size 125 1 v m (uVals (ofL (pre ++ [y]) m)) ∧ v = .slice (some ⟨b, 0, none⟩) m m) ∧ Below w.heap.size w X' ∧ X'.heap[D]? = some o := by
  subst hX
  have hr := (hrow.stored (y / 64) (.int .u64 (orN (setB pre (y / 64)) (pw y) : Int))).1
  rw [ofL_snoc] at hr
  refine ⟨(KeepsOthers.setCell _ _ _).trans (KeepsOthers.drew _), ((Below.refl _ X).setCell (p := ⟨b, y / 64, none⟩) hb _).drew, ⟨_, ?_, hr.drew, rfl⟩, (hB.setCell (p := ⟨b, y / 64, none⟩) hb _).drew, ?_⟩
  · show (X.setCell _ _).heap[Bb]? = _
    rw [Below.heap_setCell _ _ _ _ hne]
    exact hV
  · show (X.setCell _ _).heap[D]? = _
    rw [Below.heap_setCell _ _ _ _ hDb]
    exact hD
/-- the answer of bitset.Of -/
def ofS (zs : List Int) : List Nat := ofL (alw zs) ((gN (alw zs) + 63) / 64)

set_option maxRecDepth 100000 in
set_option maxHeartbeats 2000000 in
theorem of_in (F : Fence) (n : Nat) (h9 : F.fn 53) (h21 : F.fn 65) (h33 : F.fn 78) (hro : F.round = none) (hn : 3 ≤ n) (A : Option Addr) (c : Nat) (zs : List Int) (w : World) (hx : RdI w w.heap.size A zs) :
    CallsIn F n Tryd.prog 53 #[.slice A zs.length c] w fun e w' => ∃ v, e = .returned v ∧ w'.ownsRow w.heap.size 125 1 v (ofS zs).length (uVals (ofS zs)) ∧ Below w.heap.size w w' := by
  have h1 : 1 ≤ n := by omega
  have hroom := hx.room
  obtain ⟨i0, hi, hz0, hz1, hz2⟩ := info_parts Tryd.infoU64
  refine callsIn_of_wp_marks Tryd.func53 rfl h9 ?_ hro
  simp only [Tryd.ntmps53, List.size_toArray, List.length_cons, List.length_nil, Nat.reduceAdd, Nat.reduceSub, Array.replicate_succ, Array.replicate_zero, List.push_toArray, List.append_toArray, List.nil_append, List.cons_append]
  gi_wp2_with (gi_at_call 65; refine (allowed_in F (n - 1) h21 hro _ _ _ _).mono ?_; rintro e w' ⟨rfl, rfl⟩)
  have bG := Boxed.new w 3 (.int .i64 (-1))
  have bL := Boxed.new (w.alloc (.cells #[.int .i64 (-1)] 3)) 34 (.slice A zs.length c)
  rw [World.size_alloc] at bL
  have hB0 : Below w.heap.size w ((w.alloc (.cells #[.int .i64 (-1)] 3)).alloc (.cells #[.slice A zs.length c] 34)) := ((Below.refl _ w).alloc (Nat.le_refl _) _).alloc (by simp) _
  refine wpIn_rangeFunc_ownF hro h1 (gf := 78) (lb := #[.pointer (some ⟨w.heap.size + 1, 0, none⟩)]) rfl h33 (enters_of Tryd.func78 (by kernel_rfl) rfl)
    (allowed_stops F (n - 1) h33 hro (by omega) (w.heap.size + 1) w.heap.size c A zs 65536 (fun k _ _ h => by omega) _ (by simp) (by simp; omega) bL.cell (hx.below hB0)) belowK_t (belowK_b (by simp; omega)) (Below.refl _ _) (fun _ => rfl)
    (fun pre W => Boxed W w.heap.size 3 (.int .i64 ((gN (vals pre) : Int) - 1)) ∧ Below w.heap.size w W)
    (fun _ _ _ => False)
    (OwnFrom.and (Own.from (boxed_own _ _ _) _) (ownFrom_below (Nat.le_refl _) (by simp; omega)))
    (fun _ _ _ _ _ hs _ _ => hs)
    ⟨bG.alloc _, hB0⟩
    (fun x => { tmps := #[.slice A zs.length c, undef, .slice none 0 0, .pointer (some ⟨w.heap.size, 0, none⟩), .int .i64 (x.1 : Int), undef, undef, .slice A zs.length c, .func (.func 78) #[] #[.pointer (some ⟨w.heap.size + 1, 0, none⟩)], .int .i64 (x.1 : Int), undef, undef, undef, undef, undef, undef, undef, undef, undef, undef, undef, undef, undef, undef, undef, undef, undef, undef, undef, undef, undef], defers := [] }) ?assign1 ?body1 ?done1 ?stop1
  case assign1 =>
    intro l x W K hK
    gi_wp2
    exact hK
  case body1 =>
    rintro l pre x W ⟨hG, hB⟩ _
    have hc := hG.cell
    have hf := hG.frozen
    have hxl := x.2
    gi_wp2
    all_goals
      have e : (gN (vals (pre ++ [x])) : Int) - 1 = max ((gN (vals pre) : Int) - 1) (x.1 : Int) := by rw [vals_snoc, gN_snoc]; omega
      refine ⟨KeepsOthers.setCell _ _ _, (Below.refl _ W).setCell (p := ⟨w.heap.size, 0, none⟩) (Nat.le_refl _) _, ?_, hB.setCell (p := ⟨w.heap.size, 0, none⟩) (Nat.le_refl _) _⟩
      show Boxed _ _ _ (.int .i64 ((gN (vals (pre ++ [x])) : Int) - 1))
      rw [e]
      first
        | (rw [Int.max_eq_right (by omega)]; exact hG.set _)
        | (rw [Int.max_eq_left (by omega)]; exact hG.set _)
  case done1 =>
    rintro D ys W hD hys ⟨hG, hB⟩ hK
    have hc := hG.cell
    have hgl := gN_le (vals ys) (fun x hx => by unfold vals at hx; obtain ⟨y, _, rfl⟩ := List.mem_map.1 hx; exact y.2)
    rw [hys] at hc hgl
    obtain ⟨g, hg⟩ : ∃ g, g = gN (alw zs) := ⟨_, rfl⟩
    rw [← hg] at hc hgl
    have HGN := Lib.hid hg
    have HDge := Lib.hid hD
    clear hg hys hG
    obtain ⟨m, hm⟩ : ∃ m, m = (g + 63) / 64 := ⟨_, rfl⟩
    have hml : m ≤ 1024 := by omega
    have hgl2 : g ≤ 65536 := hgl
    have em : ((g : Int) - 1 + 64) / 64 = (m : Int) := by omega
    have HM := Lib.hid hm
    clear hm
    have hmk : ∀ u : World, (Instr.makeSlice 102 (.int .i64 (m : Int)) (.int .i64 (m : Int))).run Tryd.prog u = .ok (.slice (some ⟨u.heap.size, 0, none⟩) m m) (u.alloc (.cells (madeCells #[.int .u64 0] m) 125)) := fun u => by
      have h := run_make (P := Tryd.prog) u 102 125 i0 (.int .u64 0) Tryd.underlying102 hi hz0 .i64 .i64 (m : Int) (m : Int) (by omega) (Int.le_refl _) (by rw [hz2]; omega) (by omega)
      simpa [hz1, Value.cells] using h
    have hBs := hB.size
    gi_wp2_with (gi_at_call 65; refine (allowed_in F (n - 1) h21 hro _ _ _ _).mono ?_; rintro e w' ⟨rfl, rfl⟩)
    have hrow0 : (W.alloc (.cells (madeCells #[.int .u64 0] m) 125)).ownsRow w.heap.size 125 1 (.slice (some ⟨W.heap.size, 0, none⟩) m m) m (uVals (ofL [] m)) := by
      obtain ⟨w', hrun, r1, _⟩ := run_make_full (P := Tryd.prog) W w.heap.size 102 125 i0 (.int .u64 0) 1 Tryd.underlying102 hi hz0 hz1 .i64 .i64 m (by rw [hz2]; omega) (by unfold maxLen; omega) hBs
      rw [hmk W] at hrun
      injection hrun with _ hw
      rw [hw, ofL_nil]
      simpa [Value.cells] using r1
    have bV := Boxed.new (W.alloc (.cells (madeCells #[.int .u64 0] m) 125)) 102 (.slice (some ⟨W.heap.size, 0, none⟩) m m)
    have bN := Boxed.new ((W.alloc (.cells (madeCells #[.int .u64 0] m) 125)).alloc (.cells #[.slice (some ⟨W.heap.size, 0, none⟩) m m] 102)) 34 (.slice A zs.length c)
    simp only [World.size_alloc] at bV bN
    have hB2 : Below w.heap.size w (((W.alloc (.cells (madeCells #[.int .u64 0] m) 125)).alloc (.cells #[.slice (some ⟨W.heap.size, 0, none⟩) m m] 102)).alloc (.cells #[.slice A zs.length c] 34)) :=
      ((hB.alloc hBs _).alloc (by simp; omega) _).alloc (by simp; omega) _
    have hDlt : D < W.heap.size := (Array.getElem?_eq_some_iff.1 hK).1
    have hgz : ∀ k, k < zs.length → 0 ≤ zd zs k → zd zs k ≤ 65535 → zd zs k < (g : Int) := fun k hk h1 h2 => by rw [HGN.out]; exact gN_zd zs k hk h1 h2
    refine wpIn_rangeFunc_ownF hro h1 (gf := 78) (lb := #[.pointer (some ⟨W.heap.size + 1 + 1, 0, none⟩)]) rfl h33 (enters_of Tryd.func78 (by kernel_rfl) rfl)
      (allowed_stops F (n - 1) h33 hro (by omega) (W.heap.size + 1 + 1) w.heap.size c A zs g hgz _ (by simp) (by simp; omega) bN.cell (hx.below hB2)) belowK_t (belowK_b (by simp; omega)) (Below.refl _ _) (fun _ => rfl)
      (fun pre X => (∃ v, Boxed X (W.heap.size + 1) 102 v ∧ X.ownsRow w.heap.size 125 1 v m (uVals (ofL (vals pre) m)) ∧ v = .slice (some ⟨W.heap.size, 0, none⟩) m m) ∧ (Below w.heap.size w X ∧ X.heap[D]? = some (.deferred (some []))))
      (fun _ _ _ => False)
      (OwnFrom.and (Own.from (holdsRow_own w.heap.size (W.heap.size + 1) 102 125 1 (fun _ => m) (fun pre => uVals (ofL (vals pre) m)) (fun _ v => v = .slice (some ⟨W.heap.size, 0, none⟩) m m)) _) (OwnFrom.and (ownFrom_below (Nat.le_refl _) (by simp; omega)) (fun s X Y row hs hg hr => (hg.block D (Array.getElem?_eq_some_iff.1 hs).1 (fun e => by have := (hr D e.symm).1; simp at this; omega)).trans hs)))
      (fun _ _ _ _ _ hs _ _ => hs)
      ⟨⟨_, bV.alloc _, (hrow0.alloc _).alloc _, rfl⟩, hB2, (Below.heap_alloc _ _ _ (by simp; omega)).trans ((Below.heap_alloc _ _ _ (by simp; omega)).trans ((Below.heap_alloc _ _ _ hDlt).trans hK))⟩
      (fun x => { tmps := #[.slice A zs.length c, undef, .slice none 0 0, .pointer (some ⟨w.heap.size, 0, none⟩), undef, .pointer (some ⟨W.heap.size + 1, 0, none⟩), .int .i64 (x.1 : Int), .slice A zs.length c, .func (.func 78) #[] #[.pointer (some ⟨w.heap.size + 1, 0, none⟩)], undef, undef, undef, undef, .int .i64 ((g : Int) - 1), .int .i64 ((g : Int) - 1 + 64), .int .i64 (m : Int), .slice (some ⟨W.heap.size, 0, none⟩) m m, .slice A zs.length c, .func (.func 78) #[] #[.pointer (some ⟨W.heap.size + 1 + 1, 0, none⟩)], .int .i64 (x.1 : Int), undef, undef, undef, undef, undef, undef, undef, undef, undef, undef, undef], defers := [] }) ?assign2 ?body2 ?done2 ?stop2
    case assign2 =>
      intro l x W K hK
      gi_wp2
      exact hK
    case body2 =>
      rintro l pre x X ⟨⟨v, hV, hrow, rfl⟩, hBX, hD2⟩ _
      have hc2 := hV.cell
      have hxm : x.1 / 64 < m := by have := x.2; have := HM.out; omega
      have hcell : X.cell? ⟨W.heap.size, x.1 / 64, none⟩ = some (.int .u64 (setB (vals pre) (x.1 / 64) : Int)) := by
        rw [hrow.cellAt (x.1 / 64) (by omega), uVals_at _ _ (by rw [ofL_len]; exact hxm)]
        unfold ofL
        rw [wd_map, if_pos hxm]
      have hfz : X.frozen? ⟨W.heap.size, x.1 / 64, none⟩ = false := hrow.frozenAt _
      have hxl := x.2
      have hor := or_pw (setB (vals pre) (x.1 / 64)) x.1 (setB_lt _ _)
      have hlt16 : x.1 < 65536 := by omega
      have hmo : Tryd.prog.follows .mixedOrders = true := by kernel_rfl
      have HF := Lib.hid (of_step (vals pre) x.1 hBs (by omega) (by omega) hV hrow hBX hD2 rfl)
      rw [← vals_snoc] at HF
      clear hV hrow hBX hD2 bG bL hB0 bV bN hB2 hrow0 hmk hgz hc em hK hD hB hx hgl hgl2 hxl hroom hi hz0 hz1 hz2 hBs hDlt
      have Hx : Hid (∃ y : Nat, y = x.1) := Lib.hid ⟨_, rfl⟩
      obtain ⟨y, hy⟩ := Hx.out
      clear Hx
      have Hy := Lib.hid hy
      rw [← hy] at hxm hcell hfz hor hlt16 HF
      rw [← hy]
      clear hy
      obtain ⟨k, r, hk, hr⟩ : ∃ k r : Nat, k = y / 64 ∧ r = y % 64 := ⟨_, _, rfl, rfl⟩
      have e1 : IntKind.i64.wrap ((y : Int) / 64) = (k : Int) := by rw [IntKind.wrap_i64]; omega
      have e2 : (y : Int).tmod 64 = (r : Int) := by rw [Int.tmod_eq_emod_of_nonneg (by omega)]; omega
      have hr64 : r < 64 := by omega
      have Hk := Lib.hid hk
      have Hr := Lib.hid hr
      rw [← hk] at hxm hcell hfz hor HF
      rw [← hr] at hor
      clear hk hr
      gi_wp2
      gi_region_with_o (fail)
      all_goals
        gi_wp2
        exact HF.out
    case done2 =>
      rintro D2 ys X hD2 hys ⟨⟨v, hV, hrow, rfl⟩, hBX, hDX⟩ hK2
      have hc2 := hV.cell
      clear bG bL hB0 hB2 bV bN hrow0 hmk hgz hc em hx hD hB hK
      gi_wp2
      have hne1 : D ≠ D2 := by simp at hD2; omega
      refine ⟨by simp, .inl ⟨_, _, rfl, run_takeDeferred hK2, ?_⟩⟩
      refine ⟨by simp, .inl ⟨_, _, rfl, run_takeDeferred ((World.putObj_heap_other hne1).trans hDX), ?_⟩⟩
      refine ⟨_, results_tmp rfl _ _ _, _, rfl, ?_⟩
      have hD2g : W.heap.size < D2 := by simp at hD2; omega
      have g1 := grownBy_putObj' X D2 (.deferred none)
      have g2 := grownBy_putObj' (X.putObj D2 (.deferred none)) D (.deferred none)
      have r2 := (hrow.kept g1 (.inr (by simp [Value.ownBlock]; omega))).kept g2 (.inr (by simp [Value.ownBlock]; omega))
      have hXs := hBX.size
      have hDge : w.heap.size ≤ D := by have := HDge.out; simp at this; omega
      have b2 := (hBX.grown g1 (by omega) (fun k e => by cases e; omega)).grown g2 (by simp; omega) (fun k e => by cases e; omega)
      refine ⟨?_, b2⟩
      have e2 : (ofS zs).length = m := by unfold ofS; rw [ofL_len, ← HGN.out, ← HM.out]
      rw [e2]
      rw [hys, show ofL (alw zs) m = ofS zs by unfold ofS; rw [← HGN.out, ← HM.out]] at r2
      exact r2
    case stop2 =>
      rintro D c pre W _ _ h _
      exact h.elim
  case stop1 =>
    rintro D c pre W _ _ h _
    exact h.elim
end Go.Proofs.YtipihchlhkjdjaaDoor

namespace Go.Proofs.YtipihchlhkjdjaaDoor
open Go.RowKit
set_option maxRecDepth 100000

theorem ofS_wd (zs : List Int) (k : Nat) : wd (ofS zs) k < 18446744073709551616 := by
  unfold ofS ofL
  rw [wd_map]
  split
  · exact setB_lt _ _
  · omega
theorem ofS_len (zs : List Int) : (ofS zs).length ≤ 1024 := by
  unfold ofS
  rw [ofL_len]
  have := gN_le (alw zs) (alw_lt zs)
  omega
theorem of_any (A : Option Addr) (c : Nat) (zs : List Int) (w : World) (hx : RdI w w.heap.size A zs) :
    Calls Tryd.prog 53 #[.slice A zs.length c] w fun e w' => ∃ A1 c1, e = .returned (.slice A1 (ofS zs).length c1) ∧ RdU w' w'.heap.size A1 (ofS zs) ∧ Below w.heap.size w w' :=
  (callsIn_wide.1 (of_in Fence.wide 3 trivial trivial trivial rfl (Nat.le_refl _) A c zs w hx)).mono fun e w' ⟨v, he, hown, hb⟩ => by
    have hl := ofS_len zs
    obtain ⟨A1, c1, rfl, hr⟩ := own_rdU hown (ofS_wd zs) (by omega)
    exact ⟨A1, c1, he, hr, hb⟩
theorem alist_zd (xs : List Nat) (n k : Nat) : 0 ≤ zd (alist xs n) k ∧ zd (alist xs n) k ≤ n := by
  unfold zd
  by_cases h : k < (alist xs n).length
  · have hm := List.getElem_mem h
    simp only [List.getD, List.getElem?_eq_getElem h, Option.getD_some]
    generalize (alist xs n)[k] = z at hm
    unfold alist at hm
    obtain ⟨j, hj, rfl⟩ := List.mem_map.1 hm
    have := List.mem_range.1 (List.mem_filter.1 hj).1
    omega
  · simp only [List.getD, List.getElem?_eq_none (by omega : (alist xs n).length ≤ k), Option.getD_none]
    omega
theorem list_any (A : Option Addr) (c : Nat) (xs : List Nat) (w : World) (hx : RdU w w.heap.size A xs) (hroom : xs.length ≤ 1048576) (hT : Tab w) :
    Calls Tryd.prog 52 #[.slice A xs.length c] w fun e w' => ∃ A1 c1, e = .returned (.slice A1 (alist xs (64 * xs.length)).length c1) ∧ RdI w' w'.heap.size A1 (alist xs (64 * xs.length)) ∧ Below w.heap.size w w' :=
  (callsIn_wide.1 (list_in 3 (Nat.le_refl _) A c xs w hx hroom hT)).mono fun e w' ⟨v, he, hown, hb⟩ => by
    have hl := alist_le xs (64 * xs.length)
    obtain ⟨A1, c1, rfl, hr⟩ := own_rdI hown (fun k => by have := alist_zd xs (64 * xs.length) k; omega) (fun k => by have := alist_zd xs (64 * xs.length) k; omega) (by omega)
    exact ⟨A1, c1, he, hr, hb⟩

theorem rdI_lit (w : World) (t : TypeId) (zs : List Int) (lo : ∀ k, -9223372036854775808 ≤ zd zs k) (hi : ∀ k, zd zs k ≤ 9223372036854775807) (hl : zs.length ≤ 1152921504606846976) :
    RdI (w.alloc (.cells (iVals zs).toArray t)) (w.alloc (.cells (iVals zs).toArray t)).heap.size (some ⟨w.heap.size, 0, none⟩) zs :=
  ⟨lo, hi, hl, fun _ => ⟨w.heap.size, 0, rfl, by simp, fun k hk => by
    have h := iVals_at zs k hk
    simp only [World.cell?, World.alloc_heap_new, Nat.zero_add]
    simpa using h⟩⟩
theorem zd_lo (zs : List Int) (h : ∀ z ∈ zs, -9223372036854775808 ≤ z ∧ z ≤ 9223372036854775807) (k : Nat) : -9223372036854775808 ≤ zd zs k ∧ zd zs k ≤ 9223372036854775807 := by
  unfold zd
  by_cases hk : k < zs.length
  · simp only [List.getD, List.getElem?_eq_getElem hk, Option.getD_some]
    exact h _ (List.getElem_mem hk)
  · simp only [List.getD, List.getElem?_eq_none (by omega : zs.length ≤ k), Option.getD_none]
    omega
theorem rd_lit (w : World) (t : TypeId) (zs : List Int) (h : ∀ z ∈ zs, -9223372036854775808 ≤ z ∧ z ≤ 9223372036854775807) (hl : zs.length ≤ 1152921504606846976) :
    RdI (w.alloc (.cells (iVals zs).toArray t)) (w.alloc (.cells (iVals zs).toArray t)).heap.size (some ⟨w.heap.size, 0, none⟩) zs :=
  rdI_lit w t zs (fun k => (zd_lo zs h k).1) (fun k => (zd_lo zs h k).2) hl
theorem below_alloc (w : World) (o : Obj) : Below w.heap.size w (w.alloc o) := (Below.refl _ w).alloc (Nat.le_refl _) _

end Go.Proofs.YtipihchlhkjdjaaDoor

namespace Go.Proofs.YtipihchlhkjdjaaDoor
open Go.RowKit
set_option maxRecDepth 100000
attribute [local go_sem ↓] Go.wp_at_zero Go.wp_at_succ

theorem Tryd.infoSI : (Tryd.prog.info? 34).map (fun i => (i.zero, i.size, i.bytes)) = some (some (.slice none 0 0), 1, 24) := by kernel_rfl
theorem Tryd.infoSU : (Tryd.prog.info? 102).map (fun i => (i.zero, i.size, i.bytes)) = some (some (.slice none 0 0), 1, 24) := by kernel_rfl

/-- where the edges from i lead, in their order -/
def tos (es : List (Int × Int)) (i : Nat) : List Int := (es.filter fun e => decide (e.1 = (i : Int))).map (·.2)
theorem take_ed (es : List (Int × Int)) (k : Nat) (h : k < es.length) : es.take (k + 1) = es.take k ++ [ed es k] := by
  rw [List.take_succ_eq_append_getElem h]; unfold ed; simp [List.getD, h]
theorem tos_take (es : List (Int × Int)) (k x : Nat) (h : k < es.length) (hx : (ed es k).1 = (x : Int)) :
    tos (es.take (k + 1)) = fun i => if i = x then tos (es.take k) x ++ [(ed es k).2] else tos (es.take k) i := by
  funext i
  unfold tos
  rw [take_ed es k h, List.filter_append, List.map_append]
  by_cases e : i = x
  · subst e
    simp [hx]
  · have : ¬ (ed es k).1 = (i : Int) := by omega
    simp [this, e]
theorem tos_len (es : List (Int × Int)) (i : Nat) : (tos es i).length ≤ es.length := by
  unfold tos; rw [List.length_map]; exact List.length_filter_le _ _
theorem tos_take_len (es : List (Int × Int)) (k i : Nat) : (tos (es.take k) i).length ≤ k := Nat.le_trans (tos_len _ _) (by simp; omega)
theorem zd_bnd {zs : List Int} {lo hi : Int} (h : ∀ z ∈ zs, lo ≤ z ∧ z ≤ hi) (h0 : lo ≤ 0) (h1 : 0 ≤ hi) (k : Nat) : lo ≤ zd zs k ∧ zd zs k ≤ hi := by
  unfold zd
  by_cases hk : k < zs.length
  · simp only [List.getD, List.getElem?_eq_getElem hk, Option.getD_some]
    exact h _ (List.getElem_mem hk)
  · simp only [List.getD, List.getElem?_eq_none (by omega : zs.length ≤ k), Option.getD_none]
    exact ⟨h0, h1⟩
theorem tos_mem {es : List (Int × Int)} {i : Nat} {z : Int} : z ∈ tos es i ↔ ((i : Int), z) ∈ es := by
  unfold tos
  rw [List.mem_map]
  constructor
  · rintro ⟨⟨a, b⟩, h, rfl⟩
    rw [List.mem_filter] at h
    have := of_decide_eq_true h.2
    simp at this
    subst this
    exact h.1
  · intro h
    exact ⟨_, List.mem_filter.2 ⟨h, by simp⟩, rfl⟩
theorem tos_in (es : List (Int × Int)) (n : Nat) (h : ∀ k, k < es.length → okE n (ed es k) = true) (i k : Nat) (hn : n ≤ 200) : -9223372036854775808 ≤ zd (tos es i) k ∧ zd (tos es i) k ≤ 9223372036854775807 := by
  refine zd_bnd (fun z hz => ?_) (by omega) (by omega) k
  obtain ⟨j, hj, he⟩ := mem_ed (tos_mem.1 hz)
  have := h j hj
  rw [he] at this
  unfold okE at this
  rw [Bool.and_eq_true] at this
  have := nodeB_true this.2
  simp at this
  omega
theorem own_rdUp {w : World} {base : Nat} {e : TypeId} {v : Value} {xs : List Nat} (h : w.ownsRow base e 1 v xs.length (uVals xs)) (hlt : ∀ k, wd xs k < 18446744073709551616) (hroom : xs.length ≤ 1152921504606846976) :
    ∃ A c, v = .slice A xs.length c ∧ RdUp w (fun b => base ≤ b) A xs := by
  obtain ⟨A, c, rfl⟩ := own_any h
  refine ⟨A, c, rfl, hlt, hroom, fun hn => ?_⟩
  obtain ⟨g, cap, hv, hb, _⟩ := own_shape h hn
  injection hv with hA _ hc
  subst hA
  subst hc
  refine ⟨g, 0, rfl, hb, fun k hk => ?_⟩
  rw [Nat.zero_add, h.cellAt k (by omega)]
  exact uVals_at xs k hk
theorem of_own (A : Option Addr) (c : Nat) (zs : List Int) (w : World) (hx : RdI w w.heap.size A zs) :
    Calls Tryd.prog 53 #[.slice A zs.length c] w fun e w' => ∃ A1 c1, e = .returned (.slice A1 (ofS zs).length c1) ∧ RdUp w' (fun b => w.heap.size ≤ b) A1 (ofS zs) ∧ Below w.heap.size w w' :=
  (callsIn_wide.1 (of_in Fence.wide 3 trivial trivial trivial rfl (Nat.le_refl _) A c zs w hx)).mono fun e w' ⟨v, he, hown, hb⟩ => by
    have hl := ofS_len zs
    obtain ⟨A1, c1, rfl, hr⟩ := own_rdUp hown (ofS_wd zs) (by omega)
    exact ⟨A1, c1, he, hr, hb⟩
/-- the set of the successors of i -/
def nxt (es : List (Int × Int)) (i : Nat) : List Nat := ofS (tos es i)

set_option maxHeartbeats 1000000 in
theorem successors_any (A : Option Addr) (c n : Nat) (es : List (Int × Int)) (w : World) (he : RdE w w.heap.size A es) (hn : n ≤ 200) (hok : ∀ k, k < es.length → okE n (ed es k) = true) :
    Calls Tryd.prog 36 #[.agg #[.int .i64 (n : Int), .slice A es.length c]] w fun e w' => ∃ A1, e = .returned (.slice A1 n n) ∧ RdUUp w' (fun b => w.heap.size ≤ b) A1 ((List.range n).map (nxt es)) ∧ Below w.heap.size w w' := by
  have hroom := he.room
  obtain ⟨i0, hi, hz0, hz1, hz2⟩ := info_parts Tryd.infoInt
  have hmk1 := run_make_row' (P := Tryd.prog) 25 34 (.slice none 0 0) 24 Tryd.underlying25 Tryd.infoSI rfl .i64 .i64 n (by omega) (by omega)
  have hmk2 := run_make_row' (P := Tryd.prog) 69 102 (.slice none 0 0) 24 Tryd.underlying69 Tryd.infoSU rfl .i64 .i64 n (by omega) (by omega)
  go_enter Tryd.func36, Tryd.ntmps36
  go_wp2_with fail
  have hG := GBox.new w n A es.length c 24
  obtain ⟨w1, hw1⟩ : ∃ w1, w1 = w.alloc (.cells #[.int .i64 (n : Int), .slice A es.length c] 24) := ⟨_, rfl⟩
  have hb1 : Below w.heap.size w w1 := by rw [hw1]; exact (Below.refl _ _).alloc (Nat.le_refl _) _
  have hs1 : w.heap.size + 1 = w1.heap.size := by rw [hw1]; simp
  have hE0 := Ends.new 34 3 w1 w1.heap.size n (Nat.le_refl _)
  obtain ⟨w2, hw2⟩ : ∃ w2, w2 = w1.alloc (.cells (madeCells #[.slice none 0 0] n) 34) := ⟨_, rfl⟩
  have hb2 : Below w1.heap.size w1 w2 := by rw [hw2]; exact (Below.refl _ _).alloc (Nat.le_refl _) _
  rw [← hw1, ← hw2, hs1]
  rw [← hw2] at hE0
  rw [← hw1] at hG
  have he1 : RdE w1 w1.heap.size A es := he.step hb1
  obtain ⟨B, hB⟩ : ∃ B, B = w.heap.size := ⟨_, rfl⟩
  obtain ⟨B1, hB1⟩ : ∃ B1, B1 = w1.heap.size := ⟨_, rfl⟩
  rw [← hB] at hG hs1 ⊢
  rw [← hB1] at he1 hE0 hb2 hs1 ⊢
  have hs1 : B + 1 ≤ B1 := by omega
  have hs2 : B1 ≤ w2.heap.size := by have := hb2.size; omega
  have hG2 : GBox w2 B n A es.length c := hG.below hb2 (by omega)
  have HB1 := Lib.hid hB1
  have HB := Lib.hid hB
  have HG := Lib.hid hG
  clear hw1 hw2 hB hB1 he hG
  have HO := Lib.hid hok
  clear hok
  go_loopw [15] (fun i wr => ∃ k : Nat, k ≤ es.length ∧ i = .int .i64 k ∧ Ends 34 3 wr B1 B1 n (tos (es.take k)) ∧ Below B1 w1 wr) (fun i _ => es.length - (intOf i).toNat)
  case atStart => exact ⟨0, Nat.zero_le _, rfl, hE0, hb2⟩
  case round =>
    obtain ⟨k, hk, rfl, hEn, hbr⟩ := hrel
    clear hE0 hb2 hG2
    by_cases hlt : k < es.length
    · have hoke := HO.out k hlt
      unfold okE at hoke
      rw [Bool.and_eq_true] at hoke
      obtain ⟨o1, o2⟩ := hoke
      replace o1 := nodeB_true o1
      replace o2 := nodeB_true o2
      obtain ⟨x, hx⟩ : ∃ x : Nat, (ed es k).1 = (x : Int) := ⟨(ed es k).1.toNat, by omega⟩
      obtain ⟨y, hy⟩ : ∃ y : Nat, (ed es k).2 = (y : Int) := ⟨(ed es k).2.toNat, by omega⟩
      have hxn : x < n := by omega
      have HT := Lib.hid (tos_take es k x hlt hx)
      have hsz := Nat.le_trans (show B1 ≤ w1.heap.size from Nat.le_of_eq HB1.out) hbr.size
      obtain ⟨b, off, rfl, hb, hc⟩ := he1.rd (by omega)
      have hc1 := (hbr.cell (p := ⟨b, off + k * 2, none⟩) hb).trans (hc k hlt).1
      have hc2 := (hbr.cell (p := ⟨b, off + k * 2 + 1, none⟩) hb).trans (hc k hlt).2
      rw [hx] at hc1
      rw [hy] at hc2
      have HY := Lib.hid hy
      clear hc o1 o2 hx hy
      go_wp2_with fail
      have hX := EBox.new wr x y 36
      obtain ⟨w3, hw3⟩ : ∃ w3, w3 = wr.alloc (.cells #[.int .i64 (x : Int), .int .i64 (y : Int)] 36) := ⟨_, rfl⟩
      have hs3 : w3.heap.size = wr.heap.size + 1 := by rw [hw3]; simp
      have hEn3 : Ends 34 3 w3 B1 B1 n (tos (es.take k)) := by rw [hw3]; exact hEn.alloc _
      have hbr3 : Below B1 w1 w3 := by rw [hw3]; exact hbr.alloc hsz _
      rw [← hw3] at hX ⊢
      have hgl0 := hEn.lt
      have hbk : w3.heap[wr.heap.size]? = some (.cells #[.int .i64 (x : Int), .int .i64 (y : Int)] 36 (0, 0)) := by rw [hw3]; exact heap_alloc_new wr _
      clear hw3 hEn hbr hc1 hc2
      have hl := tos_take_len es k x
      obtain ⟨v, A3, c3, rfl, hcell, hfz, hown, hgl, hng, hnext⟩ := hEn3.at_ (by decide) hxn
      have hx0 : (0 : Int) ≤ (x : Int) := Int.natCast_nonneg _
      have hx1 : (x : Int) < (n : Int) := by omega
      have hex := hX.x
      have hey := hX.y
      obtain ⟨BE, hBE⟩ : ∃ BE, BE = wr.heap.size := ⟨_, rfl⟩
      rw [← hBE] at hex hey hs3 hbk ⊢
      have hBE3 : BE < w3.heap.size := by omega
      have hne : BE ≠ B1 := by omega
      have hnE : (Value.slice A3 (tos (es.take k) x).length c3).ownBlock ≠ some BE := own_ne_blk hown hbk (by decide)
      have HS3 := Lib.hid hs3
      clear hX hBE hs3
      have hfa : ∀ o, (w3.alloc o).frozen? ⟨B1, x, none⟩ = false := fun o => (World.frozen?_alloc_old w3 o ⟨B1, x, none⟩ (Nat.ne_of_lt hgl)).trans hfz
      clear hbk
      have hxa : ∀ o, (w3.alloc o).cell? ⟨BE, 0, none⟩ = some (.int .i64 (x : Int)) := fun o => (World.cell?_alloc_lt w3 o ⟨BE, 0, none⟩ hBE3).trans hex
      have hya : ∀ o, (w3.alloc o).cell? ⟨BE, 1, none⟩ = some (.int .i64 (y : Int)) := fun o => (World.cell?_alloc_lt w3 o ⟨BE, 1, none⟩ hBE3).trans hey
      have hca : ∀ o, (w3.alloc o).cell? ⟨B1, x, none⟩ = some (.slice A3 (tos (es.take k) x).length c3) := fun o => (World.cell?_alloc_lt w3 o ⟨B1, x, none⟩ hgl).trans hcell
      have hin1 : (tos (es.take k) x).length + 1 ≤ maxLen := by unfold maxLen; omega
      have hin2 : ((tos (es.take k) x).length + 1) * 8 ≤ 140737488355328 := by omega
      have hfin : ∀ gg cap w4, w4.ownsRow B1 3 1 (.slice (some ⟨gg, 0, none⟩) ((tos (es.take k) x).length + 1) cap) ((tos (es.take k) x).length + 1) (iVals (tos (es.take k) x) ++ [.int .i64 (y : Int)]) →
          (w3.alloc (.cells #[.int .i64 (y : Int)] 3)).drew.grownBy w4 (Value.slice A3 (tos (es.take k) x).length c3).ownBlock → ((Value.slice A3 (tos (es.take k) x).length c3).ownBlock = some gg ∨ gg = w3.heap.size + 1) →
          Hid (Ends 34 3 (w4.setCell ⟨B1, x, none⟩ (.slice (some ⟨gg, 0, none⟩) ((tos (es.take k) x).length + 1) cap)) B1 B1 n (tos (es.take (k + 1))) ∧ Below B1 w1 (w4.setCell ⟨B1, x, none⟩ (.slice (some ⟨gg, 0, none⟩) ((tos (es.take k) x).length + 1) cap))) := fun gg cap w4 h1 h2 h3 => by
        refine Lib.hid ⟨?_, ?_⟩
        · rw [HT.out, HY.out]
          exact hnext _ y _ w4 h1 h2 (fun b hb => by
            obtain rfl : gg = b := by simpa [Value.ownBlock] using hb
            exact h3)
        · refine Below.setCell (p := ⟨B1, x, none⟩) (((hbr3.alloc (by omega) _).drew).grown h2 (by simp; omega) (own_base hown)) (Nat.le_refl _) _
      have HFIN := Lib.hid hfin
      clear hfin hnext
      go_region_law
        ((refine step_append_lies _ (by rfl) _ _ _ (by rfl) B1 3 i0 _ 1 8 Tryd.underlying34 hi hz0 hz1 hz2 rfl (by omega) (.slice A3 (tos (es.take k) x).length c3) (tos (es.take k) x).length (iVals (tos (es.take k) x)) (by rfl) ((hown.alloc _).drew)
            ⟨w3.heap.size, 0, none⟩ 1 1 [.int .i64 (y : Int)] (by rfl) (by rfl) (World.news_of_block (cs := #[.int .i64 (y : Int)]) (t := 3) (fr := (0, 0)) (heap_alloc_new w3 _)) (by simp [Value.oneCell'])
            (by omega) hin1 hin2 (by simp; omega) (w3.heap.size + 1) (by simp) ?_; intro gg cap w4 hown1 hgrow hat hlt'; have hc4 := (hgrow.cell_far ⟨B1, x, none⟩ (by simp; omega) (Ne.symm hng)).trans (hca _); have hf4 := (hgrow.frozen_far ⟨B1, x, none⟩ (by simp; omega) (Ne.symm hng)).trans (hfa _); have hx4 := (hgrow.cell_far ⟨BE, 0, none⟩ (by simp; omega) (Ne.symm hnE)).trans (hxa _); have hy4 := (hgrow.cell_far ⟨BE, 1, none⟩ (by simp; omega) (Ne.symm hnE)).trans (hya _); have HF := HFIN.out _ _ _ hown1 hgrow hat))
      all_goals
        go_wp2
        go_roundw
        case rel => exact ⟨k + 1, by omega, by go_num, HF.out.1, HF.out.2⟩
        case measure => simp [intOf]; omega
    · obtain rfl : k = es.length := by omega
      rw [List.take_length] at hEn
      have hGr := HG.out.below hbr (by omega)
      have hgn := hGr.n
      have hge := hGr.e
      have hwr : w1.heap.size ≤ wr.heap.size := hbr.size
      go_wp2_with fail
      have hU0 := OwnUU.new 102 wr wr.heap.size n (Nat.le_refl _)
      obtain ⟨w5, hw5⟩ : ∃ w5, w5 = wr.alloc (.cells (madeCells #[.slice none 0 0] n) 102) := ⟨_, rfl⟩
      have hb5 : Below wr.heap.size wr w5 := by rw [hw5]; exact (Below.refl _ _).alloc (Nat.le_refl _) _
      rw [← hw5] at hU0 ⊢
      have hR := hEn.rd (by omega) fun i hi => ⟨Nat.le_trans (tos_len es i) (by omega), fun k => tos_in es n HO.out i k hn⟩
      obtain ⟨gn, hgn2⟩ : ∃ gn, gn = wr.heap.size := ⟨_, rfl⟩
      rw [← hgn2] at hU0 hb5 hR ⊢
      have HGN := Lib.hid hgn2
      clear hw5 hgn hge hGr hEn hk hlt hgn2
      obtain ⟨wo, rfl⟩ : ∃ wo : World, wo = wr := ⟨_, rfl⟩
      go_loopw [38] (fun i W => ∃ k : Nat, k ≤ n ∧ i = .int .i64 k ∧ OwnUU 102 W gn gn n (fun j => if j < k then nxt es j else []) ∧ Below gn wo W) (fun i _ => n - (intOf i).toNat)
      case atStart => exact ⟨0, Nat.zero_le _, rfl, by simpa using hU0, hb5⟩
      case round =>
        obtain ⟨k, hk, rfl, hU, hbW⟩ := hrel
        clear hU0 hb5
        by_cases hlt : k < n
        · obtain ⟨A6, c6, hg6, hcell, hri⟩ := hR.at0 (k := k) (by simpa using hlt)
          rw [show ((List.range n).map (tos es)).getD k [] = tos es k by simp [List.getD, hlt]] at hcell hri
          have hgW : gn ≤ wr.heap.size := Nat.le_trans (Nat.le_of_eq HGN.out) hbW.size
          have hcW : wr.cell? ⟨B1, k, none⟩ = some (.slice A6 (tos es k).length c6) := (hbW.cell (p := ⟨B1, k, none⟩) hg6).trans hcell
          have hrW := (hri.below hbW).more hgW
          clear hcell hri
          go_wp2_with fail
          refine (of_own _ _ _ _ hrW).mono ?_
          rintro e w6 ⟨A7, c7, rfl, hr7, hb7⟩
          have hU6 := hU.step hb7
          obtain ⟨A8, c8, hc8, hf8, _⟩ := hU6.cell hlt
          have hU7 := hU6.set (i := k) (c' := c7) (hr7.imp fun b hb => Nat.le_trans hgW hb)
          have hb6 : Below gn wo (w6.setCell ⟨gn, k, none⟩ (.slice A7 (ofS (tos es k)).length c7)) := (hbW.trans (hb7.mono hgW)).setCell (p := ⟨gn, k, none⟩) (Nat.le_refl _) _
          clear hU hU6 hr7 hb7 hbW hrW hcW
          have he7 : (fun j => if j = k then ofS (tos es k) else if j < k then nxt es j else []) = (fun j => if j < k + 1 then nxt es j else []) := by
            funext j
            by_cases e1 : j = k
            · subst e1
              rw [if_pos rfl, if_pos (by omega)]; rfl
            · rw [if_neg e1]
              by_cases e2 : j < k
              · rw [if_pos e2, if_pos (by omega)]
              · rw [if_neg e2, if_neg (by omega)]
          rw [he7] at hU7
          clear he7
          go_wp2
          go_roundw
          case rel => exact ⟨k + 1, by omega, by go_num, hU7, hb6⟩
          case measure => simp [intOf]; omega
        · obtain rfl : k = n := by omega
          go_wp2
          go_ret
          have hx := hU.rd (by omega)
          have he8 : (List.range k).map (fun j => if j < k then nxt es j else []) = (List.range k).map (nxt es) := by
            refine List.map_congr_left fun j hj => ?_
            rw [if_pos (List.mem_range.1 hj)]
          rw [he8] at hx
          refine ⟨_, rfl, hx.imp fun b hb => Nat.le_trans ?_ hb, hb1.trans ((hbr.mono ?_).trans (hbW.mono ?_))⟩
          · have h1 := HGN.out
            have h2 := hbr.size
            have h3 := hb1.size
            omega
          · have := HB.out; omega
          · have h1 := HB1.out
            have h2 := HGN.out
            have h3 := HB.out
            have h4 := hb1.size
            omega
end Go.Proofs.YtipihchlhkjdjaaDoor

namespace Go.Proofs.YtipihchlhkjdjaaDoor
open Go.RowKit Go.Shelf
set_option maxRecDepth 100000

attribute [local go_sem] Oper.semAt_some

/-- an edge of a graph of n nodes -/
abbrev Ed (n : Nat) := { p : Nat × Nat // p.1 < n ∧ p.2 < n }
def edVals {n : Nat} (l : List (Ed n)) : List (Nat × Nat) := l.map Subtype.val
theorem edVals_snoc {n : Nat} (l : List (Ed n)) (x : Ed n) : edVals (l ++ [x]) = edVals l ++ [x.1] := by simp [edVals]
theorem edVals_len {n : Nat} (l : List (Ed n)) : (edVals l).length = l.length := by simp [edVals]

/-- the numbers of a set -/
def mem (xs : List Nat) : List Nat := nums xs (64 * xs.length)
/-- the edges from the first k nodes -/
def elist (xss : List (List Nat)) (k : Nat) : List (Nat × Nat) := (List.range k).flatMap fun i => (mem (st xss i)).map fun j => (i, j)
theorem elist_succ (xss : List (List Nat)) (k : Nat) : elist xss (k + 1) = elist xss k ++ (mem (st xss k)).map fun j => (k, j) := by
  unfold elist; rw [List.range_succ, List.flatMap_append]; simp

theorem edges_in (n : Nat) (a : Option Addr) (len cap : Nat) (w : World) :
    CallsIn Fence.wide n Tryd.prog 62 #[.slice a len cap] w fun e w' => e = .returned (.func (.func 74) #[] #[.pointer (some ⟨w.heap.size, 0, none⟩)]) ∧ w' = w.alloc (.cells #[.slice a len cap] 69) := by
  refine callsIn_of_wp Tryd.func62 rfl trivial ?_ rfl
  simp only [Tryd.ntmps62, List.size_toArray, List.length_cons, List.length_nil, Nat.reduceAdd, Nat.reduceSub, Array.replicate_succ, Array.replicate_zero, List.push_toArray, List.append_toArray, List.nil_append, List.cons_append]
  gi_wp2
  go_ret
  exact ⟨rfl, rfl⟩

/-- where an iterator that was entered in W stands: what it reads lies as it lay; what the body owns is the body's or new -/
structure ItInv (Fp O : Nat → Prop) (W : World) (O2 : Nat → Prop) (wr : World) : Prop where
  keeps : Keeps Fp W wr
  own : ∀ b, O2 b → O b ∨ W.heap.size ≤ b
  top : ∀ b, O2 b → b < wr.heap.size
theorem ItInv.start {Fp O : Nat → Prop} {W : World} (h : ∀ k, O k → k < W.heap.size ∧ ¬ Fp k) : ItInv Fp O W O W := ⟨Keeps.refl _ _, fun _ h => .inl h, fun k hk => (h k hk).1⟩
theorem ItInv.not {Fp O O2 : Nat → Prop} {W wr : World} (h : ItInv Fp O W O2 wr) (hO : ∀ k, O k → k < W.heap.size ∧ ¬ Fp k) (hF : ∀ k, Fp k → k < W.heap.size) {b : Nat} (hb : Fp b) : ¬ O2 b := fun h2 => by
  rcases h.own b h2 with h3 | h3
  · exact (hO b h3).2 hb
  · have := hF b hb; omega
theorem ItInv.step {Fp O O2 O3 : Nat → Prop} {W wr W' : World} (h : ItInv Fp O W O2 wr) (hO : ∀ k, O k → k < W.heap.size ∧ ¬ Fp k) (hF : ∀ k, Fp k → k < W.heap.size) (hs : StepO O2 O3 wr W') : ItInv Fp O W O3 W' :=
  ⟨h.keeps.trans (hs.keeps.mono fun k _ hk => h.not hO hF hk), fun b hb => by
    rcases hs.own b hb with h3 | h3
    · exact h.own b h3
    · exact .inr (Nat.le_trans h.keeps.size h3), hs.top⟩
theorem ItInv.below {Fp O O2 : Nat → Prop} {W wr W' : World} (h : ItInv Fp O W O2 wr) (hb : Below wr.heap.size wr W') : ItInv Fp O W O2 W' :=
  ⟨h.keeps.trans (Keeps.of_below hb fun _ hk _ => hk), h.own, fun b hb' => Nat.lt_of_lt_of_le (h.top b hb') hb.size⟩
theorem stable_below {β : Type} {B : Nat} {J : β → (Nat → Prop) → World → Prop} (hJ : Stable B J) {s : β} {O2 : Nat → Prop} {wr W' : World} (h : J s O2 wr) (hb : Below wr.heap.size wr W') : J s O2 W' :=
  hJ s O2 wr W' h (Keeps.of_below hb fun _ hk _ => hk)

theorem Tab.keeps {p : Nat → Prop} {w w' : World} (h : Tab w) (hk : Keeps p w w') (hp : p 0) : Tab w' := fun j hj => (World.cell?_of_block (hk.block _ h.pos hp)).trans (h j hj)
theorem mem_len (xs : List Nat) (h : xs.length ≤ 1024) : (mem xs).length ≤ 65536 := by
  have := nums_len xs (64 * xs.length)
  unfold mem
  omega
theorem elist_len (xss : List (List Nat)) (m : Nat) (h : ∀ k, k < m → (st xss k).length ≤ 1024) (k : Nat) (hk : k ≤ m) : (elist xss k).length ≤ k * 65536 := by
  induction k with
  | zero => simp [elist]
  | succ k ih =>
    rw [elist_succ, List.length_append, List.length_map]
    have h1 := ih (by omega)
    have h2 := mem_len _ (h k (by omega))
    omega
theorem mem_bit {xs : List Nat} {j : Nat} (h : j ∈ mem xs) : bitB xs j = true := by
  unfold mem nums at h; exact (List.mem_filter.1 h).2

theorem list_own (n : Nat) (hn : 3 ≤ n) (A : Option Addr) (c : Nat) (xs : List Nat) (w : World) (hx : RdU w w.heap.size A xs) (hroom : xs.length ≤ 1048576) (hT : Tab w) :
    CallsIn Fence.wide n Tryd.prog 52 #[.slice A xs.length c] w fun e w' => ∃ A1 c1, e = .returned (.slice A1 (mem xs).length c1) ∧ w'.ownsRow w.heap.size 3 1 (.slice A1 (mem xs).length c1) (mem xs).length (iVals (toI (mem xs))) ∧ Below w.heap.size w w' :=
  (list_in n hn A c xs w hx hroom hT).mono fun e w' ⟨v, he, hown, hb⟩ => by
    have e1 : alist xs (64 * xs.length) = toI (mem xs) := rfl
    rw [e1, toI_len] at hown
    obtain ⟨A1, c1, rfl⟩ := own_any hown
    exact ⟨A1, c1, he, hown, hb⟩
theorem zd_toI (L : List Nat) (t : Nat) (h : t < L.length) : ∃ x : Nat, zd (toI L) t = (x : Int) ∧ L[t]? = some x := ⟨L[t], by unfold zd toI; simp [List.getD, h], by simp [h]⟩
theorem take_at (L : List Nat) (t x : Nat) (h : L[t]? = some x) : L.take (t + 1) = L.take t ++ [x] := by
  obtain ⟨h1, h2⟩ := List.getElem?_eq_some_iff.1 h
  rw [List.take_succ_eq_append_getElem h1, h2]

set_option maxHeartbeats 2000000 in
theorem edges1_in (n : Nat) (hn : 4 ≤ n) (m : Nat) (hm : m ≤ 200) (Bs c : Nat) (p : Nat → Prop) (A : Option Addr) (xss : List (List Nat)) (hl : xss.length = m) (w : World) (hx : RdUUp w p A xss) (hpl : ∀ b, p b → b < w.heap.size)
    (hc : w.cell? ⟨Bs, 0, none⟩ = some (.slice A m c)) (hBs : Bs < w.heap.size) (hbits : ∀ k, k < m → ∀ j, bitB (st xss k) j = true → j < m) (hroom : ∀ k, k < m → (st xss k).length ≤ 1024) (hT : Tab w) :
    SeqO Fence.wide n Tryd.prog 74 #[.pointer (some ⟨Bs, 0, none⟩)] (fun x : Ed m => #[Value.agg #[.int .i64 (x.1.1 : Int), .int .i64 (x.1.2 : Int)]]) (fun b => p b ∨ b = Bs ∨ b = 0)
      (fun ys => edVals ys = elist xss m) (fun _ => True) (fun pre _ => pre.length < m * 65536) w := by
  have h1 : 1 ≤ n := by omega
  intro l J Jx O W hkW hO hJ hJx hY h0
  have hTp := hT.pos
  have hF : ∀ k, (p k ∨ k = Bs ∨ k = 0) → k < W.heap.size := fun k hk => by
    have := hkW.size
    rcases hk with hk | hk | hk
    · have := hpl k hk; omega
    · omega
    · omega
  have hcW : W.cell? ⟨Bs, 0, none⟩ = some (.slice A m c) := (World.cell?_of_block (hkW.block Bs hBs (.inr (.inl rfl)))).trans hc
  have hxW := hx.keeps hkW (fun b hb => .inl hb)
  have hTW := hT.keeps hkW (.inr (.inr rfl))
  clear hx hc hT hkW
  refine callsIn_of_wp Tryd.func74 rfl trivial ?_ rfl
  simp only [Tryd.ntmps74, List.size_toArray, List.length_cons, List.length_nil, Nat.reduceAdd, Nat.reduceSub, Array.replicate_succ, Array.replicate_zero, List.push_toArray, List.append_toArray, List.nil_append, List.cons_append]
  gi_wp2
  have HL := Lib.hid hl
  clear hl hcW
  gi_loopw [9] (fun i wr => ∃ k : Nat, k ≤ m ∧ i = .int .i64 k ∧ ∃ ys O2, Hid (edVals ys = elist xss k) ∧ J ys O2 wr ∧ ItInv (fun b => p b ∨ b = Bs ∨ b = 0) O W O2 wr) (fun i _ => m - (intOf i).toNat)
  case atStart => exact ⟨0, Nat.zero_le _, rfl, [], O, Lib.hid rfl, h0, ItInv.start hO⟩
  case round =>
    obtain ⟨k, hk, rfl, ys, O2, hys, hJ2, hI2⟩ := hrel
    by_cases hlt : k < m
    · obtain ⟨b, off, A2, c2, rfl, hb, hcr, hs⟩ := (hxW.keeps hI2.keeps (fun b hb => .inl hb)).at_ (k := k) (by rw [HL.out]; exact hlt)
      have hsr : RdU wr wr.heap.size A2 (st xss k) := hs.toU
      have hTr := hTW.keeps hI2.keeps (.inr (.inr rfl))
      clear hs
      have hbk := fun j hj => hbits k hlt j (mem_bit hj)
      have hmlen := mem_len _ (hroom k hlt)
      have helen := elist_len xss m hroom k hk
      gi_wp2_with (refine ⟨trivial, ?_⟩; refine (list_own (n - 1) (by omega) _ _ _ _ hsr (Nat.le_trans (hroom k hlt) (by omega)) hTr).mono ?_; rintro e wl ⟨A3, c3, rfl, hown, hbl⟩)
      gi_wp2
      obtain ⟨L, hL⟩ : ∃ L, L = mem (st xss k) := ⟨_, rfl⟩
      rw [← hL] at hbk hmlen hown ⊢
      have hJl := stable_below hJ hJ2 hbl
      have hIl := hI2.below hbl
      have hgl : ∀ g, (Value.slice A3 L.length c3).ownBlock = some g → g < wl.heap.size ∧ ¬ O2 g := fun g hg => by
        rcases hown.2 with ⟨h0, _⟩ | ⟨g', cap, cur, h0, hb0, hh, _⟩
        · rw [h0] at hg; simp [Value.ownBlock] at hg
        · rw [h0] at hg
          obtain rfl : g' = g := by simpa [Value.ownBlock] using hg
          exact ⟨(Array.getElem?_eq_some_iff.1 hh).1, fun ho => by have := hI2.top g' ho; omega⟩
      have HLm := Lib.hid hL
      have hysl : Hid (ys.length = (elist xss k).length) := Lib.hid (by have := edVals_len ys; rw [hys.out] at this; exact this.symm)
      clear hcr hsr hTr hL hJ2 hI2 hbl
      gi_loopw [17] (fun i wr2 => ∃ t : Nat, t ≤ L.length ∧ i = .int .i64 t ∧ ∃ ys2 O3, Hid (edVals ys2 = elist xss k ++ (L.take t).map fun j => (k, j)) ∧ J ys2 O3 wr2 ∧ ItInv (fun b => p b ∨ b = Bs ∨ b = 0) O W O3 wr2 ∧
          (∀ g, (Value.slice A3 L.length c3).ownBlock = some g → wr2.heap[g]? = wl.heap[g]? ∧ g < wr2.heap.size ∧ ¬ O3 g)) (fun i _ => L.length - (intOf i).toNat)
      case atStart => exact ⟨0, Nat.zero_le _, rfl, ys, O2, Lib.hid (by rw [hys.out]; simp), hJl, hIl, fun g hg => ⟨rfl, hgl g hg⟩⟩
      case round =>
        clear hJl hIl hgl
        obtain ⟨t, ht, rfl, ys2, O3, hys2, hJ3, hI3, hg3⟩ := hrel
        by_cases htl : t < L.length
        · obtain ⟨g, cap, hA3, _, _⟩ := own_shape hown (by omega)
          obtain ⟨hgs, hgt, hgo⟩ := hg3 g (by rw [hA3]; rfl)
          injection hA3 with hA3 _ hc3
          subst hA3
          subst hc3
          obtain ⟨x, hx1, hx2⟩ := zd_toI L t htl
          have hxm : x < m := hbk x (by obtain ⟨h1, h2⟩ := List.getElem?_eq_some_iff.1 hx2; rw [← h2]; exact List.getElem_mem h1)
          have hcg : wr.cell? ⟨g, t, none⟩ = some (.int .i64 (x : Int)) := by
            rw [World.cell?_of_block hgs, hown.cellAt t (by omega), iVals_at _ _ (by rw [toI_len]; exact htl), hx1]
          have hlen : ys2.length < m * 65536 := by
            have e1 := edVals_len ys2
            rw [hys2.out, List.length_append, List.length_map, List.length_take] at e1
            have e2 : (k + 1) * 65536 ≤ m * 65536 := Nat.mul_le_mul_right _ hlt
            omega
          have HX := Lib.hid hx2
          clear hx1 hx2 hgs
          obtain ⟨fn, tmps, assign, body, hy, hR⟩ := hY ys2 ⟨(k, x), hlt, hxm⟩ O3 wr hJ3 hlen
          gi_wp2
          refine hR.mono ?_
          rintro e W3 ⟨O4, hs4, (⟨rfl, hJ4⟩ | ⟨rfl, hJx4⟩)⟩
          · have hI4 := hI3.step hO hF hs4
            have hg4 : ∀ g', (Value.slice (some ⟨g, 0, none⟩) L.length c3).ownBlock = some g' → W3.heap[g']? = wl.heap[g']? ∧ g' < W3.heap.size ∧ ¬ O4 g' := fun g' hg' => by
              obtain ⟨q1, q2, q3⟩ := hg3 g' hg'
              exact ⟨(hs4.keeps.block g' q2 q3).trans q1, Nat.lt_of_lt_of_le q2 hs4.keeps.size, hs4.not q2 q3⟩
            have hys4 : Hid (edVals (ys2 ++ [⟨(k, x), hlt, hxm⟩]) = elist xss k ++ (L.take (t + 1)).map fun j => (k, j)) := Lib.hid (by rw [edVals_snoc, hys2.out, take_at L t x HX.out]; simp)
            gi_wp2
            go_roundw
            case rel => exact ⟨t + 1, by omega, by simp, _, O4, hys4, hJ4, hI4, hg4⟩
            case measure => simp [intOf]; omega
          · gi_wp2
            refine bodyPost_ret (results_none rfl _ _ _) rfl ?_
            exact ⟨⟨_, rfl⟩, .inr ⟨_, _, trivial, hJx4⟩⟩
        · obtain rfl : t = L.length := by omega
          have hys5 : Hid (edVals ys2 = elist xss (k + 1)) := Lib.hid (by rw [hys2.out, List.take_length, elist_succ, ← HLm.out])
          gi_wp2
          go_roundw
          case rel => exact ⟨k + 1, by omega, by simp, ys2, O3, hys5, hJ3, hI3⟩
          case measure => simp [intOf]; omega
    · obtain rfl : k = m := by omega
      gi_wp2
      go_end0
      exact ⟨⟨_, rfl⟩, .inl ⟨ys, O2, hys.out, hJ2⟩⟩
end Go.Proofs.YtipihchlhkjdjaaDoor
