/-
  Contract of graph.predecessors: from how many nodes an edge leads to each node.
  From how many open nodes each node waits: the numbers that graph.smallestFirst keeps. Plain lemmas.
  slices.Index and slices.Contains over ints, for every slice of ints; the iterator graph.smallestFirst.
  A loop over an iterator that collects: a variable's box and the row that it owns, between two rounds. Plain lemmas.
-/
import Derived.Test.YtipihchlhkjdjaaDoorPk05
import Derived.RangeFuncNested
import Derived.Test.YtipihchlhkjdjaaDoorPk00
import Derived.Sort.LoopGhostIn
import Derived.Test.YtipihchlhkjdjaaDoorPk02
import Derived.Maps.AppendAt
namespace Go.Proofs.YtipihchlhkjdjaaDoor
open Go.RowKit Go.Shelf
set_option maxRecDepth 100000

attribute [local go_sem] Oper.semAt_some

/-- how many of the edges lead to j -/
def cntTo (l : List (Nat × Nat)) (j : Nat) : Nat := l.countP fun e => decide (e.2 = j)
theorem cntTo_snoc (l : List (Nat × Nat)) (i x : Nat) : cntTo (l ++ [(i, x)]) = fun j => if j = x then cntTo l x + 1 else cntTo l j := by
  funext j
  unfold cntTo
  rw [List.countP_append]
  by_cases e : j = x
  · subst e; simp
  · have : ¬ x = j := fun h => e h.symm
    simp [e, this]
theorem cntTo_le (l : List (Nat × Nat)) (j : Nat) : cntTo l j ≤ l.length := List.countP_le_length

theorem rowIs_keeps {p : Nat → Prop} {w w' : World} {g t m : Nat} {f : Nat → Value} (h : w.rowIs g t m f) (hk : Keeps p w w') (hg : p g) : w'.rowIs g t m f := h.of_block (hk.block g h.lt hg)
theorem boxed_keeps {p : Nat → Prop} {w w' : World} {B t : Nat} {v : Value} (h : Boxed w B t v) (hk : Keeps p w w') (hg : p B) : Boxed w' B t v := (hk.block B h.lt hg).trans h
theorem below_keeps {p : Nat → Prop} {w0 w w' : World} {n : Nat} (h : Below n w0 w) (hk : Keeps p w w') (hn : n ≤ w.heap.size) (hp : ∀ k, k < n → p k) : Below n w0 w' := h.trans (hk.below hn hp)

theorem EBox.keeps {p : Nat → Prop} {w w' : World} {q : Nat} {x y : Int} (h : EBox w q x y) (hk : Keeps p w w') (hp : p q) : EBox w' q x y := by
  have hlt := World.block_lt_of_cell? w _ h.x
  exact ⟨(World.cell?_of_block (hk.block q hlt hp)).trans h.x, (World.cell?_of_block (hk.block q hlt hp)).trans h.y⟩

theorem boxed_set {W : World} {B t : Nat} {v : Value} (h : Boxed W B t v) {p : Addr} (hne : B ≠ p.block) (u : Value) : Boxed (W.setCell p u) B t v := (Below.heap_setCell W p u B hne).trans h
theorem rowIs_putObj {W : World} {g t m D : Nat} {f : Nat → Value} (h : W.rowIs g t m f) (hne : g ≠ D) (o : Obj) : (W.putObj D o).rowIs g t m f := h.of_block (World.putObj_heap_other hne)

/-- what holds between two rounds of predecessors' loop -/
structure PreI (T E : TypeId) (w0 : World) (Bc gc m : Nat) (l : List (Nat × Nat)) (O : Nat → Prop) (W : World) : Prop where
  own : O gc
  row : W.rowIs gc E m (fun j => .int .i64 (cntTo l j : Int))
  box : Boxed W Bc T (.slice (some ⟨gc, 0, none⟩) m m)
  below : Below w0.heap.size w0 W

theorem PreI.keeps {T E : TypeId} {w0 : World} {Bc gc m B : Nat} {l : List (Nat × Nat)} {O : Nat → Prop} {W W' : World} (h : PreI T E w0 Bc gc m l O W) (hk : Keeps (fun k => k < B ∨ O k) W W') (h1 : w0.heap.size ≤ B) (h2 : Bc < B) : PreI T E w0 Bc gc m l O W' :=
  ⟨h.own, rowIs_keeps h.row hk (.inr h.own), boxed_keeps h.box hk (.inl h2), below_keeps h.below hk h.below.size (fun _ hk => .inl (Nat.lt_of_lt_of_le hk h1))⟩

set_option maxHeartbeats 2000000 in
theorem predecessors_in (n : Nat) (hn : 6 ≤ n) (m : Nat) (hm : m ≤ 200) (A : Option Addr) (c : Nat) (xss : List (List Nat)) (hl : xss.length = m) (w : World) (hx : RdUU w w.heap.size A xss)
    (hbits : ∀ k, k < m → ∀ j, bitB (st xss k) j = true → j < m) (hroom : ∀ k, k < m → (st xss k).length ≤ 1024) (hT : Tab w) :
    CallsIn Fence.wide n Tryd.prog 51 #[.slice A m c] w fun e w' => ∃ g, e = .returned (.slice (some ⟨g, 0, none⟩) m m) ∧ w.heap.size ≤ g ∧ w'.rowIs g 3 m (fun j => .int .i64 (cntTo (elist xss m) j : Int)) ∧ Below w.heap.size w w' := by
  have h1 : 1 ≤ n := by omega
  have hmk := run_make_row' (P := Tryd.prog) 34 3 (.int .i64 0) 8 Tryd.underlying34 Tryd.infoInt rfl .i64 .i64 m (by omega) (by omega)
  refine callsIn_of_wp_marks Tryd.func51 rfl trivial ?_ rfl
  simp only [Tryd.ntmps51, List.size_toArray, List.length_cons, List.length_nil, Nat.reduceAdd, Nat.reduceSub, Array.replicate_succ, Array.replicate_zero, List.push_toArray, List.append_toArray, List.nil_append, List.cons_append]
  gi_wp2_with (refine ⟨trivial, ?_⟩; refine (edges_in (n - 1) _ _ _ _).mono ?_; rintro e w' ⟨rfl, rfl⟩)
  have hr0 := ((World.rowIs_made w (.int .i64 0) m 3).alloc (.cells #[.slice (some ⟨w.heap.size, 0, none⟩) m m] 34)).alloc (.cells #[.slice A m c] 69)
  have hb0 := (Boxed.new (w.alloc (.cells (madeCells #[.int .i64 0] m) 3)) 34 (.slice (some ⟨w.heap.size, 0, none⟩) m m)).alloc (.cells #[.slice A m c] 69)
  have hh0 := Boxed.new ((w.alloc (.cells (madeCells #[.int .i64 0] m) 3)).alloc (.cells #[.slice (some ⟨w.heap.size, 0, none⟩) m m] 34)) 69 (.slice A m c)
  obtain ⟨w3, hw3⟩ : ∃ w3, w3 = ((w.alloc (.cells (madeCells #[.int .i64 0] m) 3)).alloc (.cells #[.slice (some ⟨w.heap.size, 0, none⟩) m m] 34)).alloc (.cells #[.slice A m c] 69) := ⟨_, rfl⟩
  have hs3 : w3.heap.size = w.heap.size + 3 := by rw [hw3]; simp
  have hb3 : Below w.heap.size w w3 := by rw [hw3]; exact (((Below.refl _ _).alloc (Nat.le_refl _) _).alloc (by simp) _).alloc (by simp; omega) _
  rw [World.size_alloc] at hb0
  rw [World.size_alloc, World.size_alloc] at hh0
  rw [← hw3] at hr0 hb0 hh0 ⊢
  have hx3 := hx.below hb3
  have hT3 := hT.step hb3
  have hTn := hT.pos
  obtain ⟨gc, hgc⟩ : ∃ gc, gc = w.heap.size := ⟨_, rfl⟩
  rw [← hgc] at hr0 hb0 hh0 hs3 hx3 hTn ⊢
  have HGC := Lib.hid hgc
  have HS3 := Lib.hid hs3
  have hs3' : gc + 2 < w3.heap.size := by omega
  have hx0 := hx
  clear hw3 hx hT hmk hgc hs3
  have hI0 : PreI 34 3 w (gc + 1) gc m [] (fun k => k = gc) w3 := ⟨rfl, hr0.congr fun i hi => by simp [cntTo], hb0, hb3⟩
  refine wpIn_rangeFunc_O rfl h1 (gf := 74) (lb := #[.pointer (some ⟨gc + 1 + 1, 0, none⟩)]) rfl trivial (enters_of Tryd.func74 (by kernel_rfl) rfl)
    (edges1_in (n - 1) (by omega) m hm (gc + 1 + 1) c (fun b => b < gc) A xss hl w3 hx3.toP (fun b hb => by omega) hh0.cell (by omega) hbits hroom hT3) (Keeps.refl _ _) (fun _ => rfl)
    (fun ys O W => PreI 34 3 w (gc + 1) gc m (edVals ys) O W) (fun _ _ _ _ => False)
    ?stab (fun _ _ _ _ _ h _ => h.elim) (fun k => k = gc) (fun k hk => by subst hk; exact ⟨by omega, fun h => by rcases h with h | h | h <;> omega⟩) (fun k hk => by rcases hk with h | h | h <;> omega) hI0
    (fun pre x a' O W => PreI 34 3 w (gc + 1) gc m (edVals pre) O W ∧ ∃ q, O q ∧ q ≠ gc ∧ EBox W q x.1.1 x.1.2 ∧ a' = { tmps := #[.slice A m c, undef, .slice none 0 0, .pointer (some ⟨gc + 1, 0, none⟩), .pointer (some ⟨q, 0, none⟩), .slice A m c, .int .i64 (m : Int), .slice (some ⟨gc, 0, none⟩) m m, .slice A m c, .func (.func 74) #[] #[.pointer (some ⟨gc + 1 + 1, 0, none⟩)], .agg #[.int .i64 (x.1.1 : Int), .int .i64 (x.1.2 : Int)], undef, undef, undef, undef, undef, undef, undef, undef], defers := [] })
    ?stabx ?assign ?body ?done ?stop
  case stab =>
    intro s O W W' h hk
    exact h.keeps hk hb3.size (by omega)
  case stabx =>
    rintro pre x a' s O W W' ⟨h, q, hq, hne, hE, ha⟩ hk
    exact ⟨h.keeps hk hb3.size (by omega), q, hq, hne, hE.keeps hk (.inr hq), ha⟩
  case assign =>
    intro l pre x O W K hI hlen hsz htop hK
    have hE := EBox.new W x.1.1 x.1.2 36
    have hgl := hI.row.lt
    clear hI0 hr0 hb0 hh0
    gi_wp2
    refine hK _ (fun k => k = gc ∨ k = W.heap.size) _ ⟨(Keeps.refl _ W).alloc _, fun k hk => ?_, fun k hk => by simp; omega⟩ ⟨⟨.inl rfl, hI.row.alloc _, hI.box.alloc _, hI.below.alloc hI.below.size _⟩, W.heap.size, .inr rfl, by omega, hE, rfl⟩
    rcases hk with rfl | rfl
    · exact .inl hI.own
    · exact .inr (Nat.le_refl _)
  case body =>
    rintro l pre x a' O W ⟨hI, q, hq, hne, hE, rfl⟩ hlen hsz htop
    replace hlen : pre.length < m * 65536 := hlen
    have hcB := hI.box.cell
    have hcx := hE.x
    have hcy := hE.y
    have hrx := hI.row.cell x.2.2
    have hfx := hI.row.frozen x.1.2
    have hle := cntTo_le (edVals pre) x.1.2
    rw [edVals_len] at hle
    have hm2 : m * 65536 ≤ 13107200 := by omega
    have hx2 := x.2.2
    have hql := World.block_lt_of_cell? W _ hcx
    clear hI0 hr0 hb0 hh0
    gi_wp2
    refine ⟨fun k => k = gc, ⟨(Keeps.refl _ W).setCell (q := ⟨gc, x.1.2, none⟩) (fun _ h => h hI.own) _, fun k hk => .inl (by rw [hk]; exact hI.own), fun k hk => by rw [hk]; simpa using htop gc hI.own⟩, rfl, ?_, boxed_set hI.box (by simp) _, hI.below.setCell (p := ⟨gc, x.1.2, none⟩) (Nat.le_of_eq HGC.out.symm) _⟩
    refine (hI.row.set x.1.2 _).congr fun j hj => ?_
    rw [edVals_snoc, show x.1 = (x.1.1, x.1.2) from rfl, cntTo_snoc]
    by_cases e : j = x.1.2
    · simp [e]
    · simp [e]
  case done =>
    rintro D O xs W hD hOD hxs hI hK
    have hc := hI.box.cell
    clear hI0 hr0 hb0 hh0
    have HXS := Lib.hid hxs
    clear hxs
    gi_wp2
    refine ⟨by simp, .inl ⟨_, _, rfl, run_takeDeferred hK, ?_⟩⟩
    refine ⟨_, results_tmp rfl _ _ _, gc, rfl, Nat.le_of_eq HGC.out.symm, ?_, hI.below.trans (belowK_b (w := w) (Nat.le_refl _) W D _ _ (by have := HGC.out; omega) hK rfl rfl)⟩
    have hr := hI.row
    rw [HXS.out] at hr
    exact rowIs_putObj hr (by omega) _
  case stop =>
    rintro D c' O pre W _ _ _ h _
    exact h.elim
end Go.Proofs.YtipihchlhkjdjaaDoor

namespace Go.Proofs.YtipihchlhkjdjaaDoor

/-- the edges of a slice of sets -/
def eR (xss : List (List Nat)) (m i j : Nat) : Bool := decide (i < m) && bitB (st xss i) j
theorem eR_lt {xss : List (List Nat)} {m : Nat} (hbits : ∀ k, k < m → ∀ j, bitB (st xss k) j = true → j < m) : ∀ i j, eR xss m i j = true → i < m ∧ j < m := fun i j h => by
  unfold eR at h
  rw [Bool.and_eq_true] at h
  have := of_decide_eq_true h.1
  exact ⟨this, hbits i this j h.2⟩
theorem bit_in' (xs : List Nat) (n : Nat) (h : bitB xs n = true) : n < 64 * xs.length := by
  rcases Nat.lt_or_ge n (64 * xs.length) with h1 | h1
  · exact h1
  · unfold bitB at h
    rw [wd_out xs _ (by omega), Nat.zero_testBit] at h
    cases h
theorem mem_iff {xs : List Nat} {j : Nat} : j ∈ mem xs ↔ bitB xs j = true := by
  unfold mem nums
  rw [List.mem_filter, List.mem_range]
  exact ⟨fun h => h.2, fun h => ⟨bit_in' xs j h, h⟩⟩
theorem mem_nodup (xs : List Nat) : (mem xs).Nodup := by
  unfold mem nums
  exact List.Pairwise.filter _ List.nodup_range
theorem countP_mem (xs : List Nat) (x : Nat) : (mem xs).countP (fun j => decide (j = x)) = if bitB xs x = true then 1 else 0 := by
  have hn := mem_nodup xs
  have h1 : (mem xs).countP (fun j => decide (j = x)) = (mem xs).count x := by
    unfold List.count
    congr 1
  rw [h1]
  by_cases h : bitB xs x = true
  · rw [if_pos h]
    have h2 := List.count_pos_iff.2 (mem_iff.2 h)
    have h3 := List.nodup_iff_count.1 hn x
    omega
  · rw [if_neg h]
    exact List.count_eq_zero_of_not_mem fun hm => h (mem_iff.1 hm)
theorem cnt_eR (xss : List (List Nat)) (m x : Nat) : cntTo (elist xss m) x = (List.range m).countP fun p => eR xss m p x := by
  have : ∀ k, k ≤ m → cntTo (elist xss k) x = (List.range k).countP fun p => eR xss m p x := by
    intro k
    induction k with
    | zero => intro _; simp [elist, cntTo]
    | succ k ih =>
      intro hk
      have h := ih (by omega)
      unfold cntTo at h ⊢
      rw [elist_succ, List.countP_append, h, List.range_succ, List.countP_append, List.countP_map]
      congr 1
      have h2 := countP_mem (st xss k) x
      have e : ((fun e : Nat × Nat => decide (e.2 = x)) ∘ fun j => (k, j)) = fun j => decide (j = x) := rfl
      rw [e, h2]
      unfold eR
      have hkm : k < m := by omega
      cases hb : bitB (st xss k) x <;> simp [hb, hkm]
  exact this m (Nat.le_refl _)

/-- how many open nodes lead to x -/
def opn (R : Nat → Nat → Bool) (N : Nat) (d : List Nat) (x : Nat) : Nat := (List.range N).countP fun p => R p x && !(d.contains p)
/-- what smallestFirst keeps of x -/
def wv (R : Nat → Nat → Bool) (N : Nat) (d : List Nat) (x : Nat) : Int := if x ∈ d then -1 else (opn R N d x : Int)
theorem opn_le (R : Nat → Nat → Bool) (N : Nat) (d : List Nat) (x : Nat) : opn R N d x ≤ N := by
  have := List.countP_le_length (p := fun p => R p x && !(d.contains p)) (l := List.range N)
  rw [List.length_range] at this
  exact this
theorem opn_nil (R : Nat → Nat → Bool) (N x : Nat) : opn R N [] x = (List.range N).countP fun p => R p x := by
  unfold opn; congr 1; funext p; simp
theorem opn_zero {R : Nat → Nat → Bool} {N : Nat} {d : List Nat} {x : Nat} : opn R N d x = 0 ↔ ∀ p, p < N → R p x = true → p ∈ d := by
  unfold opn
  rw [List.countP_eq_zero]
  constructor
  · intro h p hp hr
    have := h p (List.mem_range.2 hp)
    rw [hr] at this
    simpa using this
  · intro h p hp
    cases hr : R p x with
    | false => simp
    | true => simpa using h p (List.mem_range.1 hp) hr
theorem wv_zero {R : Nat → Nat → Bool} {N : Nat} {d : List Nat} {x : Nat} : wv R N d x = 0 ↔ ready R N d x = true := by
  rw [ready_iff]
  unfold wv
  by_cases h : x ∈ d
  · rw [if_pos h]
    exact ⟨fun e => by omega, fun e => absurd h e.1⟩
  · rw [if_neg h]
    constructor
    · intro e
      exact ⟨h, opn_zero.1 (by omega)⟩
    · intro e
      have := (opn_zero (R := R) (N := N) (d := d) (x := x)).2 e.2
      omega
theorem opn_snoc {R : Nat → Nat → Bool} {N : Nat} {d : List Nat} {n : Nat} (hn : n < N) (hd : n ∉ d) (x : Nat) : opn R N d x = opn R N (d ++ [n]) x + if R n x = true then 1 else 0 := by
  have : ∀ M, (List.range M).countP (fun p => R p x && !(d.contains p)) = (List.range M).countP (fun p => R p x && !((d ++ [n]).contains p)) + if n < M ∧ R n x = true then 1 else 0 := by
    intro M
    induction M with
    | zero => simp
    | succ M ih =>
      rw [List.range_succ, List.countP_append, List.countP_append, ih]
      by_cases e : M = n
      · subst e
        have hc : d.contains M = false := by simpa using hd
        have hc2 : (d ++ [M]).contains M = true := by simp
        cases hr : R M x <;> simp [hr, hd]
      · have hc : (d ++ [n]).contains M = d.contains M := by
          have e' : ¬ M = n := e
          rw [Bool.eq_iff_iff]; simp [e']
        have hiff : (n < M + 1 ∧ R n x = true) ↔ (n < M ∧ R n x = true) := by
          constructor
          · rintro ⟨a, b⟩; exact ⟨by omega, b⟩
          · rintro ⟨a, b⟩; exact ⟨by omega, b⟩
        simp only [List.countP_cons, List.countP_nil, hc, hiff]
        omega
  have h := this N
  unfold opn
  rw [h]
  simp [hn]
/-- behind the release of n, when t of its successors L have been told -/
def wvt (R : Nat → Nat → Bool) (N : Nat) (d : List Nat) (n : Nat) (L : List Nat) (t x : Nat) : Int := if x ∈ d ∨ x = n then -1 else (opn R N d x : Int) - if x ∈ L.take t then 1 else 0
theorem wvt_zero (R : Nat → Nat → Bool) (N : Nat) (d : List Nat) (n : Nat) (L : List Nat) : wvt R N d n L 0 = fun x => if x = n then -1 else wv R N d x := by
  funext x
  unfold wvt wv
  by_cases h1 : x = n
  · simp [h1]
  · by_cases h2 : x ∈ d <;> simp [h1, h2]
theorem wvt_all {R : Nat → Nat → Bool} {N : Nat} {d : List Nat} {n : Nat} {L : List Nat} (hn : n < N) (hd : n ∉ d) (hL : ∀ x, x ∈ L ↔ R n x = true) : wvt R N d n L L.length = wv R N (d ++ [n]) := by
  funext x
  unfold wvt wv
  rw [List.take_length]
  have h := opn_snoc (R := R) hn hd x
  by_cases h1 : x ∈ d ∨ x = n
  · rw [if_pos h1, if_pos (by simpa using h1)]
  · have h1' : ¬ x ∈ d ++ [n] := by simpa using h1
    rw [if_neg h1, if_neg h1']
    by_cases h2 : R n x = true
    · rw [if_pos ((hL x).2 h2)]
      rw [if_pos h2] at h
      omega
    · rw [if_neg (fun h3 => h2 ((hL x).1 h3))]
      rw [if_neg h2] at h
      omega
theorem wvt_step {R : Nat → Nat → Bool} {N : Nat} {d : List Nat} {n : Nat} {L : List Nat} (hg : Good R N d) (hn : n < N) (hr : ready R N d n = true) (hL : ∀ x, x ∈ L ↔ R n x = true) (hnd : L.Nodup) {t y : Nat} (hy : L[t]? = some y) :
    wvt R N d n L (t + 1) = (fun x => if x = y then wvt R N d n L t y - 1 else wvt R N d n L t x) := by
  obtain ⟨h1, h2⟩ := ready_iff.1 hr
  obtain ⟨ht, hty⟩ := List.getElem?_eq_some_iff.1 hy
  have hRy : R n y = true := (hL y).1 (by rw [← hty]; exact List.getElem_mem ht)
  have hyd : ¬ (y ∈ d ∨ y = n) := by
    rintro (h3 | h3)
    · exact h1 (hg.mem_pre h3 hn hRy)
    · subst h3
      exact h1 (h2 y hn hRy)
  have hyt : y ∉ L.take t := by
    intro h3
    obtain ⟨j, hj, e⟩ := List.getElem_of_mem h3
    rw [List.getElem_take] at e
    have hj' : j < t := by simp at hj; omega
    exact absurd (e.trans hty.symm) (fun e2 => by
      have := List.pairwise_iff_getElem.1 hnd j t (by omega) ht hj'
      exact this e2)
  have htk : L.take (t + 1) = L.take t ++ [y] := by rw [List.take_succ_eq_append_getElem ht, hty]
  funext x
  by_cases e : x = y
  · subst e
    rw [if_pos rfl]
    unfold wvt
    rw [if_neg hyd, if_neg hyd, htk, if_pos (by simp), if_neg hyt]
    omega
  · rw [if_neg e]
    unfold wvt
    rw [htk]
    have : x ∈ L.take t ++ [y] ↔ x ∈ L.take t := by simp [e]
    simp only [this]
theorem wvt_bd (R : Nat → Nat → Bool) (N : Nat) (d : List Nat) (n : Nat) (L : List Nat) (t x : Nat) : -1 ≤ wvt R N d n L t x ∧ wvt R N d n L t x ≤ N := by
  have := opn_le R N d x
  unfold wvt
  split
  · omega
  · split <;> omega
theorem wv_bd (R : Nat → Nat → Bool) (N : Nat) (d : List Nat) (x : Nat) : -1 ≤ wv R N d x ∧ wv R N d x ≤ N := by
  have := opn_le R N d x
  unfold wv
  split <;> omega
end Go.Proofs.YtipihchlhkjdjaaDoor

namespace Go.Proofs.YtipihchlhkjdjaaDoor
open Go.RowKit Go.Shelf
set_option maxRecDepth 100000

/-- k is the first place of v -/
def FirstAt (zs : List Int) (v : Int) (k : Nat) : Prop := k < zs.length ∧ zd zs k = v ∧ ∀ j, j < k → zd zs j ≠ v
theorem index_yes (A : Option Addr) (c : Nat) (zs : List Int) (v : Int) (k0 : Nat) (w : World) (hx : RdI w w.heap.size A zs) (hv : FirstAt zs v k0) :
    Calls Tryd.prog 33 #[.slice A zs.length c, .int .i64 v] w fun e w' => e = .returned (.int .i64 (k0 : Int)) ∧ w = w' := by
  obtain ⟨hk0, hz0, hmin⟩ := hv
  have hroom := hx.room
  have HZ := Lib.hid hz0
  have HM := Lib.hid hmin
  clear hz0 hmin
  go_enter Tryd.func33, Tryd.ntmps33
  go_wp2
  go_loop [8] (fun i => ∃ k : Nat, k ≤ k0 ∧ i = .int .i64 k) (fun i => zs.length - (intOf i).toNat)
  case atStart => exact ⟨0, Nat.zero_le _, rfl⟩
  case round =>
    obtain ⟨k, hk, rfl⟩ := hrel
    have hlt : k < zs.length := by omega
    obtain ⟨b, off, rfl, _, hc⟩ := hx.rd (by omega)
    have hci := hc k hlt
    clear hc
    by_cases he : k = k0
    · subst he
      have hb : (v == zd zs k) = true := by rw [HZ.out]; simp
      go_wp2
      go_ret
      exact ⟨rfl, rfl⟩
    · have hb : (v == zd zs k) = false := by simp; exact fun e => HM.out k (by omega) e.symm
      go_wp2
      go_round
      case rel => exact ⟨k + 1, by omega, by go_num⟩
      case measure => simp [intOf]; omega
theorem index_no (A : Option Addr) (c : Nat) (zs : List Int) (v : Int) (w : World) (hx : RdI w w.heap.size A zs) (hv : ∀ j, j < zs.length → zd zs j ≠ v) :
    Calls Tryd.prog 33 #[.slice A zs.length c, .int .i64 v] w fun e w' => e = .returned (.int .i64 (-1)) ∧ w = w' := by
  have hroom := hx.room
  have HM := Lib.hid hv
  clear hv
  go_enter Tryd.func33, Tryd.ntmps33
  go_wp2
  go_loop [8] (fun i => ∃ k : Nat, k ≤ zs.length ∧ i = .int .i64 k) (fun i => zs.length - (intOf i).toNat)
  case atStart => exact ⟨0, Nat.zero_le _, rfl⟩
  case round =>
    obtain ⟨k, hk, rfl⟩ := hrel
    by_cases hlt : k < zs.length
    · obtain ⟨b, off, rfl, _, hc⟩ := hx.rd (by omega)
      have hci := hc k hlt
      clear hc
      have hb : (v == zd zs k) = false := by simp; exact fun e => HM.out k hlt e.symm
      go_wp2
      go_round
      case rel => exact ⟨k + 1, by omega, by go_num⟩
      case measure => simp [intOf]; omega
    · go_wp2
      go_ret
      exact ⟨rfl, rfl⟩
theorem index_yes_len (A : Option Addr) (c len : Nat) (zs : List Int) (hl : zs.length = len) (v : Int) (k0 : Nat) (w : World) (hx : RdI w w.heap.size A zs) (hv : FirstAt zs v k0) :
    Calls Tryd.prog 33 #[.slice A len c, .int .i64 v] w fun e w' => e = .returned (.int .i64 (k0 : Int)) ∧ w = w' := by
  subst hl; exact index_yes A c zs v k0 w hx hv
theorem index_no_len (A : Option Addr) (c len : Nat) (zs : List Int) (hl : zs.length = len) (v : Int) (w : World) (hx : RdI w w.heap.size A zs) (hv : ∀ j, j < zs.length → zd zs j ≠ v) :
    Calls Tryd.prog 33 #[.slice A len c, .int .i64 v] w fun e w' => e = .returned (.int .i64 (-1)) ∧ w = w' := by
  subst hl; exact index_no A c zs v w hx hv
theorem first_of_mem : ∀ {zs : List Int} {v : Int}, v ∈ zs → ∃ k, FirstAt zs v k
  | [], _, h => by simp at h
  | z :: zs, v, h => by
    by_cases e : z = v
    · exact ⟨0, by simp, by simp [zd, e], fun j hj => by omega⟩
    · have hm : v ∈ zs := by
        rcases List.mem_cons.1 h with h | h
        · exact absurd h.symm e
        · exact h
      obtain ⟨k, h1, h2, h3⟩ := first_of_mem hm
      refine ⟨k + 1, by simp; omega, by simpa [zd] using h2, fun j hj => ?_⟩
      rcases j with _ | j
      · simpa [zd] using e
      · have := h3 j (by omega)
        simpa [zd] using this
theorem zd_mem' (zs : List Int) (i : Nat) (h : i < zs.length) : zd zs i ∈ zs := by
  unfold zd
  simp [List.getD, h]
theorem contains_b (A : Option Addr) (c : Nat) (zs : List Int) (v : Int) (w : World) (hx : RdI w w.heap.size A zs) :
    Calls Tryd.prog 17 #[.slice A zs.length c, .int .i64 v] w fun e w' => e = .returned (.bool (decide (v ∈ zs))) ∧ w = w' := by
  have hroom := hx.room
  by_cases hv : v ∈ zs
  · rw [decide_eq_true hv]
    obtain ⟨k, hk⟩ := first_of_mem hv
    clear hv
    go_enter Tryd.func17, Tryd.ntmps17
    go_wp2_with fail
    refine (index_yes A c zs v k _ hx hk).mono ?_
    rintro e w' ⟨rfl, rfl⟩
    go_wp2
    go_ret
    exact ⟨rfl, rfl⟩
  · rw [decide_eq_false hv]
    have hno : ∀ j, j < zs.length → zd zs j ≠ v := fun j hj e => hv (e ▸ zd_mem' zs j hj)
    have HN := Lib.hid hno
    clear hv hno
    go_enter Tryd.func17, Tryd.ntmps17
    go_wp2_with fail
    refine (index_no A c zs v _ hx HN.out).mono ?_
    rintro e w' ⟨rfl, rfl⟩
    go_wp2
    go_ret
    exact ⟨rfl, rfl⟩

/-- a row of ints reads as a list -/
theorem rowIs_rdI {w : World} {g t m : Nat} {z : Nat → Int} (h : w.rowIs g t m (fun k => .int .i64 (z k))) (hb : ∀ k, -9223372036854775808 ≤ z k ∧ z k ≤ 9223372036854775807) (hm : m ≤ 1048576) : RdI w w.heap.size (some ⟨g, 0, none⟩) ((List.range m).map z) := by
  have hz : ∀ k, k < m → zd ((List.range m).map z) k = z k := fun k hk => by unfold zd; simp [List.getD, hk]
  have hbd : ∀ k, -9223372036854775808 ≤ zd ((List.range m).map z) k ∧ zd ((List.range m).map z) k ≤ 9223372036854775807 := zd_bnd (fun x hx => by obtain ⟨k, _, rfl⟩ := List.mem_map.1 hx; exact hb k) (by omega) (by omega)
  refine ⟨fun k => (hbd k).1, fun k => (hbd k).2, by simp; omega, fun _ => ⟨g, 0, rfl, h.lt, fun k hk => ?_⟩⟩
  simp at hk
  dsimp only
  rw [Nat.zero_add, h.cell hk, hz k hk]
theorem range_zd (m : Nat) (z : Nat → Int) (k : Nat) (hk : k < m) : zd ((List.range m).map z) k = z k := by unfold zd; simp [List.getD, hk]

attribute [local go_sem] Oper.semAt_some

theorem smallestFirst_in (n : Nat) (a : Option Addr) (len cap : Nat) (w : World) :
    CallsIn Fence.wide n Tryd.prog 35 #[.slice a len cap] w fun e w' => e = .returned (.func (.func 50) #[] #[.pointer (some ⟨w.heap.size, 0, none⟩)]) ∧ w' = w.alloc (.cells #[.slice a len cap] 69) := by
  refine callsIn_of_wp Tryd.func35 rfl trivial ?_ rfl
  simp only [Tryd.ntmps35, List.size_toArray, List.length_cons, List.length_nil, Nat.reduceAdd, Nat.reduceSub, Array.replicate_succ, Array.replicate_zero, List.push_toArray, List.append_toArray, List.nil_append, List.cons_append]
  gi_wp2
  go_ret
  exact ⟨rfl, rfl⟩

/-- what smallestFirst's first loop holds when k nodes are given out -/
structure SmI {m' : Nat} (E : TypeId) (J : List (Num m') → (Nat → Prop) → World → Prop) (Fp O : Nat → Prop) (W : World) (R : Nat → Nat → Bool) (m g k : Nat) (ys : List (Num m')) (O2 : Nat → Prop) (wr : World) : Prop where
  j : J ys O2 wr
  it : ItInv Fp O W O2 wr
  row : wr.rowIs g E m (fun x => .int .i64 (wv R m (topoN R m k) x))
  out : ¬ O2 g

set_option maxHeartbeats 2000000 in
theorem smallest1_in (n : Nat) (hn : 8 ≤ n) (m : Nat) (hm : m ≤ 200) (Bs c : Nat) (p : Nat → Prop) (A : Option Addr) (xss : List (List Nat)) (hl : xss.length = m) (w : World) (hx : RdUUp w p A xss) (hpl : ∀ b, p b → b < w.heap.size)
    (hc : w.cell? ⟨Bs, 0, none⟩ = some (.slice A m c)) (hBs : Bs < w.heap.size) (hbits : ∀ k, k < m → ∀ j, bitB (st xss k) j = true → j < m) (hroom : ∀ k, k < m → (st xss k).length ≤ 1024) (hT : Tab w) :
    SeqO Fence.wide n Tryd.prog 50 #[.pointer (some ⟨Bs, 0, none⟩)] (fun x : Num m => #[Value.int .i64 (x.1 : Int)]) (fun b => p b ∨ b = Bs ∨ b = 0)
      (fun ys => vals ys = topo (eR xss m) m) (fun _ => True) (fun pre _ => pre.length < m) w := by
  have h1 : 1 ≤ n := by omega
  intro l J Jx O W hkW hO hJ hJx hY h0
  have hTp := hT.pos
  have hF : ∀ k, (p k ∨ k = Bs ∨ k = 0) → k < W.heap.size := fun k hk => by
    have := hkW.size
    rcases hk with hk | hk | hk
    · have := hpl k hk; omega
    · omega
    · omega
  have hcW : W.cell? ⟨Bs, 0, none⟩ = some (.slice A m c) := (World.cell?_of_block (hkW.block Bs hBs (.inr (.inl rfl)))).trans hc
  have hxW := hx.keeps hkW (fun b hb => .inl hb)
  have hTW := hT.keeps hkW (.inr (.inr rfl))
  clear hx hc hT hkW
  refine callsIn_of_wp Tryd.func50 rfl trivial ?_ rfl
  simp only [Tryd.ntmps50, List.size_toArray, List.length_cons, List.length_nil, Nat.reduceAdd, Nat.reduceSub, Array.replicate_succ, Array.replicate_zero, List.push_toArray, List.append_toArray, List.nil_append, List.cons_append]
  gi_wp2_with (refine ⟨trivial, ?_⟩; refine (predecessors_in (n - 1) (by omega) m hm _ _ xss hl _ hxW.toUU hbits hroom hTW).mono ?_; rintro e w1 ⟨g, rfl, hg0, hrow, hb1⟩)
  obtain ⟨R, hR⟩ : ∃ R, R = eR xss m := ⟨_, rfl⟩
  have HR := Lib.hid hR
  have hrow0 : w1.rowIs g 3 m (fun x => .int .i64 (wv R m (topoN R m 0) x)) := hrow.congr fun x hx => by
    show _ = Value.int .i64 (wv R m [] x)
    have : wv R m [] x = (cntTo (elist xss m) x : Int) := by unfold wv; rw [if_neg (by simp), opn_nil, hR, cnt_eR]
    rw [this]
  have hS0 : SmI 3 J (fun b => p b ∨ b = Bs ∨ b = 0) O W R m g 0 [] O w1 := ⟨stable_below hJ h0 hb1, (ItInv.start hO).below hb1, hrow0, fun ho => by have := (hO g ho).1; omega⟩
  clear hrow hrow0 hR h0 hb1
  gi_loopg [] m (fun r wr => ∃ k ys O2, r + k = m ∧ Hid ((topoN R m k).length = k) ∧ Hid (vals ys = topoN R m k) ∧ SmI 3 J (fun b => p b ∨ b = Bs ∨ b = 0) O W R m g k ys O2 wr)
  case atStart => exact ⟨0, [], O, by omega, Lib.hid rfl, Lib.hid rfl, hS0⟩
  case round =>
    clear hS0
    obtain ⟨k, ys, O2, hrk, hkl, hys, hS⟩ := hrel
    have hgood := good_topoN R m k
    have hrdI := rowIs_rdI hS.row (fun x => by have := wv_bd R m (topoN R m k) x; omega) (by omega)
    have hlenr : ((List.range m).map (wv R m (topoN R m k))).length = m := by simp
    cases hp : pick R m (topoN R m k) with
    | none =>
      have htopo : topo R m = topoN R m k := topo_at (by omega) hp
      have hno : ∀ j, j < ((List.range m).map (wv R m (topoN R m k))).length → zd ((List.range m).map (wv R m (topoN R m k))) j ≠ 0 := fun j hj => by
        rw [hlenr] at hj
        rw [range_zd m _ j hj]
        intro e
        have h3 := find_range_none hp j hj
        rw [wv_zero.1 e] at h3
        cases h3
      have HNO := Lib.hid hno
      have HT := Lib.hid htopo
      have HLr := Lib.hid hlenr
      clear hno htopo hp hgood hlenr
      gi_wp2_with (refine ⟨trivial, ?_⟩; refine (callsIn_wide.2 (index_no_len _ _ _ _ HLr.out 0 _ hrdI HNO.out)).mono ?_; rintro e w' ⟨rfl, rfl⟩)
      refine ⟨fun _ h => (by cases h), ?_⟩
      gi_wp2
      refine bodyPost_ret (results_none rfl _ _ _) rfl ?_
      exact ⟨⟨_, rfl⟩, .inl ⟨ys, O2, by rw [hys.out, ← HT.out, HR.out], hS.j⟩⟩
    | some x =>
      obtain ⟨hxm, hrx, hmin⟩ := find_range hp
      have hfirst : FirstAt ((List.range m).map (wv R m (topoN R m k))) 0 x := by
        refine ⟨by simpa using hxm, ?_, fun j hj => ?_⟩
        · rw [range_zd m _ x hxm]; exact wv_zero.2 hrx
        · rw [range_zd m _ j (by omega)]
          intro e
          have h3 := hmin j hj
          rw [wv_zero.1 e] at h3
          cases h3
      have HFI := Lib.hid hfirst
      have HLr := Lib.hid hlenr
      have hkm : k < m ∧ ys.length < m := by
        have e1 := vals_len ys
        rw [hys.out] at e1
        have e2 := (hgood.snoc hxm hrx).len
        simp at e2
        have e3 := hkl.out
        omega
      obtain ⟨hkm, hlen⟩ := hkm
      have HTS := Lib.hid (topoN_some hp)
      have HRD := Lib.hid hrx
      have HGD := Lib.hid hgood
      clear hfirst hlenr hp hrx hmin hgood
      obtain ⟨fn, tmps, assign, body, hy, hR⟩ := hY ys ⟨x, hxm⟩ O2 wr hS.j hlen
      gi_wp2_with (refine ⟨trivial, ?_⟩; refine (callsIn_wide.2 (index_yes_len _ _ _ _ HLr.out 0 x _ hrdI HFI.out)).mono ?_; rintro e w' ⟨rfl, rfl⟩)
      refine hR.mono ?_
      rintro e W3 ⟨O3, hs3, (⟨rfl, hJ3⟩ | ⟨rfl, hJx3⟩)⟩
      · have hI3 := hS.it.step hO hF hs3
        have hgl := hS.row.lt
        have hg3 : ¬ O3 g := hs3.not hgl hS.out
        have hrow3 := rowIs_keeps hS.row hs3.keeps hS.out
        have hck := hrow3.cell hxm
        have hfk := hrow3.frozen x
        have hBsg : Bs ≠ g := by have := hF Bs (.inr (.inl rfl)); omega
        have hcB : W3.cell? ⟨Bs, 0, none⟩ = some (.slice A m c) := (World.cell?_of_block (hI3.keeps.block Bs (hF Bs (.inr (.inl rfl))) (.inr (.inl rfl)))).trans hcW
        obtain ⟨b, off, A2, c2, rfl, hb, hcx, hset⟩ := (hxW.keeps hI3.keeps (fun b hb => .inl hb)).at_ (k := x) (by rw [hl]; exact hxm)
        have hbg : b ≠ g := by have := hF b (.inl hb); omega
        have hx0 : (0 : Int) ≤ (x : Int) := Int.natCast_nonneg _
        have hx1 : (x : Int) < (m : Int) := by omega
        clear hrdI
        gi_wp2_with fail
        obtain ⟨W4, hW4⟩ : ∃ W4, W4 = W3.setCell ⟨g, x, none⟩ (.int .i64 (-1)) := ⟨_, rfl⟩
        rw [← hW4]
        have hs4 : W4.heap.size = W3.heap.size := by rw [hW4]; simp
        have hgF : ¬ (p g ∨ g = Bs ∨ g = 0) := fun h => by have := hF g h; omega
        have hk4 : Keeps (fun b => b ≠ g) W3 W4 := by rw [hW4]; exact (Keeps.refl _ W3).setCell (q := ⟨g, x, none⟩) (fun _ h => h rfl) _
        have hJ4 : J (ys ++ [⟨x, hxm⟩]) O3 W4 := hJ _ _ _ _ hJ3 (hk4.mono fun k' _ hp' e => by
          rcases hp' with hp' | hp'
          · omega
          · exact hg3 (e ▸ hp'))
        have hI4 : ItInv (fun b => p b ∨ b = Bs ∨ b = 0) O W O3 W4 := ⟨hI3.keeps.trans (hk4.mono fun k' _ hp' e => hgF (e ▸ hp')), hI3.own, fun b' hb' => by rw [hs4]; exact hI3.top b' hb'⟩
        have hrow4 : W4.rowIs g 3 m (fun y => .int .i64 (wvt R m (topoN R m k) x (mem (st xss x)) 0 y)) := by
          rw [hW4]
          refine (hrow3.set x (.int .i64 (-1))).congr fun y hy' => ?_
          rw [wvt_zero]
          by_cases e : y = x
          · simp [e]
          · simp [e]
        have hsz4 : W.heap.size ≤ W4.heap.size := hI4.keeps.size
        have hset4 := (hset.keeps hk4 (fun b hb e => hgF (.inl (e ▸ hb)))).toU
        have hT4 := hTW.keeps hI4.keeps (.inr (.inr rfl))
        have hgl4 : g < W4.heap.size := hrow4.lt
        clear hW4 hrow3 hck hfk hcB hcx hset hJ3 hI3 hk4 hs3
        gi_wp2_with (refine ⟨trivial, ?_⟩; refine (list_own (n - 1) (by omega) _ _ _ _ hset4 (Nat.le_trans (hroom x hxm) (by omega)) hT4).mono ?_; rintro e wl ⟨A3, c3, rfl, hown, hbl⟩)
        gi_wp2
        have hJl := stable_below hJ hJ4 hbl
        have hIl := hI4.below hbl
        have hrl := rowIs_step hrow4 hbl
        have hLR : ∀ y, y ∈ mem (st xss x) ↔ R x y = true := fun y => by rw [mem_iff, HR.out]; unfold eR; simp [hxm]
        have hnd := mem_nodup (st xss x)
        obtain ⟨L, hL⟩ : ∃ L, L = mem (st xss x) := ⟨_, rfl⟩
        rw [← hL] at hown hrl hLR hnd ⊢
        have hmlen : L.length ≤ 65536 := by rw [hL]; exact mem_len _ (hroom x hxm)
        have hLm : ∀ y, y ∈ L → y < m := fun y hy' => by rw [hL] at hy'; exact hbits x hxm y (mem_bit hy')
        have HLR := Lib.hid hLR
        have HND := Lib.hid hnd
        have HLM := Lib.hid hLm
        clear hL hJ4 hI4 hrow4 hset4 hT4 hLR hnd hLm hbl
        gi_loopw [28] (fun i wr2 => ∃ t : Nat, t ≤ L.length ∧ i = .int .i64 t ∧ J (ys ++ [⟨x, hxm⟩]) O3 wr2 ∧ ItInv (fun b => p b ∨ b = Bs ∨ b = 0) O W O3 wr2 ∧ wr2.rowIs g 3 m (fun y => .int .i64 (wvt R m (topoN R m k) x L t y)) ∧
            Keeps (fun b => b ≠ g) wl wr2) (fun i _ => L.length - (intOf i).toNat)
        case atStart => exact ⟨0, Nat.zero_le _, rfl, hJl, hIl, hrl, Keeps.refl _ _⟩
        case round =>
          clear hJl hIl hrl
          obtain ⟨t, ht, rfl, hJ5, hI5, hr5, hk5⟩ := hrel
          by_cases htl : t < L.length
          · obtain ⟨gl, cap, hA3, hgl1, hgl2⟩ := own_shape hown (by omega)
            injection hA3 with hA3 _ hc3
            subst hA3
            subst hc3
            obtain ⟨y, hy1, hy2⟩ := zd_toI L t htl
            have hym : y < m := HLM.out y (by obtain ⟨h1, h2⟩ := List.getElem?_eq_some_iff.1 hy2; rw [← h2]; exact List.getElem_mem h1)
            have hcg : wr.cell? ⟨gl, t, none⟩ = some (.int .i64 (y : Int)) := by
              rw [World.cell?_of_block (hk5.block gl hgl2 (by omega)), hown.cellAt t (by omega), iVals_at _ _ (by rw [toI_len]; exact htl), hy1]
            have hst := wvt_step HGD.out hxm HRD.out HLR.out HND.out hy2
            have hbd := wvt_bd R m (topoN R m k) x L t y
            have hcy := hr5.cell hym
            have hfy := hr5.frozen y
            obtain ⟨v5, hv5⟩ : ∃ v5, v5 = wvt R m (topoN R m k) x L t y := ⟨_, rfl⟩
            rw [← hv5] at hcy hst hbd
            have HST := Lib.hid hst
            have hglg : gl ≠ g := by omega
            have hy0 : (0 : Int) ≤ (y : Int) := Int.natCast_nonneg _
            have hy1 : (y : Int) < (m : Int) := by omega
            clear hst hv5 hy1 hy2
            gi_wp2
            have hk6 : Keeps (fun b => b ≠ g) wr (wr.setCell ⟨g, y, none⟩ (.int .i64 (v5 - 1))) := (Keeps.refl _ wr).setCell (q := ⟨g, y, none⟩) (fun _ h => h rfl) _
            have hJ6 := hJ _ _ _ _ hJ5 (hk6.mono fun k' _ hp' e => by
              rcases hp' with hp' | hp'
              · omega
              · exact hg3 (e ▸ hp'))
            have hI6 : ItInv (fun b => p b ∨ b = Bs ∨ b = 0) O W O3 (wr.setCell ⟨g, y, none⟩ (.int .i64 (v5 - 1))) := ⟨hI5.keeps.trans (hk6.mono fun k' _ hp' e => hgF (e ▸ hp')), hI5.own, fun b' hb' => by simpa using hI5.top b' hb'⟩
            have hr6 : (wr.setCell ⟨g, y, none⟩ (.int .i64 (v5 - 1))).rowIs g 3 m (fun y => .int .i64 (wvt R m (topoN R m k) x L (t + 1) y)) := (hr5.set y (.int .i64 (v5 - 1))).congr fun j hj => by
              rw [HST.out]
              by_cases e : j = y
              · simp [e]
              · simp [e]
            go_roundw
            case rel => exact ⟨t + 1, by omega, by simp, hJ6, hI6, hr6, hk5.trans hk6⟩
            case measure => simp [intOf]; omega
          · obtain rfl : t = L.length := by omega
            have hr7 : wr.rowIs g 3 m (fun y => .int .i64 (wv R m (topoN R m (k + 1)) y)) := by
              rw [HTS.out, ← wvt_all hxm (ready_iff.1 HRD.out).1 HLR.out]
              exact hr5
            have hkl7 : Hid ((topoN R m (k + 1)).length = k + 1) := Lib.hid (by rw [HTS.out, List.length_append, hkl.out]; rfl)
            have hys7 : Hid (vals (ys ++ [⟨x, hxm⟩]) = topoN R m (k + 1)) := Lib.hid (by rw [vals_snoc, hys.out, HTS.out])
            gi_wp2
            gi_roundg (m - (k + 1))
            case measure => omega
            case rel => exact ⟨k + 1, _, O3, by omega, hkl7, hys7, hJ5, hI5, hr7, hg3⟩
      · gi_wp2
        refine bodyPost_ret (results_none rfl _ _ _) rfl ?_
        exact ⟨⟨_, rfl⟩, .inr ⟨_, _, trivial, hJx3⟩⟩
end Go.Proofs.YtipihchlhkjdjaaDoor

namespace Go.Proofs.YtipihchlhkjdjaaDoor
open Go.RowKit

theorem ownsRow_keeps {p : Nat → Prop} {w w' : World} {base e size n : Nat} {v : Value} {xs : List Value} (h : w.ownsRow base e size v n xs) (hk : Keeps p w w') (hp : ∀ b, v.ownBlock = some b → p b) : w'.ownsRow base e size v n xs := by
  refine ⟨h.1, ?_⟩
  rcases h.2 with h0 | ⟨g, cap, cur, hv, hb, hg, hr⟩
  · exact .inl h0
  · exact .inr ⟨g, cap, cur, hv, hb, (hk.block g (Array.getElem?_eq_some_iff.1 hg).1 (hp g (by rw [hv]; rfl))).trans hg, hr⟩
theorem own_block_lt {w : World} {base e size n : Nat} {v : Value} {xs : List Value} (h : w.ownsRow base e size v n xs) : ∀ b, v.ownBlock = some b → b < w.heap.size := fun b hb => by
  rcases h.2 with ⟨h0, _⟩ | ⟨g, cap, cur, hv, _, hg, _⟩
  · rw [h0] at hb; simp [Value.ownBlock] at hb
  · rw [hv] at hb
    obtain rfl : g = b := by simpa [Value.ownBlock] using hb
    exact (Array.getElem?_eq_some_iff.1 hg).1
theorem own_base' {w : World} {base n size : Nat} {e : TypeId} {v : Value} {xs : List Value} (h : w.ownsRow base e size v n xs) : ∀ k, v.ownBlock = some k → base ≤ k := by
  intro k hk
  rcases h.2 with ⟨rfl, _⟩ | ⟨g, cap, cur, rfl, hb, _⟩
  · simp [Value.ownBlock] at hk
  · have : g = k := by simpa [Value.ownBlock] using hk
    omega

/-- the box Bo holds a slice that owns xs; both are the body's -/
def CollJ (T E : TypeId) (size n₀ Bo k : Nat) (xs : List Value) (O : Nat → Prop) (W : World) : Prop :=
  ∃ v, Boxed W Bo T v ∧ W.ownsRow n₀ E size v k xs ∧ O Bo ∧ ∀ b, v.ownBlock = some b → O b
theorem CollJ.keeps {T E : TypeId} {size n₀ Bo k : Nat} {xs : List Value} {O p : Nat → Prop} {W W' : World} (h : CollJ T E size n₀ Bo k xs O W) (hk : Keeps p W W') (hp : ∀ b, O b → p b) : CollJ T E size n₀ Bo k xs O W' := by
  obtain ⟨v, h1, h2, h3, h4⟩ := h
  exact ⟨v, (hk.block Bo h1.lt (hp Bo h3)).trans h1, ownsRow_keeps h2 hk fun b hb => hp b (h4 b hb), h3, h4⟩
/-- behind an append and the store of its answer -/
theorem CollJ.step {T E : TypeId} {size n₀ Bo k m : Nat} {xs ys : List Value} {O : Nat → Prop} {W w1 : World} {v v' : Value} {tmp : Obj}
    (hv : Boxed W Bo T v) (hTE : T ≠ E) (hrow : W.ownsRow n₀ E size v k xs) (hn₀ : n₀ ≤ W.heap.size) (hB : n₀ ≤ Bo) (hO : O Bo) (hOv : ∀ b, v.ownBlock = some b → O b)
    (hown' : w1.ownsRow n₀ E size v' m ys) (hgrow : (W.alloc tmp).grownBy w1 v.ownBlock) (hat : v'.ownBlock = v.ownBlock ∨ v'.ownBlock = some (W.alloc tmp).heap.size) :
    CollJ T E size n₀ Bo m ys (fun b => b = Bo ∨ v'.ownBlock = some b) (w1.setCell ⟨Bo, 0, none⟩ v') ∧ StepO O (fun b => b = Bo ∨ v'.ownBlock = some b) W (w1.setCell ⟨Bo, 0, none⟩ v') ∧ Below n₀ W (w1.setCell ⟨Bo, 0, none⟩ v') := by
  obtain ⟨_, h2, h3, _, h5⟩ := hv.appended hTE hrow hn₀ hB hown' hgrow
  refine ⟨⟨v', h2, h3, .inl rfl, fun b hb => .inr hb⟩, ⟨?_, fun b hb => ?_, fun b hb => ?_⟩, h5⟩
  · exact (((Keeps.refl _ W).alloc tmp).grown hgrow (fun r hr _ h => h (hOv r hr))).setCell (q := ⟨Bo, 0, none⟩) (fun _ h => h hO) v'
  · rcases hb with rfl | hb
    · exact .inl hO
    · rcases hat with h | h
      · exact .inl (hOv b (h ▸ hb))
      · rw [h] at hb
        injection hb with hb
        exact .inr (by rw [← hb]; simp)
  · rcases hb with rfl | hb
    · exact h2.lt
    · exact own_block_lt h3 b hb
end Go.Proofs.YtipihchlhkjdjaaDoor
