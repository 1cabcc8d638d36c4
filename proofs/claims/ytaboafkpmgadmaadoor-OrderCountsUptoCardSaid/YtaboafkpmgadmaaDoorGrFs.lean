/-
  Contract of graph.fromSets: the graph with an edge from each node to those of its set.
-/
import Derived.Test.YtaboafkpmgadmaaDoorGrBh
import Derived.Laws.Rows
namespace Go.Proofs.YtaboafkpmgadmaaDoor
open Go.RowKit Go.Shelf
set_option maxRecDepth 100000

attribute [local go_sem] Oper.semAt_some

theorem Tryd.infoEd : (Tryd.prog.info? 38).map (fun i => (i.zero, i.size, i.bytes)) = some (some (.agg #[.int .i64 0, .int .i64 0]), 2, 16) := by kernel_rfl
theorem Tryd.infoGr : (Tryd.prog.info? 24).map (·.size) = some 2 := by kernel_rfl

/-- an edge list's cells -/
def eVals (l : List (Int × Int)) : List Value := l.flatMap fun e => [.int .i64 e.1, .int .i64 e.2]
theorem eVals_snoc (l : List (Int × Int)) (x y : Int) : eVals (l ++ [(x, y)]) = eVals l ++ [.int .i64 x, .int .i64 y] := by simp [eVals]
theorem eVals_len (l : List (Int × Int)) : (eVals l).length = l.length * 2 := by
  induction l with
  | nil => rfl
  | cons a l ih => simp only [eVals, List.flatMap_cons, List.length_append, List.length_cons, List.length_nil] at ih ⊢; omega
theorem eVals_at (l : List (Int × Int)) (k : Nat) (hk : k < l.length) : (eVals l)[k * 2]? = some (.int .i64 (ed l k).1) ∧ (eVals l)[k * 2 + 1]? = some (.int .i64 (ed l k).2) := by
  induction l generalizing k with
  | nil => simp at hk
  | cons a l ih =>
    cases k with
    | zero => exact ⟨rfl, rfl⟩
    | succ k =>
      have h := ih k (by simpa using hk)
      have e1 : (k + 1) * 2 = k * 2 + 1 + 1 := by omega
      rw [e1]
      exact ⟨h.1, h.2⟩
def elI (l : List (Nat × Nat)) : List (Int × Int) := l.map fun e => ((e.1 : Int), (e.2 : Int))
theorem elI_snoc (l : List (Nat × Nat)) (x : Nat × Nat) : elI (l ++ [x]) = elI l ++ [((x.1 : Int), (x.2 : Int))] := by simp [elI]
theorem elI_len (l : List (Nat × Nat)) : (elI l).length = l.length := by simp [elI]

/-- block B holds a graph -/
def GB (T : TypeId) (W : World) (B : Nat) (x : Int) (v : Value) : Prop := W.heap[B]? = some (.cells #[.int .i64 x, v] T (0, 0))
section
variable {T : TypeId} {W W' : World} {B : Nat} {x : Int} {v : Value}
theorem GB.lt (h : GB T W B x v) : B < W.heap.size := (Array.getElem?_eq_some_iff.1 h).1
theorem GB.n (h : GB T W B x v) : W.cell? ⟨B, 0, none⟩ = some (.int .i64 x) := by simp [World.cell?, show W.heap[B]? = _ from h]
theorem GB.e (h : GB T W B x v) : W.cell? ⟨B, 1, none⟩ = some v := by simp [World.cell?, show W.heap[B]? = _ from h]
theorem GB.frozen (h : GB T W B x v) (o : Nat) : W.frozen? ⟨B, o, none⟩ = false := by simp [World.frozen?, show W.heap[B]? = _ from h]
theorem GB.new (W : World) (T : TypeId) (x : Int) (v : Value) : GB T (W.alloc (.cells #[.int .i64 x, v] T)) W.heap.size x v := World.alloc_heap_new W _
theorem GB.kept {row : Option Nat} (h : GB T W B x v) (hg : W.grownBy W' row) (hne : some B ≠ row) : GB T W' B x v := (hg.block B h.lt hne).trans h
theorem GB.alloc (h : GB T W B x v) (o : Obj) : GB T (W.alloc o) B x v := h.kept (World.grownBy_alloc W o none) (by simp)
theorem GB.set (v' : Value) (h : GB T W B x v) : GB T (W.setCell ⟨B, 1, none⟩ v') B x v' := by
  obtain ⟨hlt, hk⟩ := Array.getElem?_eq_some_iff.1 h
  show (W.heap.modify B _)[B]? = _
  rw [Array.getElem?_eq_getElem (by rw [Array.size_modify]; exact hlt), Array.getElem_modify_self, hk]
  rfl
theorem GB.set0 (x' : Int) (h : GB T W B x v) : GB T (W.setCell ⟨B, 0, none⟩ (.int .i64 x')) B x' v := by
  obtain ⟨hlt, hk⟩ := Array.getElem?_eq_some_iff.1 h
  show (W.heap.modify B _)[B]? = _
  rw [Array.getElem?_eq_getElem (by rw [Array.size_modify]; exact hlt), Array.getElem_modify_self, hk]
  rfl
theorem GB.putObj (h : GB T W B x v) {D : Nat} (hne : B ≠ D) (o : Obj) : GB T (W.putObj D o) B x v := (World.putObj_heap_other hne).trans h
theorem GB.not_row (h : GB T W B x v) {e : TypeId} (hte : T ≠ e) {base size k : Nat} {u : Value} {xs : List Value} (hr : W.ownsRow base e size u k xs) : some B ≠ u.ownBlock := by
  rcases hr.2 with ⟨rfl, _⟩ | ⟨g, cap, cur, rfl, _, hgb, _⟩
  · simp [Value.ownBlock]
  · intro e'
    obtain rfl : B = g := by simpa [Value.ownBlock] using e'
    have := (show W.heap[B]? = _ from h).symm.trans hgb
    simp at this
    exact hte this.2
end

/-- the box Bg holds a graph whose edges are owned; both are the body's -/
def CollG (T E : TypeId) (n₀ Bg : Nat) (x : Int) (k : Nat) (xs : List Value) (O : Nat → Prop) (W : World) : Prop :=
  ∃ v, GB T W Bg x v ∧ W.ownsRow n₀ E 2 v k xs ∧ O Bg ∧ ∀ b, v.ownBlock = some b → O b
theorem CollG.keeps {T E : TypeId} {n₀ Bg k : Nat} {x : Int} {xs : List Value} {O p : Nat → Prop} {W W' : World} (h : CollG T E n₀ Bg x k xs O W) (hk : Keeps p W W') (hp : ∀ b, O b → p b) : CollG T E n₀ Bg x k xs O W' := by
  obtain ⟨v, h1, h2, h3, h4⟩ := h
  exact ⟨v, (hk.block Bg h1.lt (hp Bg h3)).trans h1, ownsRow_keeps h2 hk fun b hb => hp b (h4 b hb), h3, h4⟩
theorem CollG.mono {T E : TypeId} {n₀ Bg k : Nat} {x : Int} {xs : List Value} {O O' : Nat → Prop} {W : World} (h : CollG T E n₀ Bg x k xs O W) (hp : ∀ b, O b → O' b) : CollG T E n₀ Bg x k xs O' W := by
  obtain ⟨v, h1, h2, h3, h4⟩ := h
  exact ⟨v, h1, h2, hp _ h3, fun b hb => hp b (h4 b hb)⟩
/-- behind an append and the store of its answer -/
theorem CollG.step {T E : TypeId} {n₀ Bg k m : Nat} {x : Int} {xs ys : List Value} {O : Nat → Prop} {W w1 : World} {v v' : Value} {tmp : Obj}
    (hv : GB T W Bg x v) (hTE : T ≠ E) (hrow : W.ownsRow n₀ E 2 v k xs) (hn₀ : n₀ ≤ W.heap.size) (hB : n₀ ≤ Bg) (hO : O Bg) (hOv : ∀ b, v.ownBlock = some b → O b)
    (hown' : w1.ownsRow n₀ E 2 v' m ys) (hgrow : (W.alloc tmp).grownBy w1 v.ownBlock) (hat : v'.ownBlock = v.ownBlock ∨ v'.ownBlock = some (W.alloc tmp).heap.size) :
    CollG T E n₀ Bg x m ys (fun b => b = Bg ∨ v'.ownBlock = some b) (w1.setCell ⟨Bg, 1, none⟩ v') ∧ StepO O (fun b => b = Bg ∨ v'.ownBlock = some b) W (w1.setCell ⟨Bg, 1, none⟩ v') ∧ Below n₀ W (w1.setCell ⟨Bg, 1, none⟩ v') := by
  have hv1 : GB T w1 Bg x v := (hv.alloc tmp).kept hgrow (hv.not_row hTE hrow)
  have h2 := hv1.set v'
  have h3 := hown'.kept (grownBy_setCell w1 ⟨Bg, 1, none⟩ v') (.inr (hv1.not_row hTE hown').symm)
  refine ⟨⟨v', h2, h3, .inl rfl, fun b hb => .inr hb⟩, ⟨?_, fun b hb => ?_, fun b hb => ?_⟩, ?_⟩
  · exact (((Keeps.refl _ W).alloc tmp).grown hgrow (fun r hr _ h => h (hOv r hr))).setCell (q := ⟨Bg, 1, none⟩) (fun _ h => h hO) v'
  · rcases hb with rfl | hb
    · exact .inl hO
    · rcases hat with h | h
      · exact .inl (hOv b (h ▸ hb))
      · rw [h] at hb
        injection hb with hb
        exact .inr (by rw [← hb]; simp)
  · rcases hb with rfl | hb
    · exact h2.lt
    · exact own_block_lt h3 b hb
  · exact (((Below.refl n₀ W).alloc hn₀ tmp).grown hgrow (by simp; omega) fun j ej => own_base' hrow j ej).setCell (p := ⟨Bg, 1, none⟩) hB v'

theorem cell_two_new (w : World) (x y : Value) (t : TypeId) : ∀ j u, [x, y][j]? = some u → (w.alloc (.cells #[x, y] t)).cell? ((⟨w.heap.size, 0, none⟩ : Addr).add j) = some u := by
  intro j u hj
  match j, hj with
  | 0, hj => simp at hj; subst hj; simp [Addr.add]
  | 1, hj => simp at hj; subst hj; simp [Addr.add]

theorem own_any2 {w : World} {base n : Nat} {e : TypeId} {v : Value} {xs : List Value} (h : w.ownsRow base e 2 v n xs) : ∃ A cap, v = .slice A n cap := by
  rcases h.2 with ⟨rfl, rfl⟩ | ⟨g, cap, cur, hv, _⟩
  · exact ⟨_, _, rfl⟩
  · exact ⟨_, _, hv⟩
theorem own_rdE {w : World} {base c : Nat} {e : TypeId} {A : Option Addr} {es : List (Int × Int)} (h : w.ownsRow base e 2 (.slice A es.length c) es.length (eVals es))
    (hlo1 : ∀ k, -9223372036854775808 ≤ (ed es k).1) (hhi1 : ∀ k, (ed es k).1 ≤ 9223372036854775807) (hlo2 : ∀ k, -9223372036854775808 ≤ (ed es k).2) (hhi2 : ∀ k, (ed es k).2 ≤ 9223372036854775807) (hroom : es.length ≤ 1099511627776) : RdE w w.heap.size A es := by
  refine ⟨hlo1, hhi1, hlo2, hhi2, hroom, fun hn => ?_⟩
  rcases h.2 with ⟨_, h0⟩ | ⟨g, cap, cur, hv, hb, hg, _⟩
  · omega
  · injection hv with hA _ hc
    subst hA
    subst hc
    refine ⟨g, 0, rfl, (Array.getElem?_eq_some_iff.1 hg).1, fun k hk => ?_⟩
    rw [Nat.zero_add, h.cellAt (k * 2) (by omega), h.cellAt (k * 2 + 1) (by omega)]
    exact eVals_at es k hk
theorem elI_ed (l : List (Nat × Nat)) (m : Nat) (hm : m ≤ 200) (h : ∀ e ∈ l, e.1 < m ∧ e.2 < m) (k : Nat) : (0 ≤ (ed (elI l) k).1 ∧ (ed (elI l) k).1 ≤ 200) ∧ 0 ≤ (ed (elI l) k).2 ∧ (ed (elI l) k).2 ≤ 200 := by
  unfold ed elI
  rw [List.getD_eq_getElem?_getD, List.getElem?_map]
  cases he : l[k]? with
  | none => simp
  | some e =>
    have hmem := h e (List.mem_of_getElem? he)
    simp
    omega
theorem edVals_lt {m : Nat} (ys : List (Ed m)) : ∀ e ∈ edVals ys, e.1 < m ∧ e.2 < m := by
  intro e he
  unfold edVals at he
  obtain ⟨y, _, rfl⟩ := List.mem_map.1 he
  exact y.2

set_option maxHeartbeats 2000000 in
theorem fromSets_in (n : Nat) (hn : 8 ≤ n) (m : Nat) (hm : m ≤ 200) (A : Option Addr) (c : Nat) (xss : List (List Nat)) (hl : xss.length = m) (w : World) (hx : RdUU w w.heap.size A xss)
    (hbits : ∀ k, k < m → ∀ j, bitB (st xss k) j = true → j < m) (hroom : ∀ k, k < m → (st xss k).length ≤ 1024) (hT : Tab w) :
    CallsIn Fence.wide n Tryd.prog 62 #[.slice A m c] w fun e w' => ∃ A1 c1, e = .returned (.agg #[.int .i64 (m : Int), .slice A1 (elI (elist xss m)).length c1]) ∧ RdE w' w'.heap.size A1 (elI (elist xss m)) ∧ (∀ b, (Value.slice A1 (elI (elist xss m)).length c1).ownBlock = some b → w.heap.size ≤ b) ∧ Below w.heap.size w w' := by
  have h1 : 1 ≤ n := by omega
  obtain ⟨i0, hi, hz0, hz1, hz2⟩ := info_parts Tryd.infoEd
  refine callsIn_of_wp_marks Tryd.func62 rfl trivial ?_ rfl
  simp only [Tryd.ntmps62, List.size_toArray, List.length_cons, List.length_nil, Nat.reduceAdd, Nat.reduceSub, Array.replicate_succ, Array.replicate_zero, List.push_toArray, List.append_toArray, List.nil_append, List.cons_append]
  gi_wp2_with (refine ⟨trivial, ?_⟩; refine (edges_in (n - 1) _ _ _ _).mono ?_; rintro e w' ⟨rfl, rfl⟩)
  have hR0 := ((GB.new w 24 0 (.slice none 0 0)).alloc (.cells #[.int .i64 (m : Int), .slice none 0 0] 24)).alloc (.cells #[.slice A m c] 29)
  have hb0 := (GB.new (w.alloc (.cells #[.int .i64 0, .slice none 0 0] 24)) 24 m (.slice none 0 0)).alloc (.cells #[.slice A m c] 29)
  have hh0 := Boxed.new ((w.alloc (.cells #[.int .i64 0, .slice none 0 0] 24)).alloc (.cells #[.int .i64 (m : Int), .slice none 0 0] 24)) 29 (.slice A m c)
  obtain ⟨w3, hw3⟩ : ∃ w3, w3 = ((w.alloc (.cells #[.int .i64 0, .slice none 0 0] 24)).alloc (.cells #[.int .i64 (m : Int), .slice none 0 0] 24)).alloc (.cells #[.slice A m c] 29) := ⟨_, rfl⟩
  have hs3 : w3.heap.size = w.heap.size + 3 := by rw [hw3]; simp
  have hb3 : Below w.heap.size w w3 := by rw [hw3]; exact (((Below.refl _ _).alloc (Nat.le_refl _) _).alloc (by simp) _).alloc (by simp; omega) _
  rw [World.size_alloc] at hb0
  rw [World.size_alloc, World.size_alloc] at hh0
  rw [← hw3] at hR0 hb0 hh0 ⊢
  have hx3 := hx.below hb3
  have hT3 := hT.step hb3
  have hTn := hT.pos
  obtain ⟨gc, hgc⟩ : ∃ gc, gc = w.heap.size := ⟨_, rfl⟩
  rw [← hgc] at hR0 hb0 hh0 hs3 hx3 hTn ⊢
  have HGC := Lib.hid hgc
  have HS3 := Lib.hid hs3
  have hs3' : gc + 2 < w3.heap.size := by omega
  have HB3 := Lib.hid hb3
  clear hw3 hx hT hgc hs3 hb3
  have hI0 : CollG 24 38 (gc + 1) (gc + 1) m (edVals ([] : List (Ed m))).length (eVals (elI (edVals ([] : List (Ed m))))) (fun k => k = gc + 1) w3 ∧ Below (gc + 1) w3 w3 :=
    ⟨⟨_, hb0, World.ownsRow_nil _ _ _ _, rfl, fun b hb => by simp [Value.ownBlock] at hb⟩, Below.refl _ _⟩
  refine wpIn_rangeFunc_O rfl h1 (gf := 116) (lb := #[.pointer (some ⟨gc + 1 + 1, 0, none⟩)]) rfl trivial (enters_of Tryd.func116 (by kernel_rfl) rfl)
    (edges1_in (n - 1) (by omega) m hm (gc + 1 + 1) c (fun b => b < gc) A xss hl w3 hx3.toP (fun b hb => by omega) hh0.cell (by omega) hbits hroom hT3) (Keeps.refl _ _) (fun _ => rfl)
    (fun ys O W => CollG 24 38 (gc + 1) (gc + 1) m (edVals ys).length (eVals (elI (edVals ys))) O W ∧ Below (gc + 1) w3 W) (fun _ _ _ _ => False)
    ?stab (fun _ _ _ _ _ h _ => h.elim) (fun k => k = gc + 1) (fun k hk => by subst hk; exact ⟨by omega, fun h => by rcases h with h | h | h <;> omega⟩) (fun k hk => by rcases hk with h | h | h <;> omega) hI0
    (fun pre x a' O W => (CollG 24 38 (gc + 1) (gc + 1) m (edVals pre).length (eVals (elI (edVals pre))) O W ∧ Below (gc + 1) w3 W) ∧ ∃ q, O q ∧ q ≠ gc + 1 ∧ EBox W q x.1.1 x.1.2 ∧ a' = { tmps := #[.slice A m c, undef, .pointer (some ⟨gc, 0, none⟩), .pointer (some ⟨gc + 1, 0, none⟩), .pointer (some ⟨q, 0, none⟩), .slice A m c, .int .i64 (m : Int), .agg #[.int .i64 (m : Int), .slice none 0 0], .slice A m c, .func (.func 116) #[] #[.pointer (some ⟨gc + 1 + 1, 0, none⟩)], .agg #[.int .i64 (x.1.1 : Int), .int .i64 (x.1.2 : Int)], undef, undef, undef, undef, undef, undef, undef], defers := [] })
    ?stabx ?assign ?body ?done ?stop
  case stab =>
    rintro s O W W' ⟨h, hb⟩ hk
    exact ⟨h.keeps hk fun b hb => .inr hb, hb.trans (hk.below (by have := hb.size; omega) fun k hk => .inl (by omega))⟩
  case stabx =>
    rintro pre x a' s O W W' ⟨⟨h, hb⟩, q, hq, hne, hE, ha⟩ hk
    exact ⟨⟨h.keeps hk fun b hb => .inr hb, hb.trans (hk.below (by have := hb.size; omega) fun k hk => .inl (by omega))⟩, q, hq, hne, hE.keeps hk (.inr hq), ha⟩
  case assign =>
    rintro l pre x O W K ⟨⟨v, hv, hrow, hOB, hOv⟩, hBW⟩ hlen hsz htop hK
    have hE := EBox.new W x.1.1 x.1.2 38
    have hgl := hv.lt
    clear hI0 hR0 hb0 hh0
    gi_wp2
    refine hK _ (fun k => O k ∨ k = W.heap.size) _ ⟨(Keeps.refl _ W).alloc _, fun k hk => ?_, fun k hk => ?_⟩ ⟨⟨⟨v, hv.alloc _, hrow.alloc _, .inl hOB, fun b hb => .inl (hOv b hb)⟩, hBW.alloc (by have := hBW.size; omega) _⟩, W.heap.size, .inr rfl, by omega, hE, rfl⟩
    · rcases hk with hk | rfl
      · exact .inl hk
      · exact .inr (Nat.le_refl _)
    · rcases hk with hk | rfl
      · have := htop k hk; simp; omega
      · simp
  case body =>
    rintro l pre x a' O W ⟨⟨⟨v, hv, hrow, hOB, hOv⟩, hBW⟩, q, hq, hne, hE, rfl⟩ hlen hsz htop
    replace hlen : pre.length < m * 65536 := hlen
    have hcn := hv.n
    have hce := hv.e
    have hcx := hE.x
    have hcy := hE.y
    have hpl := edVals_len pre
    have hm2 : m * 65536 ≤ 13107200 := by omega
    have hp1 : (edVals pre).length + 1 ≤ maxLen := by unfold maxLen; omega
    have hp2 : ((edVals pre).length + 1) * 16 ≤ 140737488355328 := by omega
    have hp3 : gc + 1 ≤ (W.alloc (.cells #[.int .i64 (x.1.1 : Int), .int .i64 (x.1.2 : Int)] 38)).heap.size := by simp; omega
    have hp4 : gc + 1 ≤ W.heap.size := by omega
    have hql := World.block_lt_of_cell? W _ hcx
    clear hI0 hR0 hb0 hh0 hpl
    gi_wp2_with (gi_at_builtin; refine wpListIn_append_own_at _ rfl _ _ 22 rfl (gc + 1) 38 i0 (.agg #[.int .i64 0, .int .i64 0]) 2 16 Tryd.underlying22 hi hz0 hz1 hz2 rfl (by decide) _ _ _ rfl (hrow.alloc _) ⟨W.heap.size, 0, none⟩ 1 1 [.int .i64 (x.1.1 : Int), .int .i64 (x.1.2 : Int)] rfl rfl (cell_two_new _ _ _ _) (by simp [Value.oneCell']) hp1 hp2 hp3 ?_; intro v' w1 hown' hgrow _ hat; obtain ⟨g', cap', rfl⟩ := ownsRow_succ hown'; have hcs := CollG.step hv (by decide) hrow hp4 (by omega) hOB hOv hown' hgrow hat; have hv1 : GB 24 w1 (gc + 1) m v := (hv.alloc _).kept hgrow (hv.not_row (by decide) hrow); have hc1 := hv1.e; have hf1 := hv1.frozen 1)
    obtain ⟨q1, q2, q3⟩ := hcs
    rw [← eVals_snoc, ← elI_snoc, ← edVals_snoc] at q1
    have he : (edVals pre).length + 1 = (edVals (pre ++ [x])).length := by rw [edVals_snoc]; simp
    rw [he] at q1 q2 q3 ⊢
    exact ⟨_, q2, q1, hBW.trans q3⟩
  case done =>
    rintro D O xs W hD hOD hxs ⟨⟨v, hv, hrow, hOB, hOv⟩, hBW⟩ hK
    have hR : GB 24 W gc 0 (.slice none 0 0) := (hBW.block gc (Nat.lt_succ_self _)).trans hR0
    have hxlt := edVals_lt xs
    have helen := elist_len xss m hroom m (Nat.le_refl _)
    have hl2 : (elI (elist xss m)).length = (elist xss m).length := elI_len _
    rw [hxs] at hrow hxlt
    rw [← hl2] at hrow
    obtain ⟨Av, cv, rfl⟩ := own_any2 hrow
    have hcn := hv.n
    have hce := hv.e
    have hrn := hR.n
    have hre := hR.e
    have hrf0 := hR.frozen 0
    have hrf1 := hR.frozen 1
    have HXS := Lib.hid hxs
    have HL2 := Lib.hid hl2
    clear hI0 hR0 hb0 hh0 hxs hl2
    gi_wp2
    have hl2 := HL2.out
    have hGC := HGC.out
    have hS3 := HS3.out
    have hcD : D ≠ gc := by omega
    have hKf := (Below.heap_setCell (W.setCell ⟨gc, 0, none⟩ (.int .i64 (m : Int))) ⟨gc, 1, none⟩ (.slice Av (elI (elist xss m)).length cv) D hcD).trans ((Below.heap_setCell W ⟨gc, 0, none⟩ (.int .i64 (m : Int)) D hcD).trans hK)
    have hRf := (hR.set0 (m : Int)).set (.slice Av (elI (elist xss m)).length cv)
    have hrf := ownsRow_setCell_below (ownsRow_setCell_below hrow (a := ⟨gc, 0, none⟩) (Nat.lt_succ_self gc) (.int .i64 (m : Int))) (a := ⟨gc, 1, none⟩) (Nat.lt_succ_self gc) (.slice Av (elI (elist xss m)).length cv)
    have hbf : Below w.heap.size w ((W.setCell ⟨gc, 0, none⟩ (.int .i64 (m : Int))).setCell ⟨gc, 1, none⟩ (.slice Av (elI (elist xss m)).length cv)) := ((HB3.out.trans (hBW.mono (by omega))).setCell (p := ⟨gc, 0, none⟩) (by rw [hGC]; exact Nat.le_refl _) _).setCell (p := ⟨gc, 1, none⟩) (by rw [hGC]; exact Nat.le_refl _) _
    refine ⟨by simp, .inl ⟨_, _, rfl, run_takeDeferred hKf, ?_⟩⟩
    refine ⟨_, results_cell_row rfl _ _ gc 24 _ (0, 0) _ rfl (hRf.putObj (fun e => hcD e.symm) _) rfl rfl Tryd.infoGr, ?_⟩
    have hed := elI_ed (elist xss m) m hm hxlt
    have hfin := ownsRow_putObj hrf (.deferred none) hKf rfl
    refine ⟨_, _, rfl, own_rdE hfin (fun k => by have := (hed k).1; omega) (fun k => by have := (hed k).1; omega) (fun k => by have := (hed k).2; omega) (fun k => by have := (hed k).2; omega) (by omega), fun b hb => by have := own_base' hfin b hb; omega, hbf.trans (belowK_b (w := w) (Nat.le_refl _) _ D _ _ (by omega) hKf rfl rfl)⟩
  case stop =>
    rintro D c' O pre W _ _ _ h _
    exact h.elim
end Go.Proofs.YtaboafkpmgadmaaDoor
