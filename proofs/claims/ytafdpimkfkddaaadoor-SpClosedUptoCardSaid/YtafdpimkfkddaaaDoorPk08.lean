/-
  Contract of graph.fromSets: the graph with an edge from each node to those of its set.
  Contracts of graph.Closure and graph.Core.
  A term's graph is closed and does not go round. Plain mathematics.
  The law SpClosed, whole.
-/
import Derived.Test.YtafdpimkfkddaaaDoorPk07
import Derived.Laws.Rows
import Derived.Test.YtafdpimkfkddaaaDoorSpEd
import Derived.Test.YtafdpimkfkddaaaDoorSpSg
import Derived.Test.YtafdpimkfkddaaaDoorPk00
namespace Go.Proofs.YtafdpimkfkddaaaDoor
open Go.RowKit Go.Shelf
set_option maxRecDepth 100000

attribute [local go_sem] Oper.semAt_some

theorem Tryd.infoEd : (Tryd.prog.info? 56).map (fun i => (i.zero, i.size, i.bytes)) = some (some (.agg #[.int .i64 0, .int .i64 0]), 2, 16) := by kernel_rfl
theorem Tryd.infoGr : (Tryd.prog.info? 29).map (·.size) = some 2 := by kernel_rfl

/-- an edge list's cells -/
def eVals (l : List (Int × Int)) : List Value := l.flatMap fun e => [.int .i64 e.1, .int .i64 e.2]
theorem eVals_snoc (l : List (Int × Int)) (x y : Int) : eVals (l ++ [(x, y)]) = eVals l ++ [.int .i64 x, .int .i64 y] := by simp [eVals]
theorem eVals_len (l : List (Int × Int)) : (eVals l).length = l.length * 2 := by
  induction l with
  | nil => rfl
  | cons a l ih => simp only [eVals, List.flatMap_cons, List.length_append, List.length_cons, List.length_nil] at ih ⊢; omega
theorem eVals_at (l : List (Int × Int)) (k : Nat) (hk : k < l.length) : (eVals l)[k * 2]? = some (.int .i64 (ed l k).1) ∧ (eVals l)[k * 2 + 1]? = some (.int .i64 (ed l k).2) := by
  induction l generalizing k with
  | nil => simp at hk
  | cons a l ih =>
    cases k with
    | zero => exact ⟨rfl, rfl⟩
    | succ k =>
      have h := ih k (by simpa using hk)
      have e1 : (k + 1) * 2 = k * 2 + 1 + 1 := by omega
      rw [e1]
      exact ⟨h.1, h.2⟩
def elI (l : List (Nat × Nat)) : List (Int × Int) := l.map fun e => ((e.1 : Int), (e.2 : Int))
theorem elI_snoc (l : List (Nat × Nat)) (x : Nat × Nat) : elI (l ++ [x]) = elI l ++ [((x.1 : Int), (x.2 : Int))] := by simp [elI]
theorem elI_len (l : List (Nat × Nat)) : (elI l).length = l.length := by simp [elI]

/-- block B holds a graph -/
def GB (T : TypeId) (W : World) (B : Nat) (x : Int) (v : Value) : Prop := W.heap[B]? = some (.cells #[.int .i64 x, v] T (0, 0))
section
variable {T : TypeId} {W W' : World} {B : Nat} {x : Int} {v : Value}
theorem GB.lt (h : GB T W B x v) : B < W.heap.size := (Array.getElem?_eq_some_iff.1 h).1
theorem GB.n (h : GB T W B x v) : W.cell? ⟨B, 0, none⟩ = some (.int .i64 x) := by simp [World.cell?, show W.heap[B]? = _ from h]
theorem GB.e (h : GB T W B x v) : W.cell? ⟨B, 1, none⟩ = some v := by simp [World.cell?, show W.heap[B]? = _ from h]
theorem GB.frozen (h : GB T W B x v) (o : Nat) : W.frozen? ⟨B, o, none⟩ = false := by simp [World.frozen?, show W.heap[B]? = _ from h]
theorem GB.new (W : World) (T : TypeId) (x : Int) (v : Value) : GB T (W.alloc (.cells #[.int .i64 x, v] T)) W.heap.size x v := World.alloc_heap_new W _
theorem GB.kept {row : Option Nat} (h : GB T W B x v) (hg : W.grownBy W' row) (hne : some B ≠ row) : GB T W' B x v := (hg.block B h.lt hne).trans h
theorem GB.alloc (h : GB T W B x v) (o : Obj) : GB T (W.alloc o) B x v := h.kept (World.grownBy_alloc W o none) (by simp)
theorem GB.set (v' : Value) (h : GB T W B x v) : GB T (W.setCell ⟨B, 1, none⟩ v') B x v' := by
  obtain ⟨hlt, hk⟩ := Array.getElem?_eq_some_iff.1 h
  show (W.heap.modify B _)[B]? = _
  rw [Array.getElem?_eq_getElem (by rw [Array.size_modify]; exact hlt), Array.getElem_modify_self, hk]
  rfl
theorem GB.set0 (x' : Int) (h : GB T W B x v) : GB T (W.setCell ⟨B, 0, none⟩ (.int .i64 x')) B x' v := by
  obtain ⟨hlt, hk⟩ := Array.getElem?_eq_some_iff.1 h
  show (W.heap.modify B _)[B]? = _
  rw [Array.getElem?_eq_getElem (by rw [Array.size_modify]; exact hlt), Array.getElem_modify_self, hk]
  rfl
theorem GB.putObj (h : GB T W B x v) {D : Nat} (hne : B ≠ D) (o : Obj) : GB T (W.putObj D o) B x v := (World.putObj_heap_other hne).trans h
theorem GB.not_row (h : GB T W B x v) {e : TypeId} (hte : T ≠ e) {base size k : Nat} {u : Value} {xs : List Value} (hr : W.ownsRow base e size u k xs) : some B ≠ u.ownBlock := by
  rcases hr.2 with ⟨rfl, _⟩ | ⟨g, cap, cur, rfl, _, hgb, _⟩
  · simp [Value.ownBlock]
  · intro e'
    obtain rfl : B = g := by simpa [Value.ownBlock] using e'
    have := (show W.heap[B]? = _ from h).symm.trans hgb
    simp at this
    exact hte this.2
end

/-- the box Bg holds a graph whose edges are owned; both are the body's -/
def CollG (T E : TypeId) (n₀ Bg : Nat) (x : Int) (k : Nat) (xs : List Value) (O : Nat → Prop) (W : World) : Prop :=
  ∃ v, GB T W Bg x v ∧ W.ownsRow n₀ E 2 v k xs ∧ O Bg ∧ ∀ b, v.ownBlock = some b → O b
theorem CollG.keeps {T E : TypeId} {n₀ Bg k : Nat} {x : Int} {xs : List Value} {O p : Nat → Prop} {W W' : World} (h : CollG T E n₀ Bg x k xs O W) (hk : Keeps p W W') (hp : ∀ b, O b → p b) : CollG T E n₀ Bg x k xs O W' := by
  obtain ⟨v, h1, h2, h3, h4⟩ := h
  exact ⟨v, (hk.block Bg h1.lt (hp Bg h3)).trans h1, ownsRow_keeps h2 hk fun b hb => hp b (h4 b hb), h3, h4⟩
theorem CollG.mono {T E : TypeId} {n₀ Bg k : Nat} {x : Int} {xs : List Value} {O O' : Nat → Prop} {W : World} (h : CollG T E n₀ Bg x k xs O W) (hp : ∀ b, O b → O' b) : CollG T E n₀ Bg x k xs O' W := by
  obtain ⟨v, h1, h2, h3, h4⟩ := h
  exact ⟨v, h1, h2, hp _ h3, fun b hb => hp b (h4 b hb)⟩
/-- behind an append and the store of its answer -/
theorem CollG.step {T E : TypeId} {n₀ Bg k m : Nat} {x : Int} {xs ys : List Value} {O : Nat → Prop} {W w1 : World} {v v' : Value} {tmp : Obj}
    (hv : GB T W Bg x v) (hTE : T ≠ E) (hrow : W.ownsRow n₀ E 2 v k xs) (hn₀ : n₀ ≤ W.heap.size) (hB : n₀ ≤ Bg) (hO : O Bg) (hOv : ∀ b, v.ownBlock = some b → O b)
    (hown' : w1.ownsRow n₀ E 2 v' m ys) (hgrow : (W.alloc tmp).grownBy w1 v.ownBlock) (hat : v'.ownBlock = v.ownBlock ∨ v'.ownBlock = some (W.alloc tmp).heap.size) :
    CollG T E n₀ Bg x m ys (fun b => b = Bg ∨ v'.ownBlock = some b) (w1.setCell ⟨Bg, 1, none⟩ v') ∧ StepO O (fun b => b = Bg ∨ v'.ownBlock = some b) W (w1.setCell ⟨Bg, 1, none⟩ v') ∧ Below n₀ W (w1.setCell ⟨Bg, 1, none⟩ v') := by
  have hv1 : GB T w1 Bg x v := (hv.alloc tmp).kept hgrow (hv.not_row hTE hrow)
  have h2 := hv1.set v'
  have h3 := hown'.kept (grownBy_setCell w1 ⟨Bg, 1, none⟩ v') (.inr (hv1.not_row hTE hown').symm)
  refine ⟨⟨v', h2, h3, .inl rfl, fun b hb => .inr hb⟩, ⟨?_, fun b hb => ?_, fun b hb => ?_⟩, ?_⟩
  · exact (((Keeps.refl _ W).alloc tmp).grown hgrow (fun r hr _ h => h (hOv r hr))).setCell (q := ⟨Bg, 1, none⟩) (fun _ h => h hO) v'
  · rcases hb with rfl | hb
    · exact .inl hO
    · rcases hat with h | h
      · exact .inl (hOv b (h ▸ hb))
      · rw [h] at hb
        injection hb with hb
        exact .inr (by rw [← hb]; simp)
  · rcases hb with rfl | hb
    · exact h2.lt
    · exact own_block_lt h3 b hb
  · exact (((Below.refl n₀ W).alloc hn₀ tmp).grown hgrow (by simp; omega) fun j ej => own_base' hrow j ej).setCell (p := ⟨Bg, 1, none⟩) hB v'

theorem cell_two_new (w : World) (x y : Value) (t : TypeId) : ∀ j u, [x, y][j]? = some u → (w.alloc (.cells #[x, y] t)).cell? ((⟨w.heap.size, 0, none⟩ : Addr).add j) = some u := by
  intro j u hj
  match j, hj with
  | 0, hj => simp at hj; subst hj; simp [Addr.add]
  | 1, hj => simp at hj; subst hj; simp [Addr.add]

theorem own_any2 {w : World} {base n : Nat} {e : TypeId} {v : Value} {xs : List Value} (h : w.ownsRow base e 2 v n xs) : ∃ A cap, v = .slice A n cap := by
  rcases h.2 with ⟨rfl, rfl⟩ | ⟨g, cap, cur, hv, _⟩
  · exact ⟨_, _, rfl⟩
  · exact ⟨_, _, hv⟩
theorem own_rdE {w : World} {base c : Nat} {e : TypeId} {A : Option Addr} {es : List (Int × Int)} (h : w.ownsRow base e 2 (.slice A es.length c) es.length (eVals es))
    (hlo1 : ∀ k, -9223372036854775808 ≤ (ed es k).1) (hhi1 : ∀ k, (ed es k).1 ≤ 9223372036854775807) (hlo2 : ∀ k, -9223372036854775808 ≤ (ed es k).2) (hhi2 : ∀ k, (ed es k).2 ≤ 9223372036854775807) (hroom : es.length ≤ 1099511627776) : RdE w w.heap.size A es := by
  refine ⟨hlo1, hhi1, hlo2, hhi2, hroom, fun hn => ?_⟩
  rcases h.2 with ⟨_, h0⟩ | ⟨g, cap, cur, hv, hb, hg, _⟩
  · omega
  · injection hv with hA _ hc
    subst hA
    subst hc
    refine ⟨g, 0, rfl, (Array.getElem?_eq_some_iff.1 hg).1, fun k hk => ?_⟩
    rw [Nat.zero_add, h.cellAt (k * 2) (by omega), h.cellAt (k * 2 + 1) (by omega)]
    exact eVals_at es k hk
theorem elI_ed (l : List (Nat × Nat)) (m : Nat) (hm : m ≤ 200) (h : ∀ e ∈ l, e.1 < m ∧ e.2 < m) (k : Nat) : (0 ≤ (ed (elI l) k).1 ∧ (ed (elI l) k).1 ≤ 200) ∧ 0 ≤ (ed (elI l) k).2 ∧ (ed (elI l) k).2 ≤ 200 := by
  unfold ed elI
  rw [List.getD_eq_getElem?_getD, List.getElem?_map]
  cases he : l[k]? with
  | none => simp
  | some e =>
    have hmem := h e (List.mem_of_getElem? he)
    simp
    omega
theorem edVals_lt {m : Nat} (ys : List (Ed m)) : ∀ e ∈ edVals ys, e.1 < m ∧ e.2 < m := by
  intro e he
  unfold edVals at he
  obtain ⟨y, _, rfl⟩ := List.mem_map.1 he
  exact y.2

set_option maxHeartbeats 2000000 in
theorem fromSets_in (n : Nat) (hn : 8 ≤ n) (m : Nat) (hm : m ≤ 200) (A : Option Addr) (c : Nat) (xss : List (List Nat)) (hl : xss.length = m) (w : World) (hx : RdUU w w.heap.size A xss)
    (hbits : ∀ k, k < m → ∀ j, bitB (st xss k) j = true → j < m) (hroom : ∀ k, k < m → (st xss k).length ≤ 1024) (hT : Tab w) :
    CallsIn Fence.wide n Tryd.prog 26 #[.slice A m c] w fun e w' => ∃ A1 c1, e = .returned (.agg #[.int .i64 (m : Int), .slice A1 (elI (elist xss m)).length c1]) ∧ RdE w' w'.heap.size A1 (elI (elist xss m)) ∧ (∀ b, (Value.slice A1 (elI (elist xss m)).length c1).ownBlock = some b → w.heap.size ≤ b) ∧ Below w.heap.size w w' := by
  have h1 : 1 ≤ n := by omega
  obtain ⟨i0, hi, hz0, hz1, hz2⟩ := info_parts Tryd.infoEd
  refine callsIn_of_wp_marks Tryd.func26 rfl trivial ?_ rfl
  simp only [Tryd.ntmps26, List.size_toArray, List.length_cons, List.length_nil, Nat.reduceAdd, Nat.reduceSub, Array.replicate_succ, Array.replicate_zero, List.push_toArray, List.append_toArray, List.nil_append, List.cons_append]
  gi_wp2_with (refine ⟨trivial, ?_⟩; refine (edges_in (n - 1) _ _ _ _).mono ?_; rintro e w' ⟨rfl, rfl⟩)
  have hR0 := ((GB.new w 29 0 (.slice none 0 0)).alloc (.cells #[.int .i64 (m : Int), .slice none 0 0] 29)).alloc (.cells #[.slice A m c] 73)
  have hb0 := (GB.new (w.alloc (.cells #[.int .i64 0, .slice none 0 0] 29)) 29 m (.slice none 0 0)).alloc (.cells #[.slice A m c] 73)
  have hh0 := Boxed.new ((w.alloc (.cells #[.int .i64 0, .slice none 0 0] 29)).alloc (.cells #[.int .i64 (m : Int), .slice none 0 0] 29)) 73 (.slice A m c)
  obtain ⟨w3, hw3⟩ : ∃ w3, w3 = ((w.alloc (.cells #[.int .i64 0, .slice none 0 0] 29)).alloc (.cells #[.int .i64 (m : Int), .slice none 0 0] 29)).alloc (.cells #[.slice A m c] 73) := ⟨_, rfl⟩
  have hs3 : w3.heap.size = w.heap.size + 3 := by rw [hw3]; simp
  have hb3 : Below w.heap.size w w3 := by rw [hw3]; exact (((Below.refl _ _).alloc (Nat.le_refl _) _).alloc (by simp) _).alloc (by simp; omega) _
  rw [World.size_alloc] at hb0
  rw [World.size_alloc, World.size_alloc] at hh0
  rw [← hw3] at hR0 hb0 hh0 ⊢
  have hx3 := hx.below hb3
  have hT3 := hT.step hb3
  have hTn := hT.pos
  obtain ⟨gc, hgc⟩ : ∃ gc, gc = w.heap.size := ⟨_, rfl⟩
  rw [← hgc] at hR0 hb0 hh0 hs3 hx3 hTn ⊢
  have HGC := Lib.hid hgc
  have HS3 := Lib.hid hs3
  have hs3' : gc + 2 < w3.heap.size := by omega
  have HB3 := Lib.hid hb3
  clear hw3 hx hT hgc hs3 hb3
  have hI0 : CollG 29 56 (gc + 1) (gc + 1) m (edVals ([] : List (Ed m))).length (eVals (elI (edVals ([] : List (Ed m))))) (fun k => k = gc + 1) w3 ∧ Below (gc + 1) w3 w3 :=
    ⟨⟨_, hb0, World.ownsRow_nil _ _ _ _, rfl, fun b hb => by simp [Value.ownBlock] at hb⟩, Below.refl _ _⟩
  refine wpIn_rangeFunc_O rfl h1 (gf := 45) (lb := #[.pointer (some ⟨gc + 1 + 1, 0, none⟩)]) rfl trivial (enters_of Tryd.func45 (by kernel_rfl) rfl)
    (edges1_in (n - 1) (by omega) m hm (gc + 1 + 1) c (fun b => b < gc) A xss hl w3 hx3.toP (fun b hb => by omega) hh0.cell (by omega) hbits hroom hT3) (Keeps.refl _ _) (fun _ => rfl)
    (fun ys O W => CollG 29 56 (gc + 1) (gc + 1) m (edVals ys).length (eVals (elI (edVals ys))) O W ∧ Below (gc + 1) w3 W) (fun _ _ _ _ => False)
    ?stab (fun _ _ _ _ _ h _ => h.elim) (fun k => k = gc + 1) (fun k hk => by subst hk; exact ⟨by omega, fun h => by rcases h with h | h | h <;> omega⟩) (fun k hk => by rcases hk with h | h | h <;> omega) hI0
    (fun pre x a' O W => (CollG 29 56 (gc + 1) (gc + 1) m (edVals pre).length (eVals (elI (edVals pre))) O W ∧ Below (gc + 1) w3 W) ∧ ∃ q, O q ∧ q ≠ gc + 1 ∧ EBox W q x.1.1 x.1.2 ∧ a' = { tmps := #[.slice A m c, undef, .pointer (some ⟨gc, 0, none⟩), .pointer (some ⟨gc + 1, 0, none⟩), .pointer (some ⟨q, 0, none⟩), .slice A m c, .int .i64 (m : Int), .agg #[.int .i64 (m : Int), .slice none 0 0], .slice A m c, .func (.func 45) #[] #[.pointer (some ⟨gc + 1 + 1, 0, none⟩)], .agg #[.int .i64 (x.1.1 : Int), .int .i64 (x.1.2 : Int)], undef, undef, undef, undef, undef, undef, undef], defers := [] })
    ?stabx ?assign ?body ?done ?stop
  case stab =>
    rintro s O W W' ⟨h, hb⟩ hk
    exact ⟨h.keeps hk fun b hb => .inr hb, hb.trans (hk.below (by have := hb.size; omega) fun k hk => .inl (by omega))⟩
  case stabx =>
    rintro pre x a' s O W W' ⟨⟨h, hb⟩, q, hq, hne, hE, ha⟩ hk
    exact ⟨⟨h.keeps hk fun b hb => .inr hb, hb.trans (hk.below (by have := hb.size; omega) fun k hk => .inl (by omega))⟩, q, hq, hne, hE.keeps hk (.inr hq), ha⟩
  case assign =>
    rintro l pre x O W K ⟨⟨v, hv, hrow, hOB, hOv⟩, hBW⟩ hlen hsz htop hK
    have hE := EBox.new W x.1.1 x.1.2 56
    have hgl := hv.lt
    clear hI0 hR0 hb0 hh0
    gi_wp2
    refine hK _ (fun k => O k ∨ k = W.heap.size) _ ⟨(Keeps.refl _ W).alloc _, fun k hk => ?_, fun k hk => ?_⟩ ⟨⟨⟨v, hv.alloc _, hrow.alloc _, .inl hOB, fun b hb => .inl (hOv b hb)⟩, hBW.alloc (by have := hBW.size; omega) _⟩, W.heap.size, .inr rfl, by omega, hE, rfl⟩
    · rcases hk with hk | rfl
      · exact .inl hk
      · exact .inr (Nat.le_refl _)
    · rcases hk with hk | rfl
      · have := htop k hk; simp; omega
      · simp
  case body =>
    rintro l pre x a' O W ⟨⟨⟨v, hv, hrow, hOB, hOv⟩, hBW⟩, q, hq, hne, hE, rfl⟩ hlen hsz htop
    replace hlen : pre.length < m * 65536 := hlen
    have hcn := hv.n
    have hce := hv.e
    have hcx := hE.x
    have hcy := hE.y
    have hpl := edVals_len pre
    have hm2 : m * 65536 ≤ 13107200 := by omega
    have hp1 : (edVals pre).length + 1 ≤ maxLen := by unfold maxLen; omega
    have hp2 : ((edVals pre).length + 1) * 16 ≤ 140737488355328 := by omega
    have hp3 : gc + 1 ≤ (W.alloc (.cells #[.int .i64 (x.1.1 : Int), .int .i64 (x.1.2 : Int)] 56)).heap.size := by simp; omega
    have hp4 : gc + 1 ≤ W.heap.size := by omega
    have hql := World.block_lt_of_cell? W _ hcx
    clear hI0 hR0 hb0 hh0 hpl
    gi_wp2_with (gi_at_builtin; refine wpListIn_append_own_at _ rfl _ _ 27 rfl (gc + 1) 56 i0 (.agg #[.int .i64 0, .int .i64 0]) 2 16 Tryd.underlying27 hi hz0 hz1 hz2 rfl (by decide) _ _ _ rfl (hrow.alloc _) ⟨W.heap.size, 0, none⟩ 1 1 [.int .i64 (x.1.1 : Int), .int .i64 (x.1.2 : Int)] rfl rfl (cell_two_new _ _ _ _) (by simp [Value.oneCell']) hp1 hp2 hp3 ?_; intro v' w1 hown' hgrow _ hat; obtain ⟨g', cap', rfl⟩ := ownsRow_succ hown'; have hcs := CollG.step hv (by decide) hrow hp4 (by omega) hOB hOv hown' hgrow hat; have hv1 : GB 29 w1 (gc + 1) m v := (hv.alloc _).kept hgrow (hv.not_row (by decide) hrow); have hc1 := hv1.e; have hf1 := hv1.frozen 1)
    obtain ⟨q1, q2, q3⟩ := hcs
    rw [← eVals_snoc, ← elI_snoc, ← edVals_snoc] at q1
    have he : (edVals pre).length + 1 = (edVals (pre ++ [x])).length := by rw [edVals_snoc]; simp
    rw [he] at q1 q2 q3 ⊢
    exact ⟨_, q2, q1, hBW.trans q3⟩
  case done =>
    rintro D O xs W hD hOD hxs ⟨⟨v, hv, hrow, hOB, hOv⟩, hBW⟩ hK
    have hR : GB 29 W gc 0 (.slice none 0 0) := (hBW.block gc (Nat.lt_succ_self _)).trans hR0
    have hxlt := edVals_lt xs
    have helen := elist_len xss m hroom m (Nat.le_refl _)
    have hl2 : (elI (elist xss m)).length = (elist xss m).length := elI_len _
    rw [hxs] at hrow hxlt
    rw [← hl2] at hrow
    obtain ⟨Av, cv, rfl⟩ := own_any2 hrow
    have hcn := hv.n
    have hce := hv.e
    have hrn := hR.n
    have hre := hR.e
    have hrf0 := hR.frozen 0
    have hrf1 := hR.frozen 1
    have HXS := Lib.hid hxs
    have HL2 := Lib.hid hl2
    clear hI0 hR0 hb0 hh0 hxs hl2
    gi_wp2
    have hl2 := HL2.out
    have hGC := HGC.out
    have hS3 := HS3.out
    have hcD : D ≠ gc := by omega
    have hKf := (Below.heap_setCell (W.setCell ⟨gc, 0, none⟩ (.int .i64 (m : Int))) ⟨gc, 1, none⟩ (.slice Av (elI (elist xss m)).length cv) D hcD).trans ((Below.heap_setCell W ⟨gc, 0, none⟩ (.int .i64 (m : Int)) D hcD).trans hK)
    have hRf := (hR.set0 (m : Int)).set (.slice Av (elI (elist xss m)).length cv)
    have hrf := ownsRow_setCell_below (ownsRow_setCell_below hrow (a := ⟨gc, 0, none⟩) (Nat.lt_succ_self gc) (.int .i64 (m : Int))) (a := ⟨gc, 1, none⟩) (Nat.lt_succ_self gc) (.slice Av (elI (elist xss m)).length cv)
    have hbf : Below w.heap.size w ((W.setCell ⟨gc, 0, none⟩ (.int .i64 (m : Int))).setCell ⟨gc, 1, none⟩ (.slice Av (elI (elist xss m)).length cv)) := ((HB3.out.trans (hBW.mono (by omega))).setCell (p := ⟨gc, 0, none⟩) (by rw [hGC]; exact Nat.le_refl _) _).setCell (p := ⟨gc, 1, none⟩) (by rw [hGC]; exact Nat.le_refl _) _
    refine ⟨by simp, .inl ⟨_, _, rfl, run_takeDeferred hKf, ?_⟩⟩
    refine ⟨_, results_cell_row rfl _ _ gc 29 _ (0, 0) _ rfl (hRf.putObj (fun e => hcD e.symm) _) rfl rfl Tryd.infoGr, ?_⟩
    have hed := elI_ed (elist xss m) m hm hxlt
    have hfin := ownsRow_putObj hrf (.deferred none) hKf rfl
    refine ⟨_, _, rfl, own_rdE hfin (fun k => by have := (hed k).1; omega) (fun k => by have := (hed k).1; omega) (fun k => by have := (hed k).2; omega) (fun k => by have := (hed k).2; omega) (by omega), fun b hb => by have := own_base' hfin b hb; omega, hbf.trans (belowK_b (w := w) (Nat.le_refl _) _ D _ _ (by omega) hKf rfl rfl)⟩
  case stop =>
    rintro D c' O pre W _ _ _ h _
    exact h.elim
end Go.Proofs.YtafdpimkfkddaaaDoor

namespace Go.Proofs.YtafdpimkfkddaaaDoor
open Go.RowKit Go.Shelf
set_option maxRecDepth 100000

theorem results_row_tmp {P : Program} {fn : Func} {p u : Tmp} {ty : TypeId} (h : fn.results = #[.cell p ty, .tmp u]) (tmps : Array Value) (w : World) (g : Nat) (t : TypeId) (cs : Array Value) (fr : Nat × Nat) (d : TypeDesc)
    (hp : tmps.getD p undef = .pointer (some ⟨g, 0, none⟩)) (hg : w.heap[g]? = some (.cells cs t fr))
    (hu : P.underlying ty = some d) (hd : (match d with | .struct _ | .array _ _ => true | _ => false) = true) (hi : (P.info? ty).map (·.size) = some cs.size) :
    (results fn tmps).run P w = .ok (.tuple #[.agg cs, tmps.getD u undef]) w := by
  have hp' : tmps[p]?.getD undef = .pointer (some ⟨g, 0, none⟩) := by simpa using hp
  simp [results, h, hp', asAddr, run_loadVar_row w g t ty cs fr d hg hu hd hi]

theorem errn_split {N : Int} {es : List (Int × Int)} (h : errn N es = 0) : ∃ m : Nat, N = (m : Int) ∧ inR m es = true ∧ (ordr m es).length = m := by
  unfold errn at h
  split at h
  · rename_i hin
    have hm := okN_of hin
    obtain ⟨m, rfl⟩ : ∃ m : Nat, N = (m : Int) := ⟨N.toNat, by omega⟩
    rw [Int.toNat_natCast] at h
    have := ordr_le m es
    refine ⟨m, rfl, hin, ?_⟩
    split at h
    · omega
    · omega
  · omega


theorem rdE_nil (w : World) (B : Nat) (A : Option Addr) : RdE w B A [] := ⟨by simp [ed], by simp [ed], by simp [ed], by simp [ed], by simp, fun h => by simp at h⟩
theorem rdUU_nil (w : World) (B : Nat) (A : Option Addr) : RdUU w B A [] := ⟨by simp, fun _ => none, fun _ => 0, fun h => by simp at h, fun k h => by simp at h⟩

theorem RdE.set {w : World} {B n c : Nat} {A : Option Addr} {es : List (Int × Int)} (h : RdE w B A es) {p : Addr} (hp : (Value.slice A n c).ownBlock ≠ some p.block) (v : Value) : RdE (w.setCell p v) B A es :=
  ⟨h.lo1, h.hi1, h.lo2, h.hi2, h.room, fun hn => by
    obtain ⟨b, off, hA, hb, hc⟩ := h.rd hn
    have hne : p.block ≠ b := fun e => hp (by rw [hA, e]; rfl)
    exact ⟨b, off, hA, hb, fun k hk => ⟨(World.cell?_setCell_far w p _ v hne).trans (hc k hk).1, (World.cell?_setCell_far w p _ v hne).trans (hc k hk).2⟩⟩⟩

/-- what follows each node -/
def behs (m : Nat) (es : List (Int × Int)) : List (List Nat) := (List.range m).map (beh m es)
theorem behs_len (m : Nat) (es : List (Int × Int)) : (behs m es).length = m := by simp [behs]
theorem st_behs {m k : Nat} (es : List (Int × Int)) (h : k < m) : st (behs m es) k = beh m es k := st_map _ _ _ h
theorem behs_bits {m : Nat} {es : List (Int × Int)} (h : inR m es = true) : ∀ k, k < m → ∀ j, bitB (st (behs m es) k) j = true → j < m := fun k hk j hj => by
  rw [st_behs _ hk, beh_bit h] at hj
  exact (fw_lt h hj).2
theorem behs_room (m : Nat) (es : List (Int × Int)) : ∀ k, k < m → (st (behs m es) k).length ≤ 1024 := fun k hk => by rw [st_behs _ hk]; exact beh_len _ _ _
theorem mem_beh_lt {m : Nat} {es : List (Int × Int)} (h : inR m es = true) (k : Nat) : ∀ j, j ∈ mem (beh m es k) → j < m := fun j hj => by
  rw [mem_iff, beh_bit h] at hj
  exact (fw_lt h hj).2
/-- what follows a node at once -/
def corS (m : Nat) (es : List (Int × Int)) (k : Nat) : List Nat := mrg lessN (beh m es k) (unionL (behs m es) (mem (beh m es k)))
def cors (m : Nat) (es : List (Int × Int)) : List (List Nat) := (List.range m).map (corS m es)
theorem cors_len (m : Nat) (es : List (Int × Int)) : (cors m es).length = m := by simp [cors]
theorem st_cors {m k : Nat} (es : List (Int × Int)) (h : k < m) : st (cors m es) k = corS m es k := st_map _ _ _ h
theorem behU_len {m : Nat} {es : List (Int × Int)} (h : inR m es = true) (k : Nat) : (unionL (behs m es) (mem (beh m es k))).length ≤ 1024 := unionL_len _ _ fun j hj => behs_room m es j (mem_beh_lt h k j hj)
theorem corS_len {m : Nat} {es : List (Int × Int)} (h : inR m es = true) (k : Nat) : (corS m es k).length ≤ 1024 := by
  have h1 := mrg_le lessN (beh m es k) (unionL (behs m es) (mem (beh m es k)))
  have h2 := beh_len m es k
  have h3 := behU_len h k
  unfold corS
  omega
theorem corS_bit {m : Nat} {es : List (Int × Int)} (h : inR m es = true) (k j : Nat) : bitB (corS m es k) j = (fw (gR es) m k j && !((List.range m).any fun c => fw (gR es) m k c && fw (gR es) m c j)) := by
  unfold corS
  rw [less_bit _ _ (unionL_ws _ _ fun c hc => by rw [st_behs _ (mem_beh_lt h k c hc)]; exact beh_ws _ _ _), beh_bit h, union_bit]
  congr 2
  rw [Bool.eq_iff_iff, List.any_eq_true, List.any_eq_true]
  constructor
  · rintro ⟨c, hc, e⟩
    have hlt := mem_beh_lt h k c hc
    rw [st_behs _ hlt, beh_bit h] at e
    rw [mem_iff, beh_bit h] at hc
    exact ⟨c, List.mem_range.2 hlt, by rw [hc, e]; rfl⟩
  · rintro ⟨c, hc, e⟩
    rw [Bool.and_eq_true] at e
    refine ⟨c, by rw [mem_iff, beh_bit h]; exact e.1, ?_⟩
    rw [st_behs _ (List.mem_range.1 hc), beh_bit h]
    exact e.2
theorem cors_bits {m : Nat} {es : List (Int × Int)} (h : inR m es = true) : ∀ k, k < m → ∀ j, bitB (st (cors m es) k) j = true → j < m := fun k hk j hj => by
  rw [st_cors _ hk, corS_bit h, Bool.and_eq_true] at hj
  exact (fw_lt h hj.1).2
theorem cors_room {m : Nat} {es : List (Int × Int)} (h : inR m es = true) : ∀ k, k < m → (st (cors m es) k).length ≤ 1024 := fun k hk => by rw [st_cors _ hk]; exact corS_len h k

/-- the graph of the answer: its nodes, and its edges -/
def nG (N : Int) (es : List (Int × Int)) : Int := if errn N es = 0 then N else 0
def behG (N : Int) (es : List (Int × Int)) : List (List Nat) := if errn N es = 0 then behs N.toNat es else []
def clsG (N : Int) (es : List (Int × Int)) : List (Int × Int) := if errn N es = 0 then elI (elist (behs N.toNat es) N.toNat) else []
def corG (N : Int) (es : List (Int × Int)) : List (Int × Int) := if errn N es = 0 then elI (elist (cors N.toNat es) N.toNat) else []

theorem behind_any (A : Option Addr) (c : Nat) (N : Int) (es : List (Int × Int)) (w : World) (he : RdE w w.heap.size A es) (hT : Tab w) :
    Calls Tryd.prog 25 #[.agg #[.int .i64 N, .slice A es.length c]] w fun e w' => ∃ A1 c1, e = .returned (.tuple #[.slice A1 (behG N es).length c1, .int .i64 (errn N es)]) ∧ RdUU w' w'.heap.size A1 (behG N es) ∧ Below w.heap.size w w' := by
  by_cases hE : errn N es = 0
  · obtain ⟨m, rfl, hin, hfull⟩ := errn_split hE
    refine (callsIn_wide.1 (behind_in 14 (Nat.le_refl _) A c m es w he hin hfull hT)).mono ?_
    rintro e w' ⟨A1, rfl, h1, h2⟩
    have hb : behG m es = behs m es := by unfold behG; rw [if_pos hE, Int.toNat_natCast]
    rw [hb, hE, behs_len]
    exact ⟨A1, m, rfl, h1, h2⟩
  · refine (behind_no A c N es w he hT hE).mono ?_
    rintro e w' ⟨rfl, h2⟩
    have hb : behG N es = [] := by unfold behG; rw [if_neg hE]
    rw [hb]
    exact ⟨none, 0, rfl, rdUU_nil _ _ _, h2⟩
theorem fromSets_any (m : Nat) (hm : m ≤ 200) (A : Option Addr) (c : Nat) (xss : List (List Nat)) (hl : xss.length = m) (w : World) (hx : RdUU w w.heap.size A xss)
    (hbits : ∀ k, k < m → ∀ j, bitB (st xss k) j = true → j < m) (hroom : ∀ k, k < m → (st xss k).length ≤ 1024) (hT : Tab w) :
    Calls Tryd.prog 26 #[.slice A m c] w fun e w' => ∃ A1 c1, e = .returned (.agg #[.int .i64 (m : Int), .slice A1 (elI (elist xss m)).length c1]) ∧ RdE w' w'.heap.size A1 (elI (elist xss m)) ∧ (∀ b, (Value.slice A1 (elI (elist xss m)).length c1).ownBlock = some b → w.heap.size ≤ b) ∧ Below w.heap.size w w' :=
  callsIn_wide.1 (fromSets_in 8 (Nat.le_refl _) m hm A c xss hl w hx hbits hroom hT)

theorem closure_any (A : Option Addr) (c : Nat) (N : Int) (es : List (Int × Int)) (w : World) (he : RdE w w.heap.size A es) (hT : Tab w) :
    Calls Tryd.prog 13 #[.agg #[.int .i64 N, .slice A es.length c]] w fun e w' => ∃ A1 c1, e = .returned (.tuple #[.agg #[.int .i64 (nG N es), .slice A1 (clsG N es).length c1], .int .i64 (errn N es)]) ∧ RdE w' w'.heap.size A1 (clsG N es) ∧ Below w.heap.size w w' := by
  go_enter Tryd.func13, Tryd.ntmps13
  go_wp2_with fail
  have hR0 := GB.new (w.alloc (.cells #[.int .i64 N, .slice A es.length c] 29)) 29 0 (.slice none 0 0)
  obtain ⟨w1, hw1⟩ : ∃ w1, w1 = (w.alloc (.cells #[.int .i64 N, .slice A es.length c] 29)).alloc (.cells #[.int .i64 0, .slice none 0 0] 29) := ⟨_, rfl⟩
  have hb1 : Below w.heap.size w w1 := by rw [hw1]; exact ((Below.refl _ _).alloc (Nat.le_refl _) _).alloc (by simp) _
  have hs1 : w.heap.size + 1 < w1.heap.size := by rw [hw1]; simp
  rw [World.size_alloc] at hR0
  rw [← hw1] at hR0 ⊢
  have he1 := he.step hb1
  have hT1 := hT.step hb1
  obtain ⟨gc, hgc⟩ : ∃ gc, gc = w.heap.size := ⟨_, rfl⟩
  rw [← hgc] at hR0 hs1 ⊢
  have HGC := Lib.hid hgc
  clear hw1 hgc he hT
  refine (behind_any A c N es _ he1 hT1).mono ?_
  rintro e w2 ⟨A1, c1, rfl, hu, hb2⟩
  have hR2 : GB 29 w2 (gc + 1) 0 (.slice none 0 0) := (hb2.block (gc + 1) hs1).trans hR0
  have hT2 := hT1.step hb2
  have hs2 : gc + 1 < w2.heap.size := Nat.lt_of_lt_of_le hs1 hb2.size
  have hB2 : Below w.heap.size w w2 := hb1.trans (hb2.mono hb1.size)
  clear hR0 he1 hT1 hb1 hs1 hb2
  have hrn := hR2.n
  have hre := hR2.e
  have hrf0 := hR2.frozen 0
  have hrf1 := hR2.frozen 1
  by_cases hE : errn N es = 0
  · obtain ⟨m, rfl, hin, hfull⟩ := errn_split hE
    have hm := okN_of hin
    have hm2 : m ≤ 200 := by omega
    have e1 : nG m es = m := by unfold nG; rw [if_pos hE]
    have e2 : clsG m es = elI (elist (behs m es) m) := by unfold clsG; rw [if_pos hE, Int.toNat_natCast]
    have e3 : behG m es = behs m es := by unfold behG; rw [if_pos hE, Int.toNat_natCast]
    rw [e3] at hu
    rw [e3, hE, behs_len]
    have E1 := Lib.hid e1
    have E2 := Lib.hid e2
    have HE := Lib.hid hE
    clear e1 e2 e3 hE hfull hm
    go_wp2_with fail
    refine (fromSets_any m hm2 A1 c1 (behs m es) (behs_len _ _) _ hu (behs_bits hin) (behs_room _ _) hT2).mono ?_
    rintro e w3 ⟨A3, c3, rfl, hr3, hA3, hb3⟩
    have hR3 : GB 29 w3 (gc + 1) 0 (.slice none 0 0) := (hb3.block (gc + 1) hs2).trans hR2
    have hB3 : Below w.heap.size w w3 := hB2.trans (hb3.mono hB2.size)
    have hrn := hR3.n
    have hre := hR3.e
    have hrf0 := hR3.frozen 0
    have hrf1 := hR3.frozen 1
    have hR4 := (hR3.set0 (m : Int)).set (.slice A3 (elI (elist (behs m es) m)).length c3)
    clear hR2 hB2 hb3 hu hT2
    go_wp2
    (try simp only [Exit.inBlock, Exit.then])
    refine bodyPost_ret (results_row_tmp rfl _ _ (gc + 1) 29 _ (0, 0) _ rfl hR4 rfl rfl Tryd.infoGr) rfl ?_
    have hG := HGC.out
    have hbf : Below (gc + 1) w3 ((w3.setCell ⟨gc + 1, 0, none⟩ (.int .i64 (m : Int))).setCell ⟨gc + 1, 1, none⟩ (.slice A3 (elI (elist (behs m es) m)).length c3)) := ((Below.refl _ _).setCell (p := ⟨gc + 1, 0, none⟩) (Nat.le_refl _) _).setCell (p := ⟨gc + 1, 1, none⟩) (Nat.le_refl _) _
    have hne : (Value.slice A3 (elI (elist (behs m es) m)).length c3).ownBlock ≠ some (gc + 1) := fun e => by
      have := hA3 _ e
      omega
    rw [E1.out, E2.out, HE.out]
    exact ⟨A3, c3, rfl, by rw [World.size_setCell, World.size_setCell]; exact (hr3.set (p := ⟨gc + 1, 0, none⟩) hne _).set (p := ⟨gc + 1, 1, none⟩) hne _, hB3.trans (hbf.mono (by omega))⟩
  · have e1 : nG N es = 0 := by unfold nG; rw [if_neg hE]
    have e2 : clsG N es = [] := by unfold clsG; rw [if_neg hE]
    have e3 : behG N es = [] := by unfold behG; rw [if_neg hE]
    rw [e3]
    have E1 := Lib.hid e1
    have E2 := Lib.hid e2
    clear e1 e2 e3
    obtain ⟨E, hEE⟩ : ∃ E, E = errn N es := ⟨_, rfl⟩
    rw [← hEE] at hE ⊢
    have hb : (E != 0) = true := by simpa using hE
    have HE := Lib.hid hEE
    have hR3 := (hR2.set0 0).set (.slice none 0 0)
    clear hE hEE hu
    go_wp2
    (try simp only [Exit.inBlock, Exit.then])
    refine bodyPost_ret (results_row_tmp rfl _ _ (gc + 1) 29 _ (0, 0) _ rfl hR3 rfl rfl Tryd.infoGr) rfl ?_
    have hG := HGC.out
    rw [E1.out, E2.out, ← HE.out]
    exact ⟨none, 0, rfl, rdE_nil _ _ _, (hB2.setCell (p := ⟨gc + 1, 0, none⟩) (by dsimp only; omega) _).setCell (p := ⟨gc + 1, 1, none⟩) (by dsimp only; omega) _⟩

end Go.Proofs.YtafdpimkfkddaaaDoor

namespace Go.Proofs.YtafdpimkfkddaaaDoor
open Go.RowKit
set_option maxRecDepth 100000

theorem Tm.mem_edI (T : Tm) (i n : Nat) (e : Int × Int) : e ∈ T.edI i n ↔ ∃ k : Nat, k < n ∧ T.bef (i : Int) (k : Int) = true ∧ e = ((i : Int), (k : Int)) := by
  unfold Tm.edI
  rw [List.mem_map]
  constructor
  · rintro ⟨k, hk, rfl⟩
    rw [List.mem_filter, List.mem_range] at hk
    exact ⟨k, hk.1, hk.2, rfl⟩
  · rintro ⟨k, h1, h2, rfl⟩
    exact ⟨k, by rw [List.mem_filter, List.mem_range]; exact ⟨h1, h2⟩, rfl⟩
theorem Tm.eds_flat (T : Tm) : T.eds = (List.range T.sz).flatMap fun i => T.edI i T.sz := by
  unfold Tm.eds Tm.edK
  rw [T.edI_low T.sz 0 (by omega), List.append_nil]
theorem Tm.mem_edg (T : Tm) (e : Int × Int) : e ∈ T.eds ↔ ∃ i k : Nat, T.bef (i : Int) (k : Int) = true ∧ e = ((i : Int), (k : Int)) := by
  rw [T.eds_flat, List.mem_flatMap]
  constructor
  · rintro ⟨i, _, h⟩
    obtain ⟨k, _, h2, h3⟩ := (T.mem_edI i T.sz e).1 h
    exact ⟨i, k, h2, h3⟩
  · rintro ⟨i, k, h2, h3⟩
    have := T.bef_lt _ _ h2
    exact ⟨i, List.mem_range.2 (by omega), (T.mem_edI i T.sz e).2 ⟨k, by omega, h2, h3⟩⟩
theorem eds_gR (T : Tm) (i j : Nat) : gR T.eds i j = T.bef (i : Int) (j : Int) := by
  unfold gR
  rw [Bool.eq_iff_iff, decide_eq_true_iff, T.mem_edg]
  constructor
  · rintro ⟨a, b, h, e⟩
    injection e with e1 e2
    obtain rfl : i = a := by omega
    obtain rfl : j = b := by omega
    exact h
  · intro h
    exact ⟨i, j, h, rfl⟩
theorem eds_path (T : Tm) {a b : Nat} (h : Path (gR T.eds) a b) : T.bef (a : Int) (b : Int) = true := by
  induction h with
  | one h => rwa [eds_gR T] at h
  | step h _ ih => rw [eds_gR T] at h; exact T.bef_trans _ _ _ h ih
theorem eds_fw (T : Tm) (m a b : Nat) : fw (gR T.eds) m a b = T.bef (a : Int) (b : Int) := by
  rw [Bool.eq_iff_iff]
  exact ⟨fun h => eds_path T (fw_sound _ _ _ h), fun h => fw_base m (by rw [eds_gR T]; exact h)⟩
theorem Tm.inR_eds (T : Tm) (hs : T.sz ≤ 200) : inR (T.sz : Int) T.eds = true := by
  unfold inR
  rw [Bool.and_eq_true, List.all_eq_true]
  refine ⟨by unfold okN200; simp; omega, fun e he => ?_⟩
  obtain ⟨i, k, h, rfl⟩ := (T.mem_edg e).1 he
  have := T.bef_lt _ _ h
  unfold okE nodeB
  simp
  omega
theorem Tm.full_eds (T : Tm) (hs : T.sz ≤ 200) : (ordr T.sz T.eds).length = T.sz := by
  have hle := ordr_le T.sz T.eds
  have : ¬ (ordr T.sz T.eds).length < T.sz := fun hlt => by
    obtain ⟨x, _, h⟩ := (loop_iff (T.inR_eds hs)).1 hlt
    rw [eds_fw T] at h
    have := T.bef_lt _ _ h
    omega
  omega
theorem Tm.errn_eds (T : Tm) (hs : T.sz ≤ 200) : errn (T.sz : Int) T.eds = 0 := errn_ok (T.inR_eds hs) (T.full_eds hs)

theorem range_filter (q : Nat → Bool) (a : Nat) (h : ∀ j, q j = true → j < a) : ∀ d, (List.range (a + d)).filter q = (List.range a).filter q
  | 0 => rfl
  | d + 1 => by
    have : q (a + d) = false := by
      cases hq : q (a + d) with
      | false => rfl
      | true => have := h _ hq; omega
    rw [← Nat.add_assoc, List.range_succ, List.filter_append, range_filter q a h d]
    simp [this]
theorem mem_filter_range (xs : List Nat) (m : Nat) (h : ∀ j, bitB xs j = true → j < m) : mem xs = (List.range m).filter (bitB xs) := by
  unfold mem nums
  have h2 : ∀ j, bitB xs j = true → j < 64 * xs.length := fun j hj => bit_in' xs j hj
  rw [← range_filter (bitB xs) (64 * xs.length) h2 m, Nat.add_comm, range_filter (bitB xs) m h]
theorem Tm.cls_eds (T : Tm) (hs : T.sz ≤ 200) : clsG (T.sz : Int) T.eds = T.eds := by
  have hin := T.inR_eds hs
  unfold clsG
  rw [if_pos (T.errn_eds hs), Int.toNat_natCast]
  unfold elI elist
  rw [List.map_flatMap]
  conv => rhs; rw [T.eds_flat]
  have : ∀ i ∈ List.range T.sz, (((mem (st (behs T.sz T.eds) i)).map fun j => (i, j)).map fun e => ((e.1 : Int), (e.2 : Int))) = T.edI i T.sz := by
    intro i hi
    have hi' := List.mem_range.1 hi
    rw [st_behs _ hi']
    have hb : ∀ j, bitB (beh T.sz T.eds i) j = T.bef (i : Int) (j : Int) := fun j => by rw [beh_bit hin, eds_fw T]
    rw [mem_filter_range _ T.sz (fun j hj => by rw [hb] at hj; have := T.bef_lt _ _ hj; omega), List.map_map]
    unfold Tm.edI
    rw [show bitB (beh T.sz T.eds i) = fun k : Nat => T.bef (i : Int) (k : Int) from funext hb]
    rfl
  simp only [List.flatMap]
  rw [List.map_congr_left this]
theorem Tm.nG_eds (T : Tm) (hs : T.sz ≤ 200) : nG (T.sz : Int) T.eds = T.sz := by unfold nG; rw [if_pos (T.errn_eds hs)]

/-- the two ways to read a slice of edges -/
theorem RdE.eg {w : World} {B : Nat} {A : Option Addr} {es : List (Int × Int)} (h : RdE w B A es) : RdEg w B A es := ⟨h.room, h.rd⟩
theorem Tm.rdE {w : World} {B : Nat} {A : Option Addr} (T : Tm) (hs : T.sz ≤ 200) (h : RdEg w B A T.eds) : RdE w B A T.eds := by
  have key : ∀ k, 0 ≤ (ed T.eds k).1 ∧ (ed T.eds k).1 ≤ 200 ∧ 0 ≤ (ed T.eds k).2 ∧ (ed T.eds k).2 ≤ 200 := fun k => by
    by_cases hk : k < T.eds.length
    · obtain ⟨i, j, hb, he⟩ := (T.mem_edg _).1 (ed_mem T.eds k hk)
      rw [he]
      have := T.bef_lt _ _ hb
      dsimp only
      omega
    · have : ed T.eds k = (0, 0) := by
        unfold ed
        simp only [List.getD, List.getElem?_eq_none (show T.eds.length ≤ k by omega), Option.getD_none]
      rw [this]
      dsimp only
      omega
  exact ⟨fun k => by have := key k; omega, fun k => by have := key k; omega, fun k => by have := key k; omega, fun k => by have := key k; omega, h.room, h.rd⟩
end Go.Proofs.YtafdpimkfkddaaaDoor

namespace Go.Proofs.YtafdpimkfkddaaaDoor
open Go.RowKit
set_option maxRecDepth 100000

theorem closed_eds (T : Tm) (hs : T.sz ≤ 200) : ClosedS T.sz T.eds := fun W A c hr hTab => by
  refine (closure_any A c (T.sz : Int) T.eds W (T.rdE hs hr) hTab).mono ?_
  rw [T.cls_eds hs, T.nG_eds hs, T.errn_eds hs]
  rintro e w' ⟨A1, c1, h1, h2, h3⟩
  exact ⟨A1, c1, h1, h2.eg, h3⟩

theorem spClosedLaw_any (T : Tm) (h : Hd) (w : World) (hT : TIn w w.heap.size T h) (hs : T.sz ≤ 1048576) (hTab : Tab w) :
    Calls Tryd.prog 4 #[.agg h.cells] w fun e w' => e = .returned (.bool true) ∧ Below w.heap.size w w' := by
  by_cases hb : 200 < T.sz
  · exact spClosedLaw_many T h w hT hs hTab hb
  · exact spClosedLaw_few T h w hT hs hTab (by omega) (closed_eds T (by omega))
end Go.Proofs.YtafdpimkfkddaaaDoor
