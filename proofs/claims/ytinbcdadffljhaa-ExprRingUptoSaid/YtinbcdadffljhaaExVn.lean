/-
  The closures of the program's Names: what they answer, and what they do to memory.
-/
import Derived.Test.YtinbcdadffljhaaExDe
import Derived.Test.YtinbcdadffljhaaExMg
namespace Go.Proofs.Ytinbcdadffljhaa
open Go.RowKit Go.Maps Go.WideMaps
set_option maxRecDepth 100000

theorem Try.infoNo : (Try.prog.info? 59).map (·.size) = some 0 := by kernel_rfl
theorem nnum_any (n : Int) (w : World) : Calls Try.prog 34 #[.int .i64 n] w fun e w' => e = .returned (.agg #[]) ∧ Below w.heap.size w w' := by
  have e0 := World.alloc_heap_new w (.cells #[] 59)
  have hb := (Below.refl w.heap.size w).alloc (Nat.le_refl _) (.cells #[] 59)
  have E := Lib.hid e0
  clear e0
  go_enter Try.func34, Try.ntmps34
  go_wp2_with fail
  refine bodyPost_ret (results_cell_row rfl _ _ w.heap.size 59 _ (0, 0) _ rfl E.out rfl rfl Try.infoNo) rfl ?_
  exact ⟨rfl, hb⟩
theorem nop_any (n : Int) (w : World) : Calls Try.prog 36 #[.int .i64 n, .agg #[], .agg #[]] w fun e w' => e = .returned (.agg #[]) ∧ Below w.heap.size w w' := by
  have e0 := World.alloc_heap_new ((w.alloc (.cells #[] 59)).alloc (.cells #[] 59)) (.cells #[] 59)
  have hb := (((Below.refl w.heap.size w).alloc (Nat.le_refl _) (.cells #[] 59)).alloc (by simp) (.cells #[] 59)).alloc (by simp; omega) (.cells #[] 59)
  rw [show ((w.alloc (.cells #[] 59)).alloc (.cells #[] 59)).heap.size = w.heap.size + 1 + 1 by simp] at e0
  have E := Lib.hid e0
  clear e0
  go_enter Try.func36, Try.ntmps36
  go_wp2_with fail
  refine bodyPost_ret (results_cell_row rfl _ _ (w.heap.size + 1 + 1) 59 _ (0, 0) _ rfl E.out rfl rfl Try.infoNo) rfl ?_
  exact ⟨rfl, hb⟩

theorem mrg_snoc (l a : List ByteArray) (s : ByteArray) : mrgN l (addN a s) = addN (mrgN l a) s := by
  by_cases h : s ∈ a
  · have h2 : s ∈ mrgN l a := (mem_mrgN _ _).2 (.inr h)
    rw [show addN a s = a from if_pos h, show addN (mrgN l a) s = mrgN l a from if_pos h2]
  · rw [show addN a s = a ++ [s] from if_neg h]
    unfold mrgN
    rw [List.foldl_append]
    rfl
theorem mrg_assoc (l : List ByteArray) : ∀ (b a : List ByteArray), mrgN l (mrgN a b) = mrgN (mrgN l a) b
  | [], _ => rfl
  | s :: b, a => by
    show mrgN l (mrgN (addN a s) b) = mrgN (addN (mrgN l a) s) b
    rw [mrg_assoc l b, mrg_snoc]
theorem mrg_names : ∀ T : Xp, mrgN [] T.names = T.names
  | .num _ => rfl
  | .nam s => by simp [Xp.names, mrgN, addN]
  | .op _ a b => by
    show mrgN [] (mrgN a.names b.names) = mrgN a.names b.names
    rw [mrg_assoc, mrg_names a]
  | .nul => rfl

/-- the map knows these names -/
structure NMap (l : List ByteArray) (D : DataW Unit) : Prop where
  tidy : Tidy D
  has : ∀ s : ByteArray, Maps.has D (.string s.data.toList) = decide (s ∈ l)
theorem NMap.start : NMap [] (.map []) := ⟨tidy_empty, fun _ => by simp; rfl⟩
theorem NMap.put {l : List ByteArray} {D : DataW Unit} {s : ByteArray} (h : NMap l D) : NMap (l ++ [s]) (D.put (.string s.data.toList) (.agg [])) := by
  have hk : WideAt.IsKeyLit (.string s.data.toList) := by trivial
  refine ⟨h.tidy.put hk _, fun t => ?_⟩
  by_cases ht : t = s
  · subst ht
    rw [has_put_same h.tidy.isMap hk]
    simp
  · rw [has_put_other (keyS_ne ht), h.has]
    simp [ht]
theorem naN_zero (w : World) : (zeroValue 59).run Try.prog w = .ok (.agg #[]) w := by kernel_rfl

/-- what Names keeps: the names that were found, in a row of its own, and the map of them; O: the blocks that turn -/
structure NS (base f g p : Nat) (l : List ByteArray) (O : Nat → Prop) (W : World) : Prop where
  low : base ≤ f ∧ base ≤ g ∧ f ≠ g ∧ f ≠ p ∧ g ≠ p ∧ base ≤ p
  box : ∃ v, W.heap[f]? = some (.cells #[v] 29 (0, 0)) ∧ W.ownsRow (max (max f g) p + 1) 9 1 v l.length (nVals l) ∧ ∀ k, O k ↔ (k = f ∨ k = g ∨ v.ownBlock = some k)
  mbox : W.heap[p]? = some (.cells #[.map (some g)] 57 (0, 0))
  map : ∃ n Dt, W.ownsMap Try.prog 9 unitElem g n Dt ∧ n ≤ l.length ∧ NMap l Dt
theorem own_blk {w : World} {base e size n : Nat} {v : Value} {xs : List Value} (h : w.ownsRow base e size v n xs) {k : Nat} (hk : v.ownBlock = some k) : base ≤ k ∧ k < w.heap.size := by
  rcases h.2 with ⟨rfl, _⟩ | ⟨g, cap, cur, rfl, h1, h2, _⟩
  · simp [Value.ownBlock] at hk
  · simp [Value.ownBlock] at hk
    subst hk
    exact ⟨h1, (Array.getElem?_eq_some_iff.1 h2).1⟩
theorem own_eqB {w w' : World} {base e size n : Nat} {v : Value} {xs : List Value} (h : w.ownsRow base e size v n xs) (hb : ∀ k, v.ownBlock = some k → w'.heap[k]? = w.heap[k]?) : w'.ownsRow base e size v n xs := by
  refine ⟨h.1, ?_⟩
  rcases h.2 with h0 | ⟨g, cap, cur, h1, h2, h3, h4⟩
  · exact .inl h0
  · exact .inr ⟨g, cap, cur, h1, h2, (hb g (by rw [h1]; rfl)).trans h3, h4⟩
section
variable {base f g p : Nat} {l : List ByteArray} {O : Nat → Prop} {W W' : World}
theorem NS.low' (h : NS base f g p l O W) {k : Nat} (hk : O k) : base ≤ k := by
  obtain ⟨v, _, ho, hO⟩ := h.box
  have := h.low
  rcases (hO k).1 hk with rfl | rfl | hk
  · omega
  · omega
  · have := own_blk ho hk; omega
theorem NS.top (h : NS base f g p l O W) {k : Nat} (hk : O k) : k < W.heap.size := by
  obtain ⟨v, hb, ho, hO⟩ := h.box
  obtain ⟨n, Dt, hm, _⟩ := h.map
  rcases (hO k).1 hk with rfl | rfl | hk
  · exact (Array.getElem?_eq_some_iff.1 hb).1
  · exact hm.lt
  · exact (own_blk ho hk).2
theorem NS.step (h : NS base f g p l O W) (hb : Below W.heap.size W W') : NS base f g p l O W' := by
  obtain ⟨v, h1, ho, hO⟩ := h.box
  obtain ⟨n, Dt, hm, h2⟩ := h.map
  have l1 : f < W.heap.size := (Array.getElem?_eq_some_iff.1 h1).1
  have l2 := hm.lt
  have l3 : p < W.heap.size := (Array.getElem?_eq_some_iff.1 h.mbox).1
  exact ⟨h.low, ⟨v, (hb.block f l1).trans h1, own_eqB ho (fun k hk => hb.block k (own_blk ho hk).2), hO⟩, (hb.block p l3).trans h.mbox, ⟨n, Dt, map_keep hm (hb.block g l2), h2⟩⟩
end
end Go.Proofs.Ytinbcdadffljhaa
