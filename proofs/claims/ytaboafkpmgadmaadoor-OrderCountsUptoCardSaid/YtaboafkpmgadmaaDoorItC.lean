/-
  A loop over an iterator that collects: a variable's box and the row that it owns, between two rounds. Plain lemmas.
-/
import Derived.Test.YtaboafkpmgadmaaDoorItO
import Derived.Maps.AppendAt
namespace Go.Proofs.YtaboafkpmgadmaaDoor
open Go.RowKit

theorem ownsRow_keeps {p : Nat → Prop} {w w' : World} {base e size n : Nat} {v : Value} {xs : List Value} (h : w.ownsRow base e size v n xs) (hk : Keeps p w w') (hp : ∀ b, v.ownBlock = some b → p b) : w'.ownsRow base e size v n xs := by
  refine ⟨h.1, ?_⟩
  rcases h.2 with h0 | ⟨g, cap, cur, hv, hb, hg, hr⟩
  · exact .inl h0
  · exact .inr ⟨g, cap, cur, hv, hb, (hk.block g (Array.getElem?_eq_some_iff.1 hg).1 (hp g (by rw [hv]; rfl))).trans hg, hr⟩
theorem own_block_lt {w : World} {base e size n : Nat} {v : Value} {xs : List Value} (h : w.ownsRow base e size v n xs) : ∀ b, v.ownBlock = some b → b < w.heap.size := fun b hb => by
  rcases h.2 with ⟨h0, _⟩ | ⟨g, cap, cur, hv, _, hg, _⟩
  · rw [h0] at hb; simp [Value.ownBlock] at hb
  · rw [hv] at hb
    obtain rfl : g = b := by simpa [Value.ownBlock] using hb
    exact (Array.getElem?_eq_some_iff.1 hg).1
theorem own_base' {w : World} {base n size : Nat} {e : TypeId} {v : Value} {xs : List Value} (h : w.ownsRow base e size v n xs) : ∀ k, v.ownBlock = some k → base ≤ k := by
  intro k hk
  rcases h.2 with ⟨rfl, _⟩ | ⟨g, cap, cur, rfl, hb, _⟩
  · simp [Value.ownBlock] at hk
  · have : g = k := by simpa [Value.ownBlock] using hk
    omega

/-- the box Bo holds a slice that owns xs; both are the body's -/
def CollI (T E : TypeId) (size n₀ Bo k : Nat) (xs : List Value) (O : Nat → Prop) (W : World) : Prop :=
  ∃ v, Boxed W Bo T v ∧ W.ownsRow n₀ E size v k xs ∧ O Bo ∧ ∀ b, v.ownBlock = some b → O b
theorem CollI.keeps {T E : TypeId} {size n₀ Bo k : Nat} {xs : List Value} {O p : Nat → Prop} {W W' : World} (h : CollI T E size n₀ Bo k xs O W) (hk : Keeps p W W') (hp : ∀ b, O b → p b) : CollI T E size n₀ Bo k xs O W' := by
  obtain ⟨v, h1, h2, h3, h4⟩ := h
  exact ⟨v, (hk.block Bo h1.lt (hp Bo h3)).trans h1, ownsRow_keeps h2 hk fun b hb => hp b (h4 b hb), h3, h4⟩
/-- behind an append and the store of its answer -/
theorem CollI.step {T E : TypeId} {size n₀ Bo k m : Nat} {xs ys : List Value} {O : Nat → Prop} {W w1 : World} {v v' : Value} {tmp : Obj}
    (hv : Boxed W Bo T v) (hTE : T ≠ E) (hrow : W.ownsRow n₀ E size v k xs) (hn₀ : n₀ ≤ W.heap.size) (hB : n₀ ≤ Bo) (hO : O Bo) (hOv : ∀ b, v.ownBlock = some b → O b)
    (hown' : w1.ownsRow n₀ E size v' m ys) (hgrow : (W.alloc tmp).grownBy w1 v.ownBlock) (hat : v'.ownBlock = v.ownBlock ∨ v'.ownBlock = some (W.alloc tmp).heap.size) :
    CollI T E size n₀ Bo m ys (fun b => b = Bo ∨ v'.ownBlock = some b) (w1.setCell ⟨Bo, 0, none⟩ v') ∧ StepO O (fun b => b = Bo ∨ v'.ownBlock = some b) W (w1.setCell ⟨Bo, 0, none⟩ v') ∧ Below n₀ W (w1.setCell ⟨Bo, 0, none⟩ v') := by
  obtain ⟨_, h2, h3, _, h5⟩ := hv.appended hTE hrow hn₀ hB hown' hgrow
  refine ⟨⟨v', h2, h3, .inl rfl, fun b hb => .inr hb⟩, ⟨?_, fun b hb => ?_, fun b hb => ?_⟩, h5⟩
  · exact (((Keeps.refl _ W).alloc tmp).grown hgrow (fun r hr _ h => h (hOv r hr))).setCell (q := ⟨Bo, 0, none⟩) (fun _ h => h hO) v'
  · rcases hb with rfl | hb
    · exact .inl hO
    · rcases hat with h | h
      · exact .inl (hOv b (h ▸ hb))
      · rw [h] at hb
        injection hb with hb
        exact .inr (by rw [← hb]; simp)
  · rcases hb with rfl | hb
    · exact h2.lt
    · exact own_block_lt h3 b hb
end Go.Proofs.YtaboafkpmgadmaaDoor
