/-
  The law GraphBehind: what is behind what is behind is behind; nothing is behind itself; of two nodes one at most is behind the other.
-/
import Derived.Test.YtaboafkpmgadmaaDoorGrAl
import Derived.Test.YtaboafkpmgadmaaDoorGrLawWrong
import Derived.Test.YtaboafkpmgadmaaDoorBsAlg
import Derived.Deep.RegionHeld3
import Derived.Deep.DrawnRows
namespace Go.Proofs.YtaboafkpmgadmaaDoor
open Go.RowKit Go.Shelf
set_option maxRecDepth 100000
attribute [local go_sem ↓] Go.wp_at_zero Go.wp_at_succ

theorem inB_bits {xs ys : List Nat} (hx : Ws xs) (hy : Ws ys) : inB xs ys = true ↔ ∀ n, bitB xs n = true → bitB ys n = true := by
  rw [inB_iff hx hy]
  constructor
  · intro h n hn
    rw [bitB_tb] at hn ⊢
    exact h _ _ (Nat.mod_lt _ (by decide)) hn
  · intro h k j hj hb
    rw [tb_bit _ _ _ hj] at hb ⊢
    exact h _ hb
theorem inB_one (c : Nat) (hc : c ≤ 65535) {ys : List Nat} (hy : Ws ys) : inB (ofS [(c : Int)]) ys = bitB ys c := by
  rw [Bool.eq_iff_iff, inB_bits (ofS_wd _) hy]
  have hb : ∀ n, bitB (ofS [(c : Int)]) n = true ↔ n = c := fun n => by
    rw [ofS_bit, decide_eq_true_iff, mem_alw]
    simp
    omega
  constructor
  · intro h
    exact h c ((hb c).2 rfl)
  · intro h n hn
    rw [(hb n).1 hn]
    exact h
theorem fw_tr {m : Nat} {es : List (Int × Int)} (h : inR m es = true) {i j k : Nat} (h1 : fw (gR es) m i j = true) (h2 : fw (gR es) m j k = true) : fw (gR es) m i k = true :=
  (fw_iff (gR_lt h) _ _).2 (((fw_iff (gR_lt h) _ _).1 h1).trans ((fw_iff (gR_lt h) _ _).1 h2))
theorem fw_irr {m : Nat} {es : List (Int × Int)} (h : inR m es = true) (hfull : (ordr m es).length = m) (i : Nat) : fw (gR es) m i i = false := by
  cases hf : fw (gR es) m i i with
  | false => rfl
  | true =>
    have := (loop_iff h).2 ⟨i, (fw_lt h hf).1, hf⟩
    omega
theorem beh_sub {m : Nat} {es : List (Int × Int)} (h : inR m es = true) {i j : Nat} (h1 : fw (gR es) m i j = true) : inB (beh m es j) (beh m es i) = true := by
  rw [inB_bits (beh_ws _ _ _) (beh_ws _ _ _)]
  intro n hn
  rw [beh_bit h] at hn ⊢
  exact fw_tr h h1 hn

/-- two cells lie as they lay, and all that lay -/
abbrev HeldB (w1 : World) (B : Nat) (v : Value) (b o : Nat) (u : Value) (w' : World) : Prop := w'.cell? ⟨B, 0, none⟩ = some v ∧ w'.cell? ⟨b, o, none⟩ = some u ∧ Below w1.heap.size w1 w'
theorem HeldB.drew {w1 W : World} {B b o : Nat} {v u : Value} (h : HeldB w1 B v b o u W) : HeldB w1 B v b o u W.drew := ⟨h.1, h.2.1, h.2.2.drew⟩
theorem HeldB.step {w1 W w2 : World} {B b o : Nat} {v u : Value} (h : HeldB w1 B v b o u W) (hb : Below W.heap.size W w2) : HeldB w1 B v b o u w2 :=
  ⟨(hb.cell (p := ⟨B, 0, none⟩) (World.block_lt_of_cell? _ _ h.1)).trans h.1, (hb.cell (p := ⟨b, o, none⟩) (World.block_lt_of_cell? _ _ h.2.1)).trans h.2.1, h.2.2.trans (hb.mono h.2.2.size)⟩
theorem HeldB.alloc {w1 W : World} {B b o : Nat} {v u : Value} (h : HeldB w1 B v b o u W) (ob : Obj) : HeldB w1 B v b o u (W.alloc ob) := h.step (below_alloc W ob)


/-- three cells lie as they lay, and all that lay -/
abbrev HeldC (w1 : World) (B : Nat) (v : Value) (b o : Nat) (u : Value) (o2 : Nat) (u2 : Value) (w' : World) : Prop := w'.cell? ⟨B, 0, none⟩ = some v ∧ w'.cell? ⟨b, o, none⟩ = some u ∧ w'.cell? ⟨b, o2, none⟩ = some u2 ∧ Below w1.heap.size w1 w'
theorem HeldC.drew {w1 W : World} {B b o o2 : Nat} {v u u2 : Value} (h : HeldC w1 B v b o u o2 u2 W) : HeldC w1 B v b o u o2 u2 W.drew := ⟨h.1, h.2.1, h.2.2.1, h.2.2.2.drew⟩
theorem HeldC.step {w1 W w2 : World} {B b o o2 : Nat} {v u u2 : Value} (h : HeldC w1 B v b o u o2 u2 W) (hb : Below W.heap.size W w2) : HeldC w1 B v b o u o2 u2 w2 :=
  ⟨(hb.cell (p := ⟨B, 0, none⟩) (World.block_lt_of_cell? _ _ h.1)).trans h.1, (hb.cell (p := ⟨b, o, none⟩) (World.block_lt_of_cell? _ _ h.2.1)).trans h.2.1, (hb.cell (p := ⟨b, o2, none⟩) (World.block_lt_of_cell? _ _ h.2.2.1)).trans h.2.2.1, h.2.2.2.trans (hb.mono h.2.2.2.size)⟩

end Go.Proofs.YtaboafkpmgadmaaDoor
