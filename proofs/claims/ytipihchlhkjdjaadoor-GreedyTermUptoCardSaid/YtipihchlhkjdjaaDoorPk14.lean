/-
  Contracts of slices.Equal, Index and Contains over edges, and of forkwrightref.SameGraph on the same graph.
  The law GraphClosed: the closure of the closure is it; it holds the graph's edges; the core has the same closure, and the closure the same core.
  A word made to hold one bit more, in a row that the call owns. Plain lemmas.
  Contract of forkwrightref.BSort: it answers what graph.Sort answers.
-/
import Derived.Test.YtipihchlhkjdjaaDoorPk10
import Derived.Test.YtipihchlhkjdjaaDoorPk01
import Derived.Test.YtipihchlhkjdjaaDoorPk03
namespace Go.Proofs.YtipihchlhkjdjaaDoor
open Go.RowKit Go.Shelf
set_option maxRecDepth 100000

/-- the first place of an edge -/
def FirstE (es : List (Int × Int)) (v : Int × Int) (k0 : Nat) : Prop := k0 < es.length ∧ ed es k0 = v ∧ ∀ j, j < k0 → ed es j ≠ v
theorem firstE_of_mem : ∀ {es : List (Int × Int)} {v : Int × Int}, v ∈ es → ∃ k, FirstE es v k
  | [], _, h => by simp at h
  | z :: zs, v, h => by
    by_cases e : z = v
    · exact ⟨0, by simp, by simpa [ed] using e, fun j hj => by omega⟩
    · have h2 : v ∈ zs := by
        rcases List.mem_cons.1 h with h | h
        · exact absurd h.symm e
        · exact h
      obtain ⟨k, h3, h4, h5⟩ := firstE_of_mem h2
      refine ⟨k + 1, by simp; omega, by simpa [ed] using h4, fun j hj => ?_⟩
      cases j with
      | zero => simpa [ed] using e
      | succ j =>
        have := h5 j (by omega)
        simpa [ed] using this

end Go.Proofs.YtipihchlhkjdjaaDoor

namespace Go.Proofs.YtipihchlhkjdjaaDoor
open Go.RowKit Go.Shelf
set_option maxRecDepth 100000

theorem GB.step {T : TypeId} {W W' : World} {B : Nat} {x : Int} {v : Value} (h : GB T W B x v) (hb : Below W.heap.size W W') : GB T W' B x v := (hb.block B h.lt).trans h

end Go.Proofs.YtipihchlhkjdjaaDoor

namespace Go.Proofs.YtipihchlhkjdjaaDoor
open Go.RowKit

def lenOf : Value → Nat | .slice _ n _ => n | _ => 0
theorem u64_zero : Value.int .u64 0 = Value.int .u64 ((0 : Nat) : Int) := rfl
theorem put_val (p : Nat → Bool) (k : Nat) (hp : p k = true) : IntKind.u64.wrap ((wd (awl p k) (k / 64) : Int) + IntKind.u64.wrap (2 ^ (k % 64))) = ((wd (awl p k) (k / 64) + 2 ^ (k % 64) : Nat) : Int) := by
  have h := (awl_ok p (k + 1)).1 (k / 64)
  have hl : (awl p k).length ≤ k / 64 + 1 := by have := awl_len p k; omega
  rw [awl_yes p k hp, wd_put _ _ _ hl, if_pos rfl] at h
  have hr : 2 ^ (k % 64) ≤ 2 ^ 63 := Nat.pow_le_pow_right (by omega) (by omega)
  have hr2 : 0 < 2 ^ (k % 64) := Nat.pow_pos (by omega)
  have e : ((2 : Int) ^ (k % 64)) = ((2 ^ (k % 64) : Nat) : Int) := by simp
  rw [e, IntKind.wrap_u64, IntKind.wrap_u64]
  omega
theorem uVals_set (L : List Nat) (i x : Nat) : (uVals L).set i (.int .u64 (x : Int)) = uVals (L.set i x) := by
  unfold uVals; rw [List.map_set]
theorem rel_put {wr : World} {B E g c2 k t : Nat} {p : Nat → Bool} (hown2 : wr.ownsRow B E 1 (.slice (some ⟨g, 0, none⟩) ((awl p k).length + t) c2) ((awl p k).length + t) (uVals (awl p k ++ List.replicate t 0)))
    (hL : (awl p k).length + t = k / 64 + 1) (hp : p k = true) :
    (wr.setCell ⟨g, k / 64, none⟩ (.int .u64 (IntKind.u64.wrap ((wd (awl p k) (k / 64) : Int) + IntKind.u64.wrap (2 ^ (k % 64)))))).drew.ownsRow B E 1 (.slice (some ⟨g, 0, none⟩) ((awl p k).length + t) c2) (awl p (k + 1)).length (uVals (awl p (k + 1))) := by
  have hl : (awl p k).length ≤ k / 64 + 1 := by omega
  have e : awl p k ++ List.replicate t 0 = ext (awl p k) (k / 64) := by unfold ext; rw [show k / 64 + 1 - (awl p k).length = t by omega]
  have h := (hown2.stored (k / 64) (.int .u64 ((wd (awl p k) (k / 64) + 2 ^ (k % 64) : Nat) : Int))).1
  rw [put_val p k hp, awl_yes p k hp, put_len _ _ hl]
  rw [uVals_set, e, hL] at h
  rw [hL]
  exact h.drew
theorem app_zero (L : List Nat) (t : Nat) : (L ++ List.replicate t 0) ++ [0] = L ++ List.replicate (t + 1) 0 := by
  rw [List.append_assoc, List.replicate_succ']
end Go.Proofs.YtipihchlhkjdjaaDoor

namespace Go.Proofs.YtipihchlhkjdjaaDoor
open Go.RowKit Go.Shelf
set_option maxRecDepth 100000

/-- may n come, by the first k edges? -/
def rdyB (es : List (Int × Int)) (zs : List Int) (n : Int) (k : Nat) : Bool := !decide (n ∈ zs) && (es.take k).all fun e => (e.2 != n) || decide (e.1 ∈ zs)
theorem rdyB_zero (es : List (Int × Int)) (zs : List Int) (n : Int) : rdyB es zs n 0 = !decide (n ∈ zs) := by unfold rdyB; simp
theorem rdyB_succ {es : List (Int × Int)} {zs : List Int} {n : Int} {k : Nat} (hk : k < es.length) {a b : Int} (he : ed es k = (a, b)) {p : Bool} (hp : rdyB es zs n k = p) : rdyB es zs n (k + 1) = (p && ((b != n) || decide (a ∈ zs))) := by
  rw [← hp]
  unfold rdyB
  rw [take_ed es k hk, List.all_append, he]
  simp [Bool.and_assoc]
theorem rdyB_full {m : Nat} {es : List (Int × Int)} (h : inR m es = true) (L : List Nat) (n : Nat) : rdyB es (toI L) n es.length = ready (gR es) m L n := by
  rw [Bool.eq_iff_iff, ready_iff]
  unfold rdyB
  rw [List.take_length, Bool.and_eq_true, List.all_eq_true]
  simp only [Bool.not_eq_true', decide_eq_false_iff_not, Bool.or_eq_true, bne_iff_ne, ne_eq, decide_eq_true_iff, mem_toI]
  constructor
  · rintro ⟨h1, h2⟩
    refine ⟨h1, fun p hp hg => ?_⟩
    rcases h2 _ (of_decide_eq_true hg) with h3 | h3
    · exact absurd rfl h3
    · exact (mem_toI _ _).1 h3
  · rintro ⟨h1, h2⟩
    refine ⟨h1, fun e he => ?_⟩
    by_cases e2 : e.2 = (n : Int)
    · obtain ⟨a, b⟩ := e
      simp only at e2
      subst e2
      have h3 := edge_in h he
      obtain ⟨p, rfl⟩ : ∃ p : Nat, a = (p : Int) := ⟨a.toNat, by omega⟩
      exact .inr ((mem_toI _ _).2 (h2 p (by omega) (decide_eq_true he)))
    · exact .inl e2
theorem pick_ok {R : Nat → Nat → Bool} {m k : Nat} (hf : (topo R m).length = m) (hk : k < m) : ∃ x, pick R m (topoN R m k) = some x := by
  cases h : pick R m (topoN R m k) with
  | some x => exact ⟨x, rfl⟩
  | none =>
    have h1 := topo_at (by omega) h
    have h2 := topoN_len (R := R) (N := m) k
    rw [h1] at hf
    omega
theorem topoN_k {R : Nat → Nat → Bool} {m : Nat} (hf : (topo R m).length = m) (k : Nat) (hk : k ≤ m) : (topoN R m k).length = k :=
  topoN_eq k fun j hj => by
    obtain ⟨x, hx⟩ := pick_ok hf (k := j) (by omega)
    rw [hx]
    exact fun h => by cases h
theorem contains_len (A : Option Addr) (c len : Nat) (zs : List Int) (hl : zs.length = len) (v : Int) (w : World) (hx : RdI w w.heap.size A zs) :
    Calls Tryd.prog 17 #[.slice A len c, .int .i64 v] w fun e w' => e = .returned (.bool (decide (v ∈ zs))) ∧ w = w' := by
  subst hl; exact contains_b A c zs v w hx

end Go.Proofs.YtipihchlhkjdjaaDoor
