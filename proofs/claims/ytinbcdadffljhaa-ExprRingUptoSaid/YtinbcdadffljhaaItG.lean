/-
  A region that draws its order, by what holds behind each of its operations in whatever order they came: one step an operation, not one way an order.
-/
import Derived.Test.YtinbcdadffljhaaItR
import Derived.Deep.RegionHeld3
namespace Go.Proofs.Ytinbcdadffljhaa

section
variable {P : Program} {ops : Array Oper} {Q : Exit → Act → World → Prop} {md : Region.Mode} {S : World → Prop}
/-- how many of n have not come up -/
def leftN (n : Nat) (listed : Array Bool) : Nat := ((List.range n).filter fun i => !listed.getD i true).length
theorem leftN_set {n i : Nat} {listed : Array Bool} (h : i < n) (hf : listed.getD i true = false) : leftN n (listed.setIfInBounds i true) < leftN n listed := by
  have hlt : i < listed.size := by
    rcases Nat.lt_or_ge i listed.size with h' | h'
    · exact h'
    · simp [Array.getElem?_eq_none h'] at hf
  have key : ∀ j, (listed.setIfInBounds i true).getD j true = if j = i then true else listed.getD j true := fun j => by
    by_cases e : j = i
    · subst e
      rw [if_pos rfl]
      simp [hlt]
    · rw [if_neg e]
      exact getD_set_ne true (Ne.symm e)
  unfold leftN
  induction n with
  | zero => omega
  | succ n ih =>
    rw [List.range_succ, List.filter_append, List.filter_append, List.length_append, List.length_append]
    by_cases e : i = n
    · subst e
      have h1 : (List.range i).filter (fun j => !(listed.setIfInBounds i true).getD j true) = (List.range i).filter (fun j => !listed.getD j true) :=
        List.filter_congr fun j hj => by rw [key, if_neg (by have := List.mem_range.1 hj; omega)]
      rw [h1]
      simp only [List.filter_cons, List.filter_nil, key, if_true, hf]
      simp
    · have h2 := ih (by omega)
      have h3 : ([n].filter fun j => !(listed.setIfInBounds i true).getD j true) = [n].filter fun j => !listed.getD j true :=
        List.filter_congr fun j hj => by rw [List.mem_singleton.1 hj, key, if_neg (by omega)]
      rw [h3]
      omega
theorem leftN_zero {listed : Array Bool} (h : leftN ops.size listed = 0) : Region.ready md ops listed = [] := by
  rw [List.eq_nil_iff_forall_not_mem]
  intro j hj
  obtain ⟨h1, o, ho, _⟩ := mem_ready.1 hj
  have hlt : j < ops.size := (Array.getElem?_eq_some_iff.1 ho).1
  have : j ∈ (List.range ops.size).filter fun i => !listed.getD i true := List.mem_filter.2 ⟨List.mem_range.2 hlt, by rw [h1]; rfl⟩
  unfold leftN at h
  rw [List.length_eq_zero_iff.1 h] at this
  cases this
/-- ONE STEP AN OPERATION: what holds behind each one holds whatever came between -/
theorem wpAnyH_inv {I : Array Bool → Act → World → Prop}
    (hstep : ∀ listed a w, I listed a w → ∀ i o, ops[i]? = some o → listed.getD i true = false → (∀ e ∈ o.after, Region.binds md e = true → listed.getD e.on false = true) →
      ∀ K' : Act → World → Prop, Shut (∀ a' w', S w' → I (listed.setIfInBounds i true) a' w' → K' a' w') → if Region.wanted o (yielded ops a.tmps) = true then Oper.wp P o a w K' Q else K' (a.put o.dst undef) w)
    (hend : ∀ listed a w, I listed a w → Region.ready md ops listed = [] → Q .normal a w) :
    ∀ (fuel : Nat) (listed : Array Bool) (a : Act) (w : World), leftN ops.size listed ≤ fuel → I listed a w → wpAnyH P md ops Q S fuel listed a w
  | 0, listed, a, w, hl, hI => by
    have hr := leftN_zero (md := md) (ops := ops) (listed := listed) (by omega)
    exact ⟨hr, hend _ _ _ hI hr⟩
  | fuel + 1, listed, a, w, hl, hI => by
    refine ⟨fun hr => hend _ _ _ hI hr, fun i hi => ?_⟩
    obtain ⟨hf, o, ho, ha⟩ := mem_ready.1 hi
    have hlt : i < ops.size := (Array.getElem?_eq_some_iff.1 ho).1
    refine wpOp_step ho fun K' hK => hstep listed a w hI i o ho hf ha K' fun a' w' hS hI' => hK a' w' ⟨hS, ?_⟩
    have := leftN_set hlt hf
    exact wpAnyH_inv hstep hend fuel _ a' w' (by omega) hI'
/-- where none may come up, one that waits for none that is left has come up -/
theorem came_up {listed : Array Bool} {i : Nat} {o : Oper} (hr : Region.ready md ops listed = []) (ho : ops[i]? = some o) (ha : ∀ e ∈ o.after, Region.binds md e = true → listed.getD e.on false = true) : listed.getD i true = true := by
  cases h : listed.getD i true with
  | true => rfl
  | false =>
    have : i ∈ Region.ready md ops listed := mem_ready.2 ⟨h, o, ho, ha⟩
    rw [hr] at this
    cases this
theorem came_up' {listed : Array Bool} {i : Nat} {o : Oper} (hr : Region.ready md ops listed = []) (ho : ops[i]? = some o) (ha : (o.after.toList.all fun e => !Region.binds md e || listed.getD e.on false) = true) : listed.getD i true = true :=
  came_up hr ho fun e he hb => by
    have := List.all_eq_true.1 ha e (by simpa using he)
    rw [hb] at this
    simpa using this
end
end Go.Proofs.Ytinbcdadffljhaa
