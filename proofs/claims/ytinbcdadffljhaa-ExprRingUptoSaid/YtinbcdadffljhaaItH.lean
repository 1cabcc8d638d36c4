/-
  A region that draws its order: what is held may be more from some place on; an invariant for its beginning, then on from where it stands.
-/
import Derived.Test.YtinbcdadffljhaaItG
namespace Go.Proofs.Ytinbcdadffljhaa

section
variable {P : Program} {ops : Array Oper} {Q : Exit → Act → World → Prop} {md : Region.Mode} {S : World → Prop}
theorem wpAnyH_more {S' : World → Prop} (hSS : ∀ w, S' w → S w) : ∀ (fuel : Nat) (listed : Array Bool) (a : Act) (w : World), wpAnyH P md ops Q S' fuel listed a w → wpAnyH P md ops Q S fuel listed a w
  | 0, _, _, _, h => h
  | fuel + 1, _, _, _, h => ⟨h.1, fun i hi => wpOp_mono (fun a' w' h' => ⟨hSS _ h'.1, wpAnyH_more hSS fuel _ a' w' h'.2⟩) (h.2 i hi)⟩
theorem wpAnyH_fuel : ∀ (fuel : Nat) (listed : Array Bool) (a : Act) (w : World), wpAnyH P md ops Q S fuel listed a w → wpAnyH P md ops Q S (fuel + 1) listed a w
  | 0, _, _, _, h => ⟨fun _ => h.2, fun i hi => by rw [h.1] at hi; cases hi⟩
  | fuel + 1, _, _, _, h => ⟨h.1, fun i hi => wpOp_mono (fun a' w' h' => ⟨h'.1, wpAnyH_fuel fuel _ a' w' h'.2⟩) (h.2 i hi)⟩
theorem wpAnyH_le {f : Nat} {listed : Array Bool} {a : Act} {w : World} (h : wpAnyH P md ops Q S f listed a w) : ∀ k, wpAnyH P md ops Q S (f + k) listed a w
  | 0 => h
  | k + 1 => wpAnyH_fuel _ _ _ _ (wpAnyH_le h k)
/-- no operation selects: shown once -/
theorem wpAnyH_ns {fuel : Nat} {listed : Array Bool} {a : Act} {w : World} (hs : Region.noSelect ops = true) (h : Shut (Region.noSelect ops = true) → wpAnyH P md ops Q S fuel listed a w) : wpAnyH P md ops Q S fuel listed a w := h hs
/-- one step an operation, until the rest is shown by itself -/
theorem wpAnyH_until {I : Array Bool → Act → World → Prop} {F : Nat}
    (hstep : ∀ listed a w, I listed a w → ∀ i o, ops[i]? = some o → listed.getD i true = false → (∀ e ∈ o.after, Region.binds md e = true → listed.getD e.on false = true) →
      ∀ K' : Act → World → Prop, Shut (∀ a' w', S w' → (I (listed.setIfInBounds i true) a' w' ∨ (F ≤ leftN ops.size (listed.setIfInBounds i true) ∧ wpAnyH P md ops Q S F (listed.setIfInBounds i true) a' w')) → K' a' w') →
        if Region.wanted o (yielded ops a.tmps) = true then Oper.wp P o a w K' Q else K' (a.put o.dst undef) w)
    (hend : ∀ listed a w, I listed a w → Region.ready md ops listed = [] → Q .normal a w) :
    ∀ (fuel : Nat) (listed : Array Bool) (a : Act) (w : World), leftN ops.size listed ≤ fuel → I listed a w → wpAnyH P md ops Q S fuel listed a w
  | 0, listed, a, w, hl, hI => by
    have hr := leftN_zero (md := md) (ops := ops) (listed := listed) (by omega)
    exact ⟨hr, hend _ _ _ hI hr⟩
  | fuel + 1, listed, a, w, hl, hI => by
    refine ⟨fun hr => hend _ _ _ hI hr, fun i hi => ?_⟩
    obtain ⟨hf, o, ho, ha⟩ := mem_ready.1 hi
    have hlt : i < ops.size := (Array.getElem?_eq_some_iff.1 ho).1
    refine wpOp_step ho fun K' hK => hstep listed a w hI i o ho hf ha K' fun a' w' hS hI' => hK a' w' ⟨hS, ?_⟩
    have := leftN_set hlt hf
    rcases hI' with hI' | ⟨hF, ht⟩
    · exact wpAnyH_until hstep hend fuel _ a' w' (by omega) hI'
    · have := wpAnyH_le ht (fuel - F)
      rwa [show F + (fuel - F) = fuel by omega] at this
end
end Go.Proofs.Ytinbcdadffljhaa
