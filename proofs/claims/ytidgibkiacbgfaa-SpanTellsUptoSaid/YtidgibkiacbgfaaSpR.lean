/-
  Contract of sp.read for any reader: what a reader is told of a term.
-/
import Derived.Test.YtidgibkiacbgfaaSpB
import Derived.Deep.RegionHeld3
import Derived.Lib.Hide
namespace Go.Proofs.Ytidgibkiacbgfaa
open Go.RowKit
set_option maxRecDepth 100000

def accV (a : Acc) : Value := .agg #[.int .i64 a.1, .bool a.2.1, .int .i64 a.2.2]

/-- the method 'name' of the value behind the interface is the function f, with the receiver r -/
structure Meth (P : Program) (J : World → Prop) (td : TypeId) (dv : Value) (name : String) (f : FuncId) (r : Value) : Prop where
  na : ∀ k w, (nilAhead (k + 8) td dv name).run P w = .ok (some false) w
  me : ∀ k w, J w → (method (k + 8) td dv name).run P w = .ok (f, r) w
  en : ∀ args w, (callFunc f args).run P w = .ok (.enter f args) w

section
variable {σ : Type}

/-- a reader: its state lies in w as I says; memory below block C stays -/
structure Rdr (J : World → Prop) (I : World → σ → Nat → Prop) (C : Nat) (td : TypeId) (dv : Value) (lf : σ → Nat → Acc → σ × Bool) (sf pf : σ → Nat → Nat → Nat → σ) : Prop where
  drew : ∀ w s n, I w s n → I w.drew s n
  there : ∀ w s n, I w s n → J w
  leaf : ∃ f r, Meth Try.prog J td dv "forkwright/sp.leaf" f r ∧ ∀ w s n a, I w s n → n < 1048576 →
    Calls Try.prog f #[r, .int .i64 (n : Nat), accV a] w fun e w' => e = .returned (.bool (lf s n a).2) ∧ I w' (lf s n a).1 (n + 1) ∧ Below C w w'
  ser : ∃ f r, Meth Try.prog J td dv "forkwright/sp.series" f r ∧ ∀ w s x m t, I w s t → x ≤ m → m ≤ t → t ≤ 1048576 →
    Calls Try.prog f #[r, .int .i64 (x : Nat), .int .i64 (m : Nat), .int .i64 (t : Nat)] w fun e w' => e = .returned (.tuple #[]) ∧ I w' (sf s x m t) t ∧ Below C w w'
  par : ∃ f r, Meth Try.prog J td dv "forkwright/sp.parallel" f r ∧ ∀ w s x m t, I w s t → x ≤ m → m ≤ t → t ≤ 1048576 →
    Calls Try.prog f #[r, .int .i64 (x : Nat), .int .i64 (m : Nat), .int .i64 (t : Nat)] w fun e w' => e = .returned (.tuple #[]) ∧ I w' (pf s x m t) t ∧ Below C w w'

/-- two kids, one told behind the other -/
def both2 (x : σ × Nat × Bool) (g : σ → Nat → σ × Nat × Bool) (c : σ → Nat → Nat → σ) : σ × Nat × Bool :=
  match x with
  | (s1, m, false) => (s1, m, false)
  | (s1, m, true) => match g s1 m with
    | (s2, t, true) => (c s2 m t, t, true)
    | (s2, t, false) => (s2, t, false)

/-- what a reader is told: its state, how many leaves, does it want more -/
def Tm.told (lf : σ → Nat → Acc → σ × Bool) (sf pf : σ → Nat → Nat → Nat → σ) : Tm → σ → Nat → σ × Nat × Bool
  | .nil, s, n => (s, n, true)
  | .one a, s, n => ((lf s n a).1, n + 1, (lf s n a).2)
  | .seq l r, s, n => both2 (l.told lf sf pf s n) (r.told lf sf pf) (fun s m t => sf s n m t)
  | .par l r, s, n => both2 (l.told lf sf pf s n) (r.told lf sf pf) (fun s m t => pf s n m t)

theorem both2_cases {x : σ × Nat × Bool} {g : σ → Nat → σ × Nat × Bool} {c : σ → Nat → Nat → σ} {Q : σ × Nat × Bool → Prop}
    (h1 : ∀ s m, x = (s, m, false) → Q (s, m, false)) (h2 : ∀ s m s2 t, x = (s, m, true) → g s m = (s2, t, true) → Q (c s2 m t, t, true)) (h3 : ∀ s m s2 t, x = (s, m, true) → g s m = (s2, t, false) → Q (s2, t, false)) : Q (both2 x g c) := by
  obtain ⟨s, m, b⟩ := x
  cases b with
  | false => exact h1 s m rfl
  | true =>
    rcases hg : g s m with ⟨s2, t, b2⟩
    cases b2 with
    | false => simp only [both2, hg]; exact h3 s m s2 t rfl hg
    | true => simp only [both2, hg]; exact h2 s m s2 t rfl hg

theorem Tm.told_le (lf : σ → Nat → Acc → σ × Bool) (sf pf : σ → Nat → Nat → Nat → σ) (T : Tm) : ∀ s n, n ≤ (T.told lf sf pf s n).2.1 ∧ (T.told lf sf pf s n).2.1 ≤ n + T.sz := by
  induction T with
  | nil => intro s n; exact ⟨Nat.le_refl _, Nat.le_refl _⟩
  | one a => intro s n; simp [Tm.told, Tm.sz]
  | seq l r il ir =>
    intro s n
    simp only [Tm.told, Tm.sz]
    refine both2_cases (Q := fun y => n ≤ y.2.1 ∧ y.2.1 ≤ n + (l.sz + r.sz)) (fun s1 m hx => ?_) (fun s1 m s2 t hx hg => ?_) (fun s1 m s2 t hx hg => ?_)
    · have := il s n; rw [hx] at this; dsimp only at this ⊢; omega
    · have h1 := il s n; have h2 := ir s1 m; rw [hx] at h1; rw [hg] at h2; dsimp only at h1 h2 ⊢; omega
    · have h1 := il s n; have h2 := ir s1 m; rw [hx] at h1; rw [hg] at h2; dsimp only at h1 h2 ⊢; omega
  | par l r il ir =>
    intro s n
    simp only [Tm.told, Tm.sz]
    refine both2_cases (Q := fun y => n ≤ y.2.1 ∧ y.2.1 ≤ n + (l.sz + r.sz)) (fun s1 m hx => ?_) (fun s1 m s2 t hx hg => ?_) (fun s1 m s2 t hx hg => ?_)
    · have := il s n; rw [hx] at this; dsimp only at this ⊢; omega
    · have h1 := il s n; have h2 := ir s1 m; rw [hx] at h1; rw [hg] at h2; dsimp only at h1 h2 ⊢; omega
    · have h1 := il s n; have h2 := ir s1 m; rw [hx] at h1; rw [hg] at h2; dsimp only at h1 h2 ⊢; omega

variable {J : World → Prop} {I : World → σ → Nat → Prop} {C : Nat} {td : TypeId} {dv : Value} {lf : σ → Nat → Acc → σ × Bool} {sf pf : σ → Nat → Nat → Nat → σ}








end
end Go.Proofs.Ytidgibkiacbgfaa
