/-
  Contract of sp.read for any reader: what a reader is told of a term.
-/
import Derived.Test.YtafdpimkfkddaaaDoorSpB
import Derived.Deep.RegionHeld3
import Derived.Lib.Hide
namespace Go.Proofs.YtafdpimkfkddaaaDoor
open Go.RowKit
set_option maxRecDepth 100000

def accV (a : Acc) : Value := .agg #[.int .i64 a.1, .bool a.2.1, .int .i64 a.2.2]

/-- the method 'name' of the value behind the interface is the function f, with the receiver r -/
structure Meth (P : Program) (J : World → Prop) (td : TypeId) (dv : Value) (name : String) (f : FuncId) (r : Value) : Prop where
  na : ∀ k w, (nilAhead (k + 8) td dv name).run P w = .ok (some false) w
  me : ∀ k w, J w → (method (k + 8) td dv name).run P w = .ok (f, r) w
  en : ∀ args w, (callFunc f args).run P w = .ok (.enter f args) w

section
variable {σ : Type}

/-- a reader: its state lies in w as I says; memory below block C stays -/
structure Rdr (J : World → Prop) (I : World → σ → Nat → Prop) (C : Nat) (td : TypeId) (dv : Value) (lf : σ → Nat → Acc → σ × Bool) (sf pf : σ → Nat → Nat → Nat → σ) : Prop where
  drew : ∀ w s n, I w s n → I w.drew s n
  there : ∀ w s n, I w s n → J w
  leaf : ∃ f r, Meth Tryd.prog J td dv "forkwright/sp.leaf" f r ∧ ∀ w s n a, I w s n → n < 1048576 →
    Calls Tryd.prog f #[r, .int .i64 (n : Nat), accV a] w fun e w' => e = .returned (.bool (lf s n a).2) ∧ I w' (lf s n a).1 (n + 1) ∧ Below C w w'
  ser : ∃ f r, Meth Tryd.prog J td dv "forkwright/sp.series" f r ∧ ∀ w s x m t, I w s t → x ≤ m → m ≤ t → t ≤ 1048576 →
    Calls Tryd.prog f #[r, .int .i64 (x : Nat), .int .i64 (m : Nat), .int .i64 (t : Nat)] w fun e w' => e = .returned (.tuple #[]) ∧ I w' (sf s x m t) t ∧ Below C w w'
  par : ∃ f r, Meth Tryd.prog J td dv "forkwright/sp.parallel" f r ∧ ∀ w s x m t, I w s t → x ≤ m → m ≤ t → t ≤ 1048576 →
    Calls Tryd.prog f #[r, .int .i64 (x : Nat), .int .i64 (m : Nat), .int .i64 (t : Nat)] w fun e w' => e = .returned (.tuple #[]) ∧ I w' (pf s x m t) t ∧ Below C w w'

/-- two kids, one told behind the other -/
def both2 (x : σ × Nat × Bool) (g : σ → Nat → σ × Nat × Bool) (c : σ → Nat → Nat → σ) : σ × Nat × Bool :=
  match x with
  | (s1, m, false) => (s1, m, false)
  | (s1, m, true) => match g s1 m with
    | (s2, t, true) => (c s2 m t, t, true)
    | (s2, t, false) => (s2, t, false)

/-- what a reader is told: its state, how many leaves, does it want more -/
def Tm.told (lf : σ → Nat → Acc → σ × Bool) (sf pf : σ → Nat → Nat → Nat → σ) : Tm → σ → Nat → σ × Nat × Bool
  | .nil, s, n => (s, n, true)
  | .one a, s, n => ((lf s n a).1, n + 1, (lf s n a).2)
  | .seq l r, s, n => both2 (l.told lf sf pf s n) (r.told lf sf pf) (fun s m t => sf s n m t)
  | .par l r, s, n => both2 (l.told lf sf pf s n) (r.told lf sf pf) (fun s m t => pf s n m t)

theorem both2_cases {x : σ × Nat × Bool} {g : σ → Nat → σ × Nat × Bool} {c : σ → Nat → Nat → σ} {Q : σ × Nat × Bool → Prop}
    (h1 : ∀ s m, x = (s, m, false) → Q (s, m, false)) (h2 : ∀ s m s2 t, x = (s, m, true) → g s m = (s2, t, true) → Q (c s2 m t, t, true)) (h3 : ∀ s m s2 t, x = (s, m, true) → g s m = (s2, t, false) → Q (s2, t, false)) : Q (both2 x g c) := by
  obtain ⟨s, m, b⟩ := x
  cases b with
  | false => exact h1 s m rfl
  | true =>
    rcases hg : g s m with ⟨s2, t, b2⟩
    cases b2 with
    | false => simp only [both2, hg]; exact h3 s m s2 t rfl hg
    | true => simp only [both2, hg]; exact h2 s m s2 t rfl hg

theorem Tm.told_le (lf : σ → Nat → Acc → σ × Bool) (sf pf : σ → Nat → Nat → Nat → σ) (T : Tm) : ∀ s n, n ≤ (T.told lf sf pf s n).2.1 ∧ (T.told lf sf pf s n).2.1 ≤ n + T.sz := by
  induction T with
  | nil => intro s n; exact ⟨Nat.le_refl _, Nat.le_refl _⟩
  | one a => intro s n; simp [Tm.told, Tm.sz]
  | seq l r il ir =>
    intro s n
    simp only [Tm.told, Tm.sz]
    refine both2_cases (Q := fun y => n ≤ y.2.1 ∧ y.2.1 ≤ n + (l.sz + r.sz)) (fun s1 m hx => ?_) (fun s1 m s2 t hx hg => ?_) (fun s1 m s2 t hx hg => ?_)
    · have := il s n; rw [hx] at this; dsimp only at this ⊢; omega
    · have h1 := il s n; have h2 := ir s1 m; rw [hx] at h1; rw [hg] at h2; dsimp only at h1 h2 ⊢; omega
    · have h1 := il s n; have h2 := ir s1 m; rw [hx] at h1; rw [hg] at h2; dsimp only at h1 h2 ⊢; omega
  | par l r il ir =>
    intro s n
    simp only [Tm.told, Tm.sz]
    refine both2_cases (Q := fun y => n ≤ y.2.1 ∧ y.2.1 ≤ n + (l.sz + r.sz)) (fun s1 m hx => ?_) (fun s1 m s2 t hx hg => ?_) (fun s1 m s2 t hx hg => ?_)
    · have := il s n; rw [hx] at this; dsimp only at this ⊢; omega
    · have h1 := il s n; have h2 := ir s1 m; rw [hx] at h1; rw [hg] at h2; dsimp only at h1 h2 ⊢; omega
    · have h1 := il s n; have h2 := ir s1 m; rw [hx] at h1; rw [hg] at h2; dsimp only at h1 h2 ⊢; omega

variable {J : World → Prop} {I : World → σ → Nat → Prop} {C : Nat} {td : TypeId} {dv : Value} {lf : σ → Nat → Acc → σ × Bool} {sf pf : σ → Nat → Nat → Nat → σ}

/-- what sp.read answers -/
def ReadS (I : World → σ → Nat → Prop) (C : Nat) (td : TypeId) (dv : Value) (lf : σ → Nat → Acc → σ × Bool) (sf pf : σ → Nat → Nat → Nat → σ) (T : Tm) : Prop :=
  ∀ (w : World) (b o : Nat) (h : Hd) (s : σ) (n : Nat), HdAt w b o h → b < C → TIn w C T h → I w s n → n + T.sz ≤ 1048576 →
    Calls Tryd.prog 15 #[.pointer (some ⟨b, o, none⟩), .int .i64 n, .iface td dv] w fun e w' =>
      e = .returned (.tuple #[.int .i64 ((T.told lf sf pf s n).2.1 : Nat), .bool (T.told lf sf pf s n).2.2]) ∧ I w' (T.told lf sf pf s n).1 (T.told lf sf pf s n).2.1 ∧ Below C w w'

theorem read_one (hR : Rdr J I C td dv lf sf pf) (a : Acc) : ReadS I C td dv lf sf pf (.one a) := by
  intro w b o h s n hh hb hT hI hn
  obtain ⟨k, c, x, l, A, m, cap⟩ := h
  obtain ⟨h1, rfl⟩ := hT
  dsimp only at h1
  subst h1
  obtain ⟨l0, l1, l2, l3, l4⟩ := hh
  dsimp only at l0 l1 l2 l3 l4
  simp only [Tm.sz] at hn
  obtain ⟨fl, ra, ⟨hna, hme0, hen⟩, hleaf⟩ := hR.leaf
  have hId := hR.drew w s n hI
  have hme := fun k => hme0 k w.drew (hR.there _ _ _ hId)
  clear hme0
  have e1 : IntKind.i64.wrap ((n : Int) + 1) = ((n + 1 : Nat) : Int) := by rw [IntKind.wrap_i64]; omega
  simp only [Tm.told]
  obtain ⟨y, hy⟩ : ∃ y, y = lf s n (c, x, l) := ⟨_, rfl⟩
  have hc := hleaf w.drew s n (c, x, l) hId (by omega)
  rw [← hy] at hc ⊢
  obtain ⟨s', bb⟩ := y
  dsimp only [accV] at hc ⊢
  have HY := Lib.hid hy
  clear hy hR hleaf hI hId
  obtain ⟨N, hN⟩ : ∃ N, N = n + 1 := ⟨_, rfl⟩
  rw [← hN] at e1 hc ⊢
  have HN := Lib.hid hN
  have HC := Lib.hid hc
  have HB := Below.refl C w
  clear hN hc hn
  go_enter Tryd.func15, Tryd.ntmps15
  go_wp2_with fail
  go_region_held3 (fun w' => w'.cell? ⟨b, o + 1, none⟩ = some (.int .i64 c) ∧ w'.cell? ⟨b, o + 1 + 1, none⟩ = some (.bool x) ∧ w'.cell? ⟨b, o + 1 + 2, none⟩ = some (.int .i64 l))
    (first | (go_split_ands; exact ⟨‹_›, ‹_›, ‹_›⟩))
    (first
      | (refine HC.out.mono ?_; rintro e w5 ⟨rfl, hP5, hB5⟩; have q1 := (hB5.cell (p := ⟨b, o + 1, none⟩) hb).trans l1; have q2 := (hB5.cell (p := ⟨b, o + 1 + 1, none⟩) hb).trans l2; have q3 := (hB5.cell (p := ⟨b, o + 1 + 2, none⟩) hb).trans l3))
  all_goals
    go_wp2_with fail
    go_ret2
    exact ⟨rfl, ‹_›, HB.drew.trans ‹_›⟩

theorem read_nil : ReadS I C td dv lf sf pf .nil := by
  intro w b o h s n hh hb hT hI hn
  obtain ⟨k, c, x, l, A, m, cap⟩ := h
  obtain ⟨h1, h2⟩ := hT
  dsimp only at h1 h2
  obtain ⟨l0, l1, l2, l3, l4⟩ := hh
  dsimp only at l0 l1 l2 l3 l4
  simp only [Tm.told]
  have HB := Below.refl C w
  go_enter Tryd.func15, Tryd.ntmps15
  rcases h2 with ⟨h2, h3⟩ | h2
  · go_wp2_with fail
    go_ret2
    exact ⟨rfl, hI, HB⟩
  · by_cases k2 : k = 2
    · go_wp2_with fail
      go_ret2
      exact ⟨rfl, hI, HB⟩
    · by_cases k3 : k = 3
      · go_wp2_with fail
        go_ret2
        exact ⟨rfl, hI, HB⟩
      · go_wp2_with fail
        go_ret2
        exact ⟨rfl, hI, HB⟩

theorem kids_any {nm : String} {F : FuncId} {rr : Value} {cf : σ → Nat → Nat → Nat → σ} (hIJ : ∀ w s n, I w s n → J w) (hM : Meth Tryd.prog J td dv nm F rr)
    (hcf : ∀ w s x m t, I w s t → x ≤ m → m ≤ t → t ≤ 1048576 →
      Calls Tryd.prog F #[rr, .int .i64 (x : Nat), .int .i64 (m : Nat), .int .i64 (t : Nat)] w fun e w' => e = .returned (.tuple #[]) ∧ I w' (cf s x m t) t ∧ Below C w w')
    {L R : Tm} (hl : ReadS I C td dv lf sf pf L) (hr : ReadS I C td dv lf sf pf R) (w : World) (b o k cap : Nat) (hL hD : Hd) (s : σ) (n : Nat)
    (hhl : HdAt w b o hL) (hhr : HdAt w b (o + 5) hD) (hb : b < C) (hTl : TIn w C L hL) (hTr : TIn w C R hD) (hI : I w s n) (hn : n + (L.sz + R.sz) ≤ 1048576) (hk : 2 ≤ k) :
    Calls Tryd.prog 28 #[.slice (some ⟨b, o, none⟩) k cap, .int .i64 n, .iface td dv, .func (Fn.method nm) #[.iface td dv] #[]] w fun e w' =>
      ∃ y, y = both2 (L.told lf sf pf s n) (R.told lf sf pf) (fun s m t => cf s n m t) ∧ e = .returned (.tuple #[.int .i64 (y.2.1 : Nat), .bool y.2.2]) ∧ I w' y.1 y.2.1 ∧ Below C w w' := by
  have hm1 := L.told_le lf sf pf s n
  have c1 := hl w b o hL s n hhl hb hTl hI (by omega)
  rcases hx : L.told lf sf pf s n with ⟨s1, m, b1⟩
  rw [hx] at hm1 c1
  dsimp only at hm1 c1
  obtain ⟨hna, hme0, hen⟩ := hM
  have HME := Lib.hid hme0
  clear hme0
  have k0 : (0 : Int) < (k : Int) := by omega
  have k1 : (1 : Int) < (k : Int) := by omega
  cases b1 with
  | false =>
    have HC := Lib.hid c1
    clear c1 hl hr hcf hhl hhr hTl hTr
    go_enter Tryd.func28, Tryd.ntmps28
    go_wp2_with (first
      | (go_at_call 15; refine HC.out.mono ?_; rintro e w1 ⟨rfl, hI1, hB1⟩)
      | fail)
    go_ret2
    exact ⟨_, rfl, rfl, hI1, hB1⟩
  | true =>
    rcases hg : R.told lf sf pf s1 m with ⟨s2, t, b2⟩
    have hm2 := R.told_le lf sf pf s1 m
    rw [hg] at hm2
    dsimp only at hm2
    have c2 : ∀ w1, I w1 s1 m → Below C w w1 → _ := fun w1 hI1 hB1 => hr w1 b (o + 5) hD s1 m (hhr.below hB1 hb) hb (hTr.below hB1 (Nat.le_refl _)) hI1 (by omega)
    rw [hg] at c2
    dsimp only at c2
    have HC := Lib.hid c1
    have HC2 := Lib.hid c2
    have hc3 := fun w2 (h2 : I w2 s2 t) => hcf w2 s2 n m t h2 (by omega) (by omega) (by omega)
    have HC3 := Lib.hid hc3
    clear c1 c2 hl hr hcf hhl hhr hTl hTr hc3
    cases b2 with
    | false =>
      go_enter Tryd.func28, Tryd.ntmps28
      go_wp2_with (first
        | (go_at_call_of 15 (Value.pointer (some ⟨b, o, none⟩)); refine HC.out.mono ?_; rintro e w1 ⟨rfl, hI1, hB1⟩)
        | (go_at_call 15; refine (HC2.out _ hI1 hB1).mono ?_; rintro e w2 ⟨rfl, hI2, hB2⟩)
        | fail)
      go_ret2
      simp only [both2, hg]
      exact ⟨_, rfl, rfl, hI2, hB1.trans hB2⟩
    | true =>
      go_enter Tryd.func28, Tryd.ntmps28
      go_wp2_with (first
        | (go_at_call_of 15 (Value.pointer (some ⟨b, o, none⟩)); refine HC.out.mono ?_; rintro e w1 ⟨rfl, hI1, hB1⟩)
        | (go_at_call 15; refine (HC2.out _ hI1 hB1).mono ?_; rintro e w2 ⟨rfl, hI2, hB2⟩; have hme2 := fun k => HME.out k w2 (hIJ _ _ _ hI2))
        | (refine (HC3.out _ hI2).mono ?_; rintro e w3 ⟨rfl, hI3, hB3⟩)
        | fail)
      go_ret2
      simp only [both2, hg]
      exact ⟨_, rfl, rfl, hI3, (hB1.trans hB2).trans hB3⟩

theorem read_seq (hR : Rdr J I C td dv lf sf pf) {L R : Tm} (hl : ReadS I C td dv lf sf pf L) (hr : ReadS I C td dv lf sf pf R) : ReadS I C td dv lf sf pf (.seq L R) := by
  intro w b o h s n hh hb hT hI hn
  obtain ⟨k, c, x, l, A, m, cap⟩ := h
  obtain ⟨h1, h2, kb, ko, hL, hD, h3, h4, h5, h6, h7, h8⟩ := hT
  dsimp only at h1 h2 h3
  subst h1
  subst h3
  obtain ⟨l0, _, _, _, l4⟩ := hh
  dsimp only at l0 l4
  simp only [Tm.sz] at hn
  obtain ⟨F, rr, hM, hcf⟩ := hR.ser
  have hId := hR.drew w s n hI
  have hD0 := (Below.refl C w).drew
  have hc := kids_any hR.there hM hcf hl hr w.drew kb ko m cap hL hD s n (h5.below hD0 h4) (h6.below hD0 h4) h4 (h7.below hD0 (Nat.le_refl _)) (h8.below hD0 (Nat.le_refl _)) hId hn h2
  simp only [Tm.told]
  obtain ⟨y, hy⟩ : ∃ y, y = both2 (L.told lf sf pf s n) (R.told lf sf pf) (fun s m t => sf s n m t) := ⟨_, rfl⟩
  rw [← hy] at hc ⊢
  obtain ⟨hna, _, hen⟩ := hM
  have HC := Lib.hid hc
  clear hy hc hR hl hr hcf hn hI hId h5 h6 h7 h8
  go_enter Tryd.func15, Tryd.ntmps15
  go_wp2_with fail
  go_region_held3 (fun w' => w'.cell? ⟨b, o + 4, none⟩ = some (.slice (some ⟨kb, ko, none⟩) m cap))
    (first | assumption)
    (first
      | (go_at_call 28; refine HC.out.mono ?_; rintro e w5 ⟨_, rfl, rfl, hP5, hB5⟩; have q1 := (hB5.cell (p := ⟨b, o + 4, none⟩) hb).trans l4))
  all_goals
    go_wp2_with fail
    go_ret2
    exact ⟨rfl, hP5, hD0.trans hB5⟩

theorem read_par (hR : Rdr J I C td dv lf sf pf) {L R : Tm} (hl : ReadS I C td dv lf sf pf L) (hr : ReadS I C td dv lf sf pf R) : ReadS I C td dv lf sf pf (.par L R) := by
  intro w b o h s n hh hb hT hI hn
  obtain ⟨k, c, x, l, A, m, cap⟩ := h
  obtain ⟨h1, h2, kb, ko, hL, hD, h3, h4, h5, h6, h7, h8⟩ := hT
  dsimp only at h1 h2 h3
  subst h1
  subst h3
  obtain ⟨l0, _, _, _, l4⟩ := hh
  dsimp only at l0 l4
  simp only [Tm.sz] at hn
  obtain ⟨F, rr, hM, hcf⟩ := hR.par
  have hId := hR.drew w s n hI
  have hD0 := (Below.refl C w).drew
  have hc := kids_any hR.there hM hcf hl hr w.drew kb ko m cap hL hD s n (h5.below hD0 h4) (h6.below hD0 h4) h4 (h7.below hD0 (Nat.le_refl _)) (h8.below hD0 (Nat.le_refl _)) hId hn h2
  simp only [Tm.told]
  obtain ⟨y, hy⟩ : ∃ y, y = both2 (L.told lf sf pf s n) (R.told lf sf pf) (fun s m t => pf s n m t) := ⟨_, rfl⟩
  rw [← hy] at hc ⊢
  obtain ⟨hna, _, hen⟩ := hM
  have HC := Lib.hid hc
  clear hy hc hR hl hr hcf hn hI hId h5 h6 h7 h8
  go_enter Tryd.func15, Tryd.ntmps15
  go_wp2_with fail
  go_region_held3 (fun w' => w'.cell? ⟨b, o + 4, none⟩ = some (.slice (some ⟨kb, ko, none⟩) m cap))
    (first | assumption)
    (first
      | (go_at_call 28; refine HC.out.mono ?_; rintro e w5 ⟨_, rfl, rfl, hP5, hB5⟩; have q1 := (hB5.cell (p := ⟨b, o + 4, none⟩) hb).trans l4))
  all_goals
    go_wp2_with fail
    go_ret2
    exact ⟨rfl, hP5, hD0.trans hB5⟩

/-- sp.read, for any reader and any term -/
theorem read_any (hR : Rdr J I C td dv lf sf pf) (T : Tm) : ReadS I C td dv lf sf pf T := by
  induction T with
  | nil => exact read_nil
  | one a => exact read_one hR a
  | seq l r il ir => exact read_seq hR il ir
  | par l r il ir => exact read_par hR il ir

end
end Go.Proofs.YtafdpimkfkddaaaDoor
