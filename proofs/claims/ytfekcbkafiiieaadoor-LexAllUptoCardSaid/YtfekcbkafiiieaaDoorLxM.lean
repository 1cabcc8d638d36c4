/-
  A text's tokens, byte by byte: joined and parted again, two texts, blanks more. Plain mathematics.
-/
import Derived.Test.YtfekcbkafiiieaaDoorBsMem
namespace Go.Proofs.YtfekcbkafiiieaaDoor

/-- what a byte is: 0 a blank, 1 a digit, 2 a letter, 3 a sign, 4 nothing -/
def jcls (c : UInt8) : Nat :=
  if c ∈ [(32 : UInt8), 10, 9] then 0 else if c ∈ [(48 : UInt8), 49, 50, 51, 52, 53, 54, 55, 56, 57] then 1
  else if (97 : UInt8) ≤ c ∧ c ≤ 122 then 2 else if c ∈ [(123 : UInt8), 125, 91, 93, 40, 41, 59, 61, 60, 43, 45, 42, 47, 37] then 3 else 4
/-- a token: its kind, its place, its text -/
structure Tk where
  k : Nat
  pos : Nat
  tx : List UInt8
def dval (l : List UInt8) : Nat := l.foldl (fun v c => v * 10 + (c.toNat - 48)) 0
def numOk (l : List UInt8) : Bool := (decide (l.length = 1) || !(decide (l.head? = some 48))) && decide (dval l ≤ 9223372036854775807)
def Tk.ok (t : Tk) : Bool := !(decide (t.k = 1)) || numOk t.tx
/-- the tokens that are whole, and the one that is begun -/
structure Ts where
  out : List Tk
  op : Option Tk
inductive Lr (α : Type)
  | err (n : Nat)
  | ok (a : α)
def tkext (t : Tk) (k : Nat) (c : UInt8) : Bool := (decide (t.k = 1) && decide (k = 1)) || (decide (t.k = 2) && (decide (k = 1) || decide (k = 2))) || (decide (t.tx = [61]) && decide (c = 61))
def Ts.close (out : List Tk) (t : Tk) : Ts := if t.tx = [61, 61] then ⟨out ++ [t], none⟩ else ⟨out, some t⟩
def fresh (out : List Tk) (i : Nat) (c : UInt8) : Ts := if jcls c = 0 then ⟨out, none⟩ else ⟨out, some ⟨jcls c, i, [c]⟩⟩
def stp (st : Ts) (i : Nat) (c : UInt8) : Lr Ts :=
  match st.op with
  | some t =>
    if jcls c = 4 then (if t.ok = true then .err i else .err t.pos)
    else if tkext t (jcls c) c = true then .ok (Ts.close st.out ⟨t.k, t.pos, t.tx ++ [c]⟩)
    else if t.ok = true then .ok (fresh (st.out ++ [t]) i c) else .err t.pos
  | none => if jcls c = 4 then .err i else .ok (fresh st.out i c)
def fin (st : Ts) : Lr (List Tk) :=
  match st.op with
  | some t => if t.ok = true then .ok (st.out ++ [t]) else .err t.pos
  | none => .ok st.out
def stps : List UInt8 → Nat → Ts → Lr Ts
  | [], _, st => .ok st
  | c :: cs, i, st => match stp st i c with
    | .err n => .err n
    | .ok st' => stps cs (i + 1) st'
def run (s : List UInt8) (i : Nat) (st : Ts) : Lr (List Tk) :=
  match stps s i st with
  | .err n => .err n
  | .ok st' => fin st'
/-- the tokens of a text -/
def lexd (s : List UInt8) : Lr (List Tk) := run s 0 ⟨[], none⟩

theorem run_nil (i : Nat) (st : Ts) : run [] i st = fin st := rfl
theorem run_cons (c : UInt8) (cs : List UInt8) (i : Nat) (st : Ts) : run (c :: cs) i st = match stp st i c with
    | .err n => .err n
    | .ok st' => run cs (i + 1) st' := by
  unfold run
  show (match (match stp st i c with | .err n => Lr.err n | .ok st' => stps cs (i + 1) st') with | .err n => Lr.err n | .ok st' => fin st') = _
  cases stp st i c <;> rfl
theorem stps_append : ∀ (a b : List UInt8) (i : Nat) (st : Ts), stps (a ++ b) i st = match stps a i st with
    | .err n => .err n
    | .ok st' => stps b (i + a.length) st'
  | [], b, i, st => rfl
  | c :: a, b, i, st => by
    show (match stp st i c with | .err n => Lr.err n | .ok st' => stps (a ++ b) (i + 1) st') = match (match stp st i c with | .err n => Lr.err n | .ok st' => stps a (i + 1) st') with | .err n => .err n | .ok st' => stps b (i + (a.length + 1)) st'
    cases stp st i c with
    | err n => rfl
    | ok st' =>
      show stps (a ++ b) (i + 1) st' = _
      rw [stps_append a b, show i + 1 + a.length = i + (a.length + 1) by omega]
theorem run_append (a b : List UInt8) (i : Nat) (st : Ts) : run (a ++ b) i st = match stps a i st with
    | .err n => .err n
    | .ok st' => run b (i + a.length) st' := by
  unfold run
  rw [stps_append]
  cases stps a i st <;> rfl
theorem blank_ne {b : UInt8} (h : jcls b = 0) : b ≠ 61 := by
  rintro rfl
  revert h
  decide
theorem ext_blank {t : Tk} {b : UInt8} (h : jcls b = 0) : tkext t (jcls b) b = false := by
  unfold tkext
  rw [h]
  simp [blank_ne h]
/-- a blank ends what was begun, as the end does -/
theorem stp_blank (st : Ts) (i : Nat) {b : UInt8} (h : jcls b = 0) : stp st i b = match fin st with
    | .err n => .err n
    | .ok l => .ok ⟨l, none⟩ := by
  obtain ⟨out, op⟩ := st
  unfold stp fin
  cases op with
  | none =>
    dsimp only
    rw [if_neg (by omega)]
    unfold fresh
    rw [if_pos h]
  | some t =>
    dsimp only
    rw [if_neg (by omega), if_neg (by rw [ext_blank h]; decide)]
    by_cases ht : t.ok = true
    · rw [if_pos ht, if_pos ht]
      unfold fresh
      rw [if_pos h]
    · rw [if_neg ht, if_neg ht]
theorem run_blank (a b : List UInt8) (i : Nat) (st : Ts) {c : UInt8} (h : jcls c = 0) : run (a ++ c :: b) i st = match run a i st with
    | .err n => .err n
    | .ok l => run b (i + a.length + 1) ⟨l, none⟩ := by
  rw [run_append]
  unfold run
  cases hs : stps a i st with
  | err n => rfl
  | ok st' =>
    show run (c :: b) (i + a.length) st' = match fin st' with | .err n => .err n | .ok l => run b (i + a.length + 1) ⟨l, none⟩
    rw [run_cons, stp_blank st' _ h]
    cases fin st' <;> rfl
theorem run_blank0 (b : List UInt8) (i : Nat) (l : List Tk) {c : UInt8} (h : jcls c = 0) : run (c :: b) i ⟨l, none⟩ = run b (i + 1) ⟨l, none⟩ := run_blank [] b i ⟨l, none⟩ h

/-! ### tokens later, behind others -/
def Tk.sh (d : Nat) (t : Tk) : Tk := ⟨t.k, t.pos + d, t.tx⟩
def Ts.sh (pre : List Tk) (d : Nat) (st : Ts) : Ts := ⟨pre ++ st.out.map (Tk.sh d), st.op.map (Tk.sh d)⟩
theorem Tk.sh_ok (d : Nat) (t : Tk) : (t.sh d).ok = t.ok := rfl
theorem fresh_sh (pre : List Tk) (d : Nat) (out : List Tk) (i : Nat) (c : UInt8) : fresh (pre ++ out.map (Tk.sh d)) (i + d) c = (fresh out i c).sh pre d := by
  unfold fresh
  split <;> rfl
theorem close_sh (pre : List Tk) (d : Nat) (out : List Tk) (t : Tk) : Ts.close (pre ++ out.map (Tk.sh d)) (t.sh d) = (Ts.close out t).sh pre d := by
  unfold Ts.close
  have : (t.sh d).tx = t.tx := rfl
  rw [this]
  split
  · unfold Ts.sh
    simp
  · rfl
theorem stp_sh (pre : List Tk) (d : Nat) (st : Ts) (i : Nat) (c : UInt8) : stp (st.sh pre d) (i + d) c = match stp st i c with
    | .err n => .err (n + d)
    | .ok st' => .ok (st'.sh pre d) := by
  obtain ⟨out, op⟩ := st
  cases op with
  | none =>
    unfold stp Ts.sh
    dsimp only [Option.map]
    split
    · rfl
    · show Lr.ok _ = Lr.ok _
      rw [fresh_sh]
      rfl
  | some t =>
    unfold stp
    show (if jcls c = 4 then (if (t.sh d).ok = true then Lr.err (i + d) else .err (t.pos + d)) else if tkext (t.sh d) (jcls c) c = true then Lr.ok (Ts.close (pre ++ out.map (Tk.sh d)) (Tk.sh d ⟨t.k, t.pos, t.tx ++ [c]⟩)) else if (t.sh d).ok = true then .ok (fresh ((pre ++ out.map (Tk.sh d)) ++ [t.sh d]) (i + d) c) else .err (t.pos + d)) = _
    have e1 : tkext (t.sh d) (jcls c) c = tkext t (jcls c) c := rfl
    have e2 : (pre ++ out.map (Tk.sh d)) ++ [t.sh d] = pre ++ (out ++ [t]).map (Tk.sh d) := by simp
    rw [e1, e2, Tk.sh_ok, close_sh, fresh_sh]
    dsimp only
    repeat' split
    all_goals simp_all
theorem fin_sh (pre : List Tk) (d : Nat) (st : Ts) : fin (st.sh pre d) = match fin st with
    | .err n => .err (n + d)
    | .ok l => .ok (pre ++ l.map (Tk.sh d)) := by
  obtain ⟨out, op⟩ := st
  cases op with
  | none => rfl
  | some t =>
    show (if (t.sh d).ok = true then Lr.ok ((pre ++ out.map (Tk.sh d)) ++ [t.sh d]) else .err (t.pos + d)) = match (if t.ok = true then Lr.ok (out ++ [t]) else .err t.pos) with | .err n => .err (n + d) | .ok l => .ok (pre ++ l.map (Tk.sh d))
    rw [Tk.sh_ok]
    split
    · simp
    · rfl
theorem run_sh (pre : List Tk) (d : Nat) : ∀ (s : List UInt8) (i : Nat) (st : Ts), run s (i + d) (st.sh pre d) = match run s i st with
    | .err n => .err (n + d)
    | .ok l => .ok (pre ++ l.map (Tk.sh d))
  | [], _, st => fin_sh pre d st
  | c :: cs, i, st => by
    rw [run_cons, run_cons, stp_sh]
    cases stp st i c with
    | err n => rfl
    | ok st' =>
      show run cs (i + d + 1) (st'.sh pre d) = _
      rw [show i + d + 1 = i + 1 + d by omega, run_sh pre d cs]
/-- TWO TEXTS WITH A BLANK BETWEEN -/
theorem lexd_two (s t : List UInt8) : lexd (s ++ 32 :: t) = match lexd s with
    | .err n => .err n
    | .ok a => match lexd t with
      | .err n => .err (n + (s.length + 1))
      | .ok b => .ok (a ++ b.map (Tk.sh (s.length + 1))) := by
  unfold lexd
  rw [run_blank s t 0 _ (by decide)]
  cases run s 0 ⟨[], none⟩ with
  | err n => rfl
  | ok a =>
    show run t (0 + s.length + 1) ⟨a, none⟩ = _
    have h := run_sh a (s.length + 1) t 0 ⟨[], none⟩
    have e : Ts.sh a (s.length + 1) ⟨[], none⟩ = ⟨a, none⟩ := by simp [Ts.sh]
    rw [e] at h
    rw [Nat.add_assoc, h]

/-! ### the same kinds and texts -/
def Tk.nk (t : Tk) : Nat × List UInt8 := (t.k, t.tx)
def alk (a b : List Tk) : Prop := a.map Tk.nk = b.map Tk.nk
def Ts.nk (st : Ts) : List (Nat × List UInt8) × Option (Nat × List UInt8) := (st.out.map Tk.nk, st.op.map Tk.nk)
theorem ok_nk {t u : Tk} (h : t.nk = u.nk) : t.ok = u.ok := by
  obtain ⟨h1, h2⟩ := Prod.mk.inj h
  unfold Tk.ok
  rw [h1, h2]
theorem alk_snoc {a b : List Tk} {t u : Tk} (h : alk a b) (e : t.nk = u.nk) : alk (a ++ [t]) (b ++ [u]) := by
  unfold alk at h ⊢
  rw [List.map_append, List.map_append, h]
  simp [e]
theorem fresh_nk {a b : List Tk} (h : alk a b) (i j : Nat) (c : UInt8) : (fresh a i c).nk = (fresh b j c).nk := by
  unfold fresh Ts.nk
  split
  · show (_, _) = (_, _)
    rw [show a.map Tk.nk = b.map Tk.nk from h]
  · show (_, _) = (_, _)
    rw [show a.map Tk.nk = b.map Tk.nk from h]
    rfl
theorem close_nk {a b : List Tk} {t u : Tk} (h : alk a b) (e : t.nk = u.nk) : (Ts.close a t).nk = (Ts.close b u).nk := by
  unfold Ts.close
  rw [show t.tx = u.tx from (Prod.mk.inj e).2]
  split
  · show (_, _) = (_, _)
    rw [show (a ++ [t]).map Tk.nk = (b ++ [u]).map Tk.nk from alk_snoc h e]
  · show (_, _) = (_, _)
    rw [show a.map Tk.nk = b.map Tk.nk from h]
    show (_, some t.nk) = (_, some u.nk)
    rw [e]
inductive LrSame {α : Type} (R : α → α → Prop) : Lr α → Lr α → Prop
  | err (n m : Nat) : LrSame R (.err n) (.err m)
  | ok {a b : α} : R a b → LrSame R (.ok a) (.ok b)
theorem stp_nk {st st' : Ts} (h : st.nk = st'.nk) (i j : Nat) (c : UInt8) : LrSame (fun a b => a.nk = b.nk) (stp st i c) (stp st' j c) := by
  obtain ⟨out, op⟩ := st
  obtain ⟨out', op'⟩ := st'
  obtain ⟨h1, h2⟩ := Prod.mk.inj h
  replace h1 : alk out out' := h1
  cases op with
  | none =>
    cases op' with
    | some u => simp at h2
    | none =>
      unfold stp
      dsimp only
      split
      · exact .err _ _
      · exact .ok (fresh_nk h1 _ _ _)
  | some t =>
    cases op' with
    | none => simp at h2
    | some u =>
      have e : t.nk = u.nk := by simpa using h2
      obtain ⟨e1, e2⟩ := Prod.mk.inj e
      have e3 : tkext t (jcls c) c = tkext u (jcls c) c := by unfold tkext; rw [e1, e2]
      unfold stp
      dsimp only
      rw [e3, ok_nk e]
      split
      · split
        · exact .err _ _
        · exact .err _ _
      · split
        · exact .ok (close_nk h1 (by show (t.k, t.tx ++ [c]) = (u.k, u.tx ++ [c]); rw [e1, e2]))
        · split
          · exact .ok (fresh_nk (alk_snoc h1 e) _ _ _)
          · exact .err _ _
theorem fin_nk {st st' : Ts} (h : st.nk = st'.nk) : LrSame alk (fin st) (fin st') := by
  obtain ⟨out, op⟩ := st
  obtain ⟨out', op'⟩ := st'
  obtain ⟨h1, h2⟩ := Prod.mk.inj h
  replace h1 : alk out out' := h1
  cases op with
  | none =>
    cases op' with
    | some u => simp at h2
    | none => exact .ok h1
  | some t =>
    cases op' with
    | none => simp at h2
    | some u =>
      have e : t.nk = u.nk := by simpa using h2
      unfold fin
      dsimp only
      rw [ok_nk e]
      split
      · exact .ok (alk_snoc h1 e)
      · exact .err _ _
theorem run_nk : ∀ (s : List UInt8) {st st' : Ts}, st.nk = st'.nk → ∀ i j : Nat, LrSame alk (run s i st) (run s j st')
  | [], _, _, h, _, _ => fin_nk h
  | c :: cs, st, st', h, i, j => by
    rw [run_cons, run_cons]
    have h1 := stp_nk h i j c
    revert h1
    cases stp st i c with
    | err n =>
      cases stp st' j c with
      | err m => exact fun _ => .err _ _
      | ok b => intro h1; cases h1
    | ok a =>
      cases stp st' j c with
      | err m => intro h1; cases h1
      | ok b =>
        intro h1
        cases h1 with
        | ok h1 => exact run_nk cs h1 _ _
theorem alk_nk {a b : List Tk} (h : alk a b) : (Ts.mk a none).nk = (Ts.mk b none).nk := by
  show (_, _) = (_, _)
  rw [show a.map Tk.nk = b.map Tk.nk from h]
theorem LrSame.symm' {a b : Lr (List Tk)} (h : LrSame alk a b) : LrSame alk b a := by
  cases h with
  | err n m => exact .err _ _
  | ok h => exact .ok (Eq.symm h)
/-- a blank at the end is no matter -/
theorem run_end (s : List UInt8) (i : Nat) (st : Ts) {c : UInt8} (h : jcls c = 0) : run (s ++ [c]) i st = run s i st := by
  rw [run_blank s [] i st h]
  cases run s i st <;> rfl
/-- BLANKS MORE where there is one -/
theorem lexd_blanks (s u : List UInt8) {b1 b2 b3 b4 b : UInt8} (h1 : jcls b1 = 0) (h2 : jcls b2 = 0) (h3 : jcls b3 = 0) (h4 : jcls b4 = 0) (h : jcls b = 0) :
    LrSame alk (lexd (s ++ b :: u)) (lexd (b1 :: (s ++ b2 :: b3 :: b :: u ++ [b4]))) := by
  unfold lexd
  rw [run_blank0 _ _ _ h1, run_end _ _ _ h4, run_blank s u _ _ h, run_blank s (b3 :: b :: u) _ _ h2]
  have h0 := run_nk s (st := ⟨[], none⟩) (st' := ⟨[], none⟩) rfl 0 (0 + 1)
  revert h0
  cases run s 0 ⟨[], none⟩ with
  | err n =>
    cases run s (0 + 1) ⟨[], none⟩ with
    | err m => exact fun _ => .err _ _
    | ok b => intro h0; cases h0
  | ok a =>
    cases run s (0 + 1) ⟨[], none⟩ with
    | err m => intro h0; cases h0
    | ok b' =>
      intro h0
      cases h0 with
      | ok h0 =>
        dsimp only
        rw [run_blank0 _ _ _ h3, run_blank0 _ _ _ h]
        exact run_nk u (alk_nk h0) _ _
/-- blanks before and behind -/
theorem lexd_ends (s : List UInt8) {b1 b2 b3 : UInt8} (h1 : jcls b1 = 0) (h2 : jcls b2 = 0) (h3 : jcls b3 = 0) : LrSame alk (lexd s) (lexd (b1 :: b2 :: (s ++ [b3]))) := by
  unfold lexd
  rw [run_blank0 _ _ _ h1, run_blank0 _ _ _ h2, run_end _ _ _ h3]
  exact run_nk s rfl _ _

/-! ### joined and parted again -/
/-- parted alone, it is the token that it is -/
def Tk.wh (t : Tk) : Prop := ∀ (out : List Tk) (i : Nat), stps t.tx i ⟨out, none⟩ = .ok (Ts.close out ⟨t.k, i, t.tx⟩)
def Ts.wh (st : Ts) : Prop := (∀ t ∈ st.out, t.wh ∧ t.ok = true) ∧ ∀ t, st.op = some t → t.wh ∧ t.tx ≠ [61, 61]
theorem wh_new {c : UInt8} (h0 : jcls c ≠ 0) (h4 : jcls c ≠ 4) (i : Nat) : (Tk.mk (jcls c) i [c]).wh := fun out j => by
  show (match stp ⟨out, none⟩ j c with | .err n => Lr.err n | .ok st' => stps [] (j + 1) st') = _
  unfold stp
  dsimp only
  rw [if_neg h4]
  unfold fresh
  rw [if_neg h0]
  unfold Ts.close
  rw [if_neg (by simp)]
  rfl
theorem wh_ext {t : Tk} {c : UInt8} (h : t.wh) (hn : t.tx ≠ [61, 61]) (h4 : jcls c ≠ 4) (he : tkext t (jcls c) c = true) : (Tk.mk t.k t.pos (t.tx ++ [c])).wh := fun out j => by
  show stps (t.tx ++ [c]) j ⟨out, none⟩ = _
  rw [stps_append, h out j]
  unfold Ts.close
  rw [if_neg (show ¬ (Tk.mk t.k j t.tx).tx = [61, 61] from hn)]
  show (match stp ⟨out, some ⟨t.k, j, t.tx⟩⟩ (j + t.tx.length) c with | .err n => Lr.err n | .ok st' => stps [] _ st') = _
  unfold stp
  dsimp only
  rw [if_neg h4, if_pos (show tkext ⟨t.k, j, t.tx⟩ (jcls c) c = true from he)]
  rfl
theorem fresh_wh {out : List Tk} {i : Nat} {c : UInt8} (h4 : jcls c ≠ 4) (h : ∀ t ∈ out, t.wh ∧ t.ok = true) : (fresh out i c).wh := by
  unfold fresh
  split
  · exact ⟨h, fun t ht => by cases ht⟩
  · rename_i h0
    refine ⟨h, fun t ht => ?_⟩
    injection ht with ht
    subst ht
    exact ⟨wh_new h0 h4 i, by simp⟩
theorem wh_eq {t : Tk} (h : t.wh) (e : t.tx = [61]) : t.k = 3 := by
  have h1 := h [] 0
  rw [e] at h1
  have h2 : stps [61] 0 ⟨[], none⟩ = .ok (Ts.close [] ⟨jcls 61, 0, [61]⟩) := wh_new (c := 61) (by decide) (by decide) 0 [] 0
  rw [h2] at h1
  unfold Ts.close at h1
  rw [if_neg (by simp), if_neg (by simp)] at h1
  injection h1 with h1
  injection h1 with _ h1
  injection h1 with h1
  injection h1 with h1
  rw [← h1]
  decide
theorem close_wh {out : List Tk} {t : Tk} {c : UInt8} (h : ∀ t ∈ out, t.wh ∧ t.ok = true) (ht : t.wh) (hn : t.tx ≠ [61, 61]) (h4 : jcls c ≠ 4) (he : tkext t (jcls c) c = true) : (Ts.close out ⟨t.k, t.pos, t.tx ++ [c]⟩).wh := by
  have hw := wh_ext ht hn h4 he
  unfold Ts.close
  by_cases h2 : t.tx ++ [c] = [61, 61]
  · rw [if_pos h2]
    refine ⟨fun u hu => ?_, fun u hu => by cases hu⟩
    rcases List.mem_append.1 hu with h1 | h1
    · exact h u h1
    · rw [List.mem_singleton] at h1
      subst h1
      refine ⟨hw, ?_⟩
      have e : t.tx = [61] := List.append_inj_left' (s₁ := t.tx) (t₁ := [c]) (s₂ := [61]) (t₂ := [61]) h2 rfl
      have := wh_eq ht e
      unfold Tk.ok
      dsimp only
      rw [this]
      rfl
  · rw [if_neg h2]
    refine ⟨h, fun u hu => ?_⟩
    injection hu with hu
    subst hu
    exact ⟨hw, h2⟩
theorem stp_wh {st : Ts} (h : st.wh) {i : Nat} {c : UInt8} {st' : Ts} (hs : stp st i c = .ok st') : st'.wh := by
  obtain ⟨out, op⟩ := st
  obtain ⟨h1, h2⟩ := h
  dsimp only at h1 h2
  unfold stp at hs
  cases op with
  | none =>
    dsimp only at hs
    split at hs
    · cases hs
    · rename_i h4
      injection hs with hs
      subst hs
      exact fresh_wh h4 h1
  | some t =>
    obtain ⟨h3, h5⟩ := h2 t rfl
    dsimp only at hs
    split at hs
    · split at hs <;> cases hs
    · rename_i h4
      split at hs
      · rename_i he
        injection hs with hs
        subst hs
        exact close_wh h1 h3 h5 h4 he
      · split at hs
        · rename_i hk
          injection hs with hs
          subst hs
          refine fresh_wh h4 fun u hu => ?_
          rcases List.mem_append.1 hu with h6 | h6
          · exact h1 u h6
          · rw [List.mem_singleton] at h6
            subst h6
            exact ⟨h3, hk⟩
        · cases hs
theorem fin_wh {st : Ts} (h : st.wh) {l : List Tk} (hs : fin st = .ok l) : ∀ t ∈ l, t.wh ∧ t.ok = true := by
  obtain ⟨out, op⟩ := st
  obtain ⟨h1, h2⟩ := h
  dsimp only at h1 h2
  unfold fin at hs
  cases op with
  | none =>
    injection hs with hs
    subst hs
    exact h1
  | some t =>
    dsimp only at hs
    split at hs
    · rename_i hk
      injection hs with hs
      subst hs
      intro u hu
      rcases List.mem_append.1 hu with h6 | h6
      · exact h1 u h6
      · rw [List.mem_singleton] at h6
        subst h6
        exact ⟨(h2 u rfl).1, hk⟩
    · cases hs
theorem run_wh : ∀ (s : List UInt8) {i : Nat} {st : Ts}, st.wh → ∀ {l : List Tk}, run s i st = .ok l → ∀ t ∈ l, t.wh ∧ t.ok = true
  | [], _, _, h, _, hr => fin_wh h hr
  | c :: cs, i, st, h, l, hr => by
    rw [run_cons] at hr
    cases hs : stp st i c with
    | err n => rw [hs] at hr; cases hr
    | ok st' =>
      rw [hs] at hr
      exact run_wh cs (stp_wh h hs) hr
theorem lexd_wh {s : List UInt8} {l : List Tk} (h : lexd s = .ok l) : ∀ t ∈ l, t.wh ∧ t.ok = true := run_wh s ⟨fun _ h => by simp at h, fun _ h => by cases h⟩ h
/-- with a blank between -/
def joinT : List (List UInt8) → List UInt8
  | [] => []
  | [x] => x
  | x :: y :: l => x ++ 32 :: joinT (y :: l)
theorem run_one {t : Tk} (h : t.wh) (hk : t.ok = true) (out : List Tk) (i : Nat) : run t.tx i ⟨out, none⟩ = .ok (out ++ [⟨t.k, i, t.tx⟩]) := by
  unfold run
  rw [h out i]
  dsimp only
  unfold Ts.close
  split
  · rfl
  · unfold fin
    dsimp only
    rw [if_pos (show (Tk.mk t.k i t.tx).ok = true from hk)]
theorem run_join : ∀ (l : List Tk), (∀ t ∈ l, t.wh ∧ t.ok = true) → ∀ (out : List Tk) (i : Nat), ∃ m, run (joinT (l.map Tk.tx)) i ⟨out, none⟩ = .ok (out ++ m) ∧ alk l m
  | [], _, out, i => ⟨[], by simp [joinT]; rfl, rfl⟩
  | [t], h, out, i => ⟨[⟨t.k, i, t.tx⟩], run_one (h t (List.mem_cons_self ..)).1 (h t (List.mem_cons_self ..)).2 out i, rfl⟩
  | t :: u :: l, h, out, i => by
    obtain ⟨m, hm, ha⟩ := run_join (u :: l) (fun v hv => h v (List.mem_cons_of_mem _ hv)) (out ++ [⟨t.k, i, t.tx⟩]) (i + t.tx.length + 1)
    refine ⟨⟨t.k, i, t.tx⟩ :: m, ?_, ?_⟩
    · show run (t.tx ++ 32 :: joinT ((u :: l).map Tk.tx)) i ⟨out, none⟩ = _
      rw [run_blank _ _ _ _ (by decide), run_one (h t (List.mem_cons_self ..)).1 (h t (List.mem_cons_self ..)).2 out i]
      dsimp only
      rw [hm]
      simp
    · show t.nk :: (u :: l).map Tk.nk = t.nk :: m.map Tk.nk
      rw [show (u :: l).map Tk.nk = m.map Tk.nk from ha]
/-- WHAT WAS PARTED IS JOINED, AND PARTED AGAIN AS IT WAS -/
theorem lexd_back {s : List UInt8} {l : List Tk} (h : lexd s = .ok l) : ∃ m, lexd (joinT (l.map Tk.tx)) = .ok m ∧ alk l m := by
  obtain ⟨m, hm, ha⟩ := run_join l (lexd_wh h) [] 0
  exact ⟨m, by unfold lexd; simpa using hm, ha⟩
theorem alk_tx {a b : List Tk} (h : alk a b) : a.map Tk.tx = b.map Tk.tx := by
  have h1 : (a.map Tk.nk).map Prod.snd = (b.map Tk.nk).map Prod.snd := by rw [show a.map Tk.nk = b.map Tk.nk from h]
  rw [List.map_map, List.map_map] at h1
  exact h1

/-! ### nothing is left out -/
def Blk (s : List UInt8) (a b : Nat) : Prop := ∀ j, a ≤ j → j < b → ∃ c, s[j]? = some c ∧ jcls c = 0
def Is (s : List UInt8) (p : Nat) (tx : List UInt8) : Prop := ∀ j, j < tx.length → s[p + j]? = tx[j]?
def cov (s : List UInt8) : Nat → List Tk → Nat → Prop
  | a, [], e => a ≤ e ∧ Blk s a e
  | a, t :: l, e => a ≤ t.pos ∧ Blk s a t.pos ∧ Is s t.pos t.tx ∧ cov s (t.pos + t.tx.length) l e
theorem cov_blank {s : List UInt8} {i : Nat} {c : UInt8} (hc : s[i]? = some c) (h0 : jcls c = 0) : ∀ (l : List Tk) {a : Nat}, cov s a l i → cov s a l (i + 1)
  | [], a, ⟨h1, h2⟩ => ⟨by omega, fun j hj hj2 => by
      by_cases e : j = i
      · subst e; exact ⟨c, hc, h0⟩
      · exact h2 j hj (by omega)⟩
  | _ :: l, _, ⟨h1, h2, h3, h4⟩ => ⟨h1, h2, h3, cov_blank hc h0 l h4⟩
theorem cov_new {s : List UInt8} {i : Nat} {c : UInt8} (k : Nat) (hc : s[i]? = some c) : ∀ (l : List Tk) {a : Nat}, cov s a l i → cov s a (l ++ [⟨k, i, [c]⟩]) (i + 1)
  | [], a, ⟨h1, h2⟩ => ⟨h1, h2, fun j hj => by
      have : j = 0 := by simpa using hj
      subst this
      simpa using hc, Nat.le_refl _, fun j hj hj2 => by
      have hj : i + 1 ≤ j := hj
      omega⟩
  | _ :: l, _, ⟨h1, h2, h3, h4⟩ => ⟨h1, h2, h3, cov_new k hc l h4⟩
theorem cov_ext {s : List UInt8} {i : Nat} {c : UInt8} {t : Tk} (hc : s[i]? = some c) (ht : t.pos + t.tx.length = i) : ∀ (l : List Tk) {a : Nat}, cov s a (l ++ [t]) i → cov s a (l ++ [⟨t.k, t.pos, t.tx ++ [c]⟩]) (i + 1)
  | [], a, ⟨h1, h2, h3, _⟩ => ⟨h1, h2, fun j hj => by
      by_cases e : j < t.tx.length
      · rw [List.getElem?_append_left e]; exact h3 j e
      · have : j = t.tx.length := by simp at hj; omega
        subst this
        show s[t.pos + t.tx.length]? = _
        rw [ht, hc]
        simp, by simp; omega, fun j hj hj2 => by
      have hj : t.pos + (t.tx ++ [c]).length ≤ j := hj
      simp at hj
      omega⟩
  | _ :: l, _, ⟨h1, h2, h3, h4⟩ => ⟨h1, h2, h3, cov_ext hc ht l h4⟩
def Ts.cv (s : List UInt8) (i : Nat) (st : Ts) : Prop := cov s 0 (st.out ++ st.op.toList) i ∧ ∀ t, st.op = some t → t.pos + t.tx.length = i ∧ t.pos < i
theorem fresh_cv {s : List UInt8} {out : List Tk} {i : Nat} {c : UInt8} (hc : s[i]? = some c) (h : cov s 0 out i) : (fresh out i c).cv s (i + 1) := by
  unfold fresh
  split
  · rename_i h0
    exact ⟨by simpa using cov_blank hc h0 _ h, fun t ht => by cases ht⟩
  · refine ⟨cov_new _ hc _ h, fun t ht => ?_⟩
    injection ht with ht
    subst ht
    exact ⟨rfl, Nat.lt_succ_self _⟩
theorem stp_cv {s : List UInt8} {i : Nat} {c : UInt8} {st : Ts} (hc : s[i]? = some c) (h : st.cv s i) : match stp st i c with
    | .err n => n ≤ i
    | .ok st' => st'.cv s (i + 1) := by
  obtain ⟨out, op⟩ := st
  obtain ⟨h1, h2⟩ := h
  dsimp only at h1 h2
  unfold stp
  cases op with
  | none =>
    dsimp only
    by_cases h4 : jcls c = 4
    · rw [if_pos h4]; exact Nat.le_refl _
    · rw [if_neg h4]
      exact fresh_cv hc (by simpa using h1)
  | some t =>
    obtain ⟨h3, h5⟩ := h2 t rfl
    dsimp only
    by_cases h4 : jcls c = 4
    · rw [if_pos h4]
      split
      · rename_i h6
        split at h6
        · injection h6 with h6; omega
        · injection h6 with h6; omega
      · rename_i h6
        split at h6 <;> cases h6
    · rw [if_neg h4]
      by_cases he : tkext t (jcls c) c = true
      · rw [if_pos he]
        have h6 := cov_ext hc h3 out h1
        show (Ts.close out _).cv s (i + 1)
        unfold Ts.close
        split
        · exact ⟨by simpa using h6, fun u hu => by cases hu⟩
        · refine ⟨h6, fun u hu => ?_⟩
          injection hu with hu
          subst hu
          exact ⟨by simp; omega, by show t.pos < i + 1; omega⟩
      · rw [if_neg he]
        by_cases hk : t.ok = true
        · rw [if_pos hk]
          exact fresh_cv hc h1
        · rw [if_neg hk]
          show t.pos ≤ i
          omega
theorem fin_cv {s : List UInt8} {i : Nat} {st : Ts} (h : st.cv s i) : match fin st with
    | .err n => n < i
    | .ok l => cov s 0 l i := by
  obtain ⟨out, op⟩ := st
  obtain ⟨h1, h2⟩ := h
  dsimp only at h1 h2
  unfold fin
  cases op with
  | none => simpa using h1
  | some t =>
    obtain ⟨h3, h5⟩ := h2 t rfl
    dsimp only
    by_cases hk : t.ok = true
    · rw [if_pos hk]; exact h1
    · rw [if_neg hk]; exact h5
theorem run_cv (s : List UInt8) : ∀ (r : List UInt8) (i : Nat) (st : Ts), s.drop i = r → i ≤ s.length → st.cv s i → match run r i st with
    | .err n => n < s.length
    | .ok l => cov s 0 l s.length
  | [], i, st, hr, hi, h => by
    have : i = s.length := by
      have := congrArg List.length hr
      simp at this
      omega
    subst this
    exact fin_cv h
  | c :: cs, i, st, hr, hi, h => by
    have hlt : i < s.length := by
      have := congrArg List.length hr
      simp at this
      omega
    have hc : s[i]? = some c := by
      have h1 := congrArg (fun l => l[0]?) hr
      simpa using h1
    have hd : s.drop (i + 1) = cs := by
      have h1 := congrArg List.tail hr
      simpa using h1
    rw [run_cons]
    have h1 := stp_cv hc h
    revert h1
    cases stp st i c with
    | err n =>
      intro h1
      have h1 : n ≤ i := h1
      show n < s.length
      omega
    | ok st' => exact fun h1 => run_cv s cs (i + 1) st' hd (by omega) h1
/-- NOTHING IS LEFT OUT; and an error is within the text -/
theorem lexd_cov (s : List UInt8) : match lexd s with
    | .err n => n < s.length
    | .ok l => cov s 0 l s.length := run_cv s s 0 ⟨[], none⟩ rfl (Nat.zero_le _) ⟨⟨Nat.le_refl _, fun _ _ h => by omega⟩, fun _ h => by cases h⟩
end Go.Proofs.YtfekcbkafiiieaaDoor
