/-
  A text's tokens, token by token: blanks are passed over, then the longest token. Plain mathematics.
-/
import Derived.Test.YtfekcbkafiiieaaDoorLxM
namespace Go.Proofs.YtfekcbkafiiieaaDoor

def isBl (c : UInt8) : Bool := decide (jcls c = 0)
def isDg (c : UInt8) : Bool := decide (jcls c = 1)
def isLt (c : UInt8) : Bool := decide (jcls c = 2)
def isLd (c : UInt8) : Bool := isLt c || isDg c
/-- how many bytes at the beginning belong together -/
def pre (p : UInt8 → Bool) : List UInt8 → Nat
  | [] => 0
  | c :: r => if p c = true then pre p r + 1 else 0
theorem pre_le (p : UInt8 → Bool) : ∀ l, pre p l ≤ l.length
  | [] => Nat.le_refl _
  | c :: r => by
    have := pre_le p r
    unfold pre
    split
    · simp; omega
    · omega
theorem pre_all (p : UInt8 → Bool) : ∀ l : List UInt8, ∀ c ∈ l.take (pre p l), p c = true
  | [], c, h => by simp at h
  | d :: r, c, h => by
    unfold pre at h
    by_cases hd : p d = true
    · rw [if_pos hd, List.take_succ_cons] at h
      rcases List.mem_cons.1 h with h | h
      · subst h; exact hd
      · exact pre_all p r c h
    · rw [if_neg hd] at h
      simp at h
theorem pre_stop (p : UInt8 → Bool) : ∀ (l : List UInt8) {c : UInt8} {r : List UInt8}, l.drop (pre p l) = c :: r → p c = false
  | [], c, r, h => by simp at h
  | d :: l, c, r, h => by
    unfold pre at h
    by_cases hd : p d = true
    · rw [if_pos hd, List.drop_succ_cons] at h
      exact pre_stop p l h
    · rw [if_neg hd] at h
      injection h with h1 _
      subst h1
      simpa using hd
/-- the length as a loop finds it -/
theorem pre_loop {p : UInt8 → Bool} : ∀ {l : List UInt8} {n : Nat}, (∀ c ∈ l.take n, p c = true) → n ≤ l.length → (∀ c r, l.drop n = c :: r → p c = false) → pre p l = n
  | [], n, _, hn, _ => by simp at hn; subst hn; rfl
  | d :: l, 0, _, _, hs => by
    have := hs d l rfl
    unfold pre
    rw [if_neg (by rw [this]; decide)]
  | d :: l, n + 1, ha, hn, hs => by
    have hd := ha d (by simp)
    have ih := pre_loop (p := p) (l := l) (n := n) (fun c hc => ha c (by rw [List.take_succ_cons]; exact List.mem_cons_of_mem _ hc)) (by simpa using hn) (fun c r h => hs c r (by simpa using h))
    unfold pre
    rw [if_pos hd, ih]
/-- the length of the sign at the beginning -/
def sgn : List UInt8 → Nat
  | [] => 0
  | [c] => if jcls c = 3 then 1 else 0
  | c :: d :: _ => if c = 61 ∧ d = 61 then 2 else if jcls c = 3 then 1 else 0
/-- the token at the beginning: its kind and its length -/
def tokAt (l : List UInt8) : Nat × Nat := if 0 < pre isDg l then (1, pre isDg l) else if 0 < pre isLt l then (2, pre isLd l) else (3, sgn l)

theorem sgn_le : ∀ l : List UInt8, sgn l ≤ l.length
  | [] => Nat.le_refl _
  | [c] => by
    show (if jcls c = 3 then 1 else 0) ≤ 1
    split <;> omega
  | c :: d :: r => by
    show (if c = 61 ∧ d = 61 then 2 else if jcls c = 3 then 1 else 0) ≤ r.length + 1 + 1
    repeat' split
    all_goals omega
theorem tokAt_le (l : List UInt8) : (tokAt l).2 ≤ l.length := by
  have h1 := pre_le isDg l
  have h2 := pre_le isLd l
  have h3 := sgn_le l
  unfold tokAt
  repeat' split
  all_goals (dsimp only; omega)
theorem run_bl (out : List Tk) : ∀ (l : List UInt8) (i : Nat), run l i ⟨out, none⟩ = run (l.drop (pre isBl l)) (i + pre isBl l) ⟨out, none⟩
  | [], i => rfl
  | c :: r, i => by
    unfold pre
    by_cases h : isBl c = true
    · rw [if_pos h, run_blank0 r i out (by simpa [isBl] using h), run_bl out r (i + 1), List.drop_succ_cons]
      rw [show i + 1 + pre isBl r = i + (pre isBl r + 1) by omega]
    · rw [if_neg h]
      rfl
/-- a token that the next byte does not lengthen -/
theorem run_close {t : Tk} (out : List Tk) (l : List UInt8) (i : Nat) (hs : ∀ c r, l = c :: r → tkext t (jcls c) c = false) :
    run l i ⟨out, some t⟩ = if t.ok = true then run l i ⟨out ++ [t], none⟩ else .err t.pos := by
  cases l with
  | nil => rfl
  | cons c r =>
    have he := hs c r rfl
    rw [run_cons, run_cons]
    by_cases h4 : jcls c = 4
    · have e1 : stp ⟨out, some t⟩ i c = if t.ok = true then .err i else .err t.pos := if_pos h4
      have e2 : stp ⟨out ++ [t], none⟩ i c = .err i := if_pos h4
      rw [e1, e2]
      by_cases hk : t.ok = true
      · rw [if_pos hk, if_pos hk]
      · rw [if_neg hk, if_neg hk]
    · have e1 : stp ⟨out, some t⟩ i c = if t.ok = true then .ok (fresh (out ++ [t]) i c) else .err t.pos := by
        show (if jcls c = 4 then _ else if tkext t (jcls c) c = true then _ else _) = _
        rw [if_neg h4, he]
        rfl
      have e2 : stp ⟨out ++ [t], none⟩ i c = .ok (fresh (out ++ [t]) i c) := if_neg h4
      rw [e1, e2]
      by_cases hk : t.ok = true
      · rw [if_pos hk, if_pos hk]
      · rw [if_neg hk, if_neg hk]
theorem cls61 : jcls 61 = 3 := by decide
theorem close_some {out : List Tk} {t : Tk} (h : t.tx ≠ [61, 61]) : Ts.close out t = ⟨out, some t⟩ := if_neg h
/-- digits, or letters and digits, that go on -/
theorem run_more (k : Nat) (hk : k = 1 ∨ k = 2) (p : UInt8 → Bool) (hp : ∀ c, p c = true → c ≠ 61 ∧ jcls c ≠ 4 ∧ ((k = 1 ∧ jcls c = 1) ∨ (k = 2 ∧ (jcls c = 1 ∨ jcls c = 2)))) (out : List Tk) (pos : Nat) :
    ∀ (l : List UInt8) (i : Nat) (tx : List UInt8), tx ≠ [] → tx.head? ≠ some 61 → run l i ⟨out, some ⟨k, pos, tx⟩⟩ = run (l.drop (pre p l)) (i + pre p l) ⟨out, some ⟨k, pos, tx ++ l.take (pre p l)⟩⟩
  | [], i, tx, _, _ => by simp [pre]
  | c :: r, i, tx, hne, hh => by
    unfold pre
    by_cases h : p c = true
    · obtain ⟨h61, h4, hc⟩ := hp c h
      have he : tkext ⟨k, pos, tx⟩ (jcls c) c = true := by
        unfold tkext
        rcases hc with ⟨a, b⟩ | ⟨a, b | b⟩ <;> simp [a, b]
      have hne2 : tx ++ [c] ≠ [] := by simp
      have hh2 : (tx ++ [c]).head? ≠ some 61 := by
        cases tx with
        | nil => exact absurd rfl hne
        | cons x y => simpa using hh
      have ih := run_more k hk p hp out pos r (i + 1) (tx ++ [c]) hne2 hh2
      have hcl : (tx ++ [c]) ≠ [61, 61] := fun e => hh2 (by rw [e]; rfl)
      have e1 : stp ⟨out, some ⟨k, pos, tx⟩⟩ i c = .ok ⟨out, some ⟨k, pos, tx ++ [c]⟩⟩ := by
        show (if jcls c = 4 then _ else if tkext ⟨k, pos, tx⟩ (jcls c) c = true then Lr.ok (Ts.close out ⟨k, pos, tx ++ [c]⟩) else _) = _
        rw [if_neg h4, if_pos he, close_some hcl]
      rw [if_pos h, run_cons, e1]
      dsimp only
      rw [ih, List.drop_succ_cons, List.take_succ_cons, show i + 1 + pre p r = i + (pre p r + 1) by omega, List.append_assoc]
      rfl
    · rw [if_neg h]
      simp
theorem dg_cls {c : UInt8} (h : isDg c = true) : jcls c = 1 := by simpa [isDg] using h
theorem lt_cls {c : UInt8} (h : isLt c = true) : jcls c = 2 := by simpa [isLt] using h
theorem ld_cls {c : UInt8} (h : isLd c = true) : jcls c = 1 ∨ jcls c = 2 := by
  unfold isLd at h
  rcases Bool.or_eq_true_iff.1 h with h | h
  · exact .inr (lt_cls h)
  · exact .inl (dg_cls h)
theorem not61 {c : UInt8} {k : Nat} (h : jcls c = k) (hk : k ≠ 3) : c ≠ 61 := fun e => by
  subst e
  rw [cls61] at h
  omega
/-- what the text's rest answers, by its first token -/
theorem run_tok (out : List Tk) (l : List UInt8) (i : Nat) (hb : ∀ c r, l = c :: r → isBl c = false) :
    run l i ⟨out, none⟩ = if l = [] then .ok out else if (tokAt l).2 = 0 then .err i else if (tokAt l).1 = 1 ∧ numOk (l.take (tokAt l).2) = false then .err i
      else run (l.drop (tokAt l).2) (i + (tokAt l).2) ⟨out ++ [⟨(tokAt l).1, i, l.take (tokAt l).2⟩], none⟩ := by
  cases l with
  | nil => rfl
  | cons c r =>
    have hc0 : jcls c ≠ 0 := by
      have := hb c r rfl
      simpa [isBl] using this
    rw [if_neg (by simp)]
    rw [run_cons]
    by_cases h1 : jcls c = 1
    · have hd : isDg c = true := by simp [isDg, h1]
      have hp : pre isDg (c :: r) = pre isDg r + 1 := by
        show (if isDg c = true then _ else _) = _
        rw [if_pos hd]
      have ht : tokAt (c :: r) = (1, pre isDg r + 1) := by
        unfold tokAt
        rw [hp, if_pos (by omega)]
      have e1 : stp ⟨out, none⟩ i c = .ok ⟨out, some ⟨1, i, [c]⟩⟩ := by
        show (if jcls c = 4 then _ else Lr.ok (if jcls c = 0 then _ else _)) = _
        rw [if_neg (by omega), if_neg hc0, h1]
      rw [e1, ht]
      dsimp only
      rw [if_neg (by omega), run_more 1 (.inl rfl) isDg (fun d hd => ⟨not61 (dg_cls hd) (by omega), by rw [dg_cls hd]; omega, .inl ⟨rfl, dg_cls hd⟩⟩) out i r (i + 1) [c] (by simp) (by
        have := not61 h1 (by omega)
        simpa using this)]
      rw [run_close out _ _ (fun d q hdq => by
        have := pre_stop isDg r hdq
        unfold tkext
        have h2 : ¬ jcls d = 1 := by simpa [isDg] using this
        have h3 : ([c] ++ r.take (pre isDg r)) ≠ [61] := by
          intro e
          have := congrArg List.head? e
          have h61 := not61 h1 (by omega)
          simp at this
          exact h61 this
        simp [h2, -List.singleton_append]
        intro e
        exact absurd e (not61 h1 (by omega)))]
      rw [List.drop_succ_cons, List.take_succ_cons]
      by_cases hk : numOk (c :: r.take (pre isDg r)) = true
      · have : (Tk.mk 1 i ([c] ++ r.take (pre isDg r))).ok = true := by simp [Tk.ok, hk]
        rw [if_pos this, if_neg (by rw [hk]; simp), show i + 1 + pre isDg r = i + (pre isDg r + 1) by omega]
        rfl
      · have : ¬ (Tk.mk 1 i ([c] ++ r.take (pre isDg r))).ok = true := by simp [Tk.ok, hk]
        rw [if_neg this, if_pos ⟨rfl, by simpa using hk⟩]
    · have hd : isDg c = false := by simp [isDg, h1]
      have hp : pre isDg (c :: r) = 0 := by
        show (if isDg c = true then _ else _) = _
        rw [if_neg (by rw [hd]; decide)]
      by_cases h2 : jcls c = 2
      · have hd2 : isLt c = true := by simp [isLt, h2]
        have hd3 : isLd c = true := by simp [isLd, hd2]
        have hp2 : pre isLt (c :: r) = pre isLt r + 1 := by
          show (if isLt c = true then _ else _) = _
          rw [if_pos hd2]
        have hp3 : pre isLd (c :: r) = pre isLd r + 1 := by
          show (if isLd c = true then _ else _) = _
          rw [if_pos hd3]
        have ht : tokAt (c :: r) = (2, pre isLd r + 1) := by
          unfold tokAt
          rw [hp, if_neg (by omega), hp2, if_pos (by omega), hp3]
        have e1 : stp ⟨out, none⟩ i c = .ok ⟨out, some ⟨2, i, [c]⟩⟩ := by
          show (if jcls c = 4 then _ else Lr.ok (if jcls c = 0 then _ else _)) = _
          rw [if_neg (by omega), if_neg hc0, h2]
        rw [e1, ht]
        dsimp only
        rw [if_neg (by omega), if_neg (by simp), run_more 2 (.inr rfl) isLd (fun d hd => by
          rcases ld_cls hd with h | h
          · exact ⟨not61 h (by omega), by omega, .inr ⟨rfl, .inl h⟩⟩
          · exact ⟨not61 h (by omega), by omega, .inr ⟨rfl, .inr h⟩⟩) out i r (i + 1) [c] (by simp) (by
          have := not61 h2 (by omega)
          simpa using this)]
        rw [run_close out _ _ (fun d q hdq => by
          have hst := pre_stop isLd r hdq
          unfold tkext
          have h3 : ¬ jcls d = 1 ∧ ¬ jcls d = 2 := by
            unfold isLd at hst
            rw [Bool.or_eq_false_iff] at hst
            exact ⟨by simpa [isDg] using hst.2, by simpa [isLt] using hst.1⟩
          have h4 : ([c] ++ r.take (pre isLd r)) ≠ [61] := by
            intro e
            have := congrArg List.head? e
            have h61 := not61 h2 (by omega)
            simp at this
            exact h61 this
          simp [h3.1, h3.2, -List.singleton_append]
          intro e
          exact absurd e (not61 h2 (by omega)))]
        have hok : (Tk.mk 2 i ([c] ++ r.take (pre isLd r))).ok = true := by simp [Tk.ok]
        rw [if_pos hok, List.drop_succ_cons, List.take_succ_cons, show i + 1 + pre isLd r = i + (pre isLd r + 1) by omega]
        rfl
      · have hd2 : isLt c = false := by simp [isLt, h2]
        have hp2 : pre isLt (c :: r) = 0 := by
          show (if isLt c = true then _ else _) = _
          rw [if_neg (by rw [hd2]; decide)]
        have ht : tokAt (c :: r) = (3, sgn (c :: r)) := by
          unfold tokAt
          rw [hp, if_neg (by omega), hp2, if_neg (by omega)]
        rw [ht]
        dsimp only
        by_cases h4 : jcls c = 4
        · have e1 : stp ⟨out, none⟩ i c = .err i := if_pos h4
          have hn : sgn (c :: r) = 0 := by
            have h61 : c ≠ 61 := not61 h4 (by omega)
            cases r with
            | nil => show (if jcls c = 3 then 1 else 0) = 0; rw [if_neg (by omega)]
            | cons d q => show (if c = 61 ∧ d = 61 then 2 else if jcls c = 3 then 1 else 0) = 0; rw [if_neg (fun h => h61 h.1), if_neg (by omega)]
          rw [e1, hn, if_pos rfl]
        · have h3 : jcls c = 3 := by
            have : jcls c ≤ 4 := by
              unfold jcls
              repeat' split
              all_goals omega
            omega
          have e1 : stp ⟨out, none⟩ i c = .ok ⟨out, some ⟨3, i, [c]⟩⟩ := by
            show (if jcls c = 4 then _ else Lr.ok (if jcls c = 0 then _ else _)) = _
            rw [if_neg h4, if_neg hc0, h3]
          have hok : (Tk.mk 3 i [c]).ok = true := rfl
          rw [e1]
          dsimp only
          rw [if_neg (show ¬ ((3 : Nat) = 1 ∧ numOk (List.take (sgn (c :: r)) (c :: r)) = false) by simp)]
          cases r with
          | nil =>
            have hn : sgn [c] = 1 := by show (if jcls c = 3 then 1 else 0) = 1; rw [if_pos h3]
            rw [hn, if_neg (by omega), run_close out [] (i + 1) (fun d q h => by cases h), if_pos hok]
            rfl
          | cons d q =>
            by_cases he : c = 61 ∧ d = 61
            · have hn : sgn (c :: d :: q) = 2 := by show (if c = 61 ∧ d = 61 then 2 else _) = 2; rw [if_pos he]
              rw [hn, if_neg (by omega)]
              obtain ⟨rfl, rfl⟩ := he
              rw [run_cons]
              have e2 : stp ⟨out, some ⟨3, i, [61]⟩⟩ (i + 1) 61 = .ok ⟨out ++ [⟨3, i, [61, 61]⟩], none⟩ := by rfl
              rw [e2]
              rfl
            · have hn : sgn (c :: d :: q) = 1 := by
                show (if c = 61 ∧ d = 61 then 2 else if jcls c = 3 then 1 else 0) = 1
                rw [if_neg he, if_pos h3]
              rw [hn, if_neg (by omega), run_close out (d :: q) (i + 1) (fun x y h => by
                injection h with hx _
                subst hx
                unfold tkext
                have : ¬ ([c] = [61] ∧ d = 61) := fun ⟨a, b⟩ => he ⟨by simpa using a, b⟩
                simp at this
                simp
                exact this), if_pos hok]
              rfl
end Go.Proofs.YtfekcbkafiiieaaDoor
