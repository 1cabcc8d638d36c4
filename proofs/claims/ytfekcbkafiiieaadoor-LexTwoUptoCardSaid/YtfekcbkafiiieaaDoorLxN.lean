/-
  Digits: what the library reads them as, and how it writes a number. Plain mathematics.
-/
import Derived.Test.YtfekcbkafiiieaaDoorLxM
import Derived.Test.YtfekcbkafiiieaaDoorLxW
namespace Go.Proofs.YtfekcbkafiiieaaDoor

def dvA (acc : Nat) (l : List UInt8) : Nat := l.foldl (fun v c => v * 10 + (c.toNat - 48)) acc
theorem dvA_ge (l : List UInt8) : ∀ acc, acc ≤ dvA acc l := by
  induction l with
  | nil => intro acc; exact Nat.le_refl _
  | cons c l ih =>
    intro acc
    have := ih (acc * 10 + (c.toNat - 48))
    show acc ≤ dvA (acc * 10 + (c.toNat - 48)) l
    omega
theorem parse_digits : ∀ (l : List UInt8) (acc : Nat), (∀ c ∈ l, 48 ≤ c.toNat ∧ c.toNat ≤ 57) → acc ≤ 18446744073709551615 →
    Lib.parseUintM 18446744073709551615 acc l = if dvA acc l ≤ 18446744073709551615 then .ok (dvA acc l) else .range
  | [], acc, _, h => by
    show Lib.NumEnd.ok acc = if acc ≤ _ then .ok acc else .range
    rw [if_pos h]
  | c :: l, acc, hd, h => by
    have hc := hd c (by simp)
    have hl : ∀ x ∈ l, 48 ≤ x.toNat ∧ x.toNat ≤ 57 := fun x hx => hd x (by simp [hx])
    have hge := dvA_ge l (acc * 10 + (c.toNat - 48))
    have e : dvA acc (c :: l) = dvA (acc * 10 + (c.toNat - 48)) l := rfl
    rw [e]
    unfold Lib.parseUintM
    rw [if_pos hc]
    by_cases h1 : 1844674407370955162 ≤ acc
    · rw [if_pos h1, if_neg (by omega)]
    · rw [if_neg h1]
      by_cases h2 : 18446744073709551615 < acc * 10 + (c.toNat - 48)
      · rw [if_pos h2, if_neg (by omega)]
      · rw [if_neg h2, parse_digits l _ hl (by omega)]
theorem parseB_digits {l : List UInt8} (hne : l ≠ []) (hd : ∀ c ∈ l, 48 ≤ c.toNat ∧ c.toNat ≤ 57) :
    Lib.parseIntB 64 l = if dvA 0 l ≤ 9223372036854775807 then .ok ((dvA 0 l : Nat) : Int) else .range := by
  cases l with
  | nil => exact absurd rfl hne
  | cons c r =>
    have hc := hd c (by simp)
    have hu : Lib.parseUintB 64 (c :: r) = if dvA 0 (c :: r) ≤ 18446744073709551615 then .ok (dvA 0 (c :: r)) else .range := by
      unfold Lib.parseUintB
      rw [if_neg (by simp)]
      exact parse_digits (c :: r) 0 hd (by omega)
    unfold Lib.parseIntB
    have n45 : ¬ c.toNat = 45 := by omega
    have n43 : ¬ (c.toNat = 43 ∨ c.toNat = 45) := by omega
    dsimp only
    rw [if_neg n43, hu]
    by_cases h1 : dvA 0 (c :: r) ≤ 18446744073709551615
    · rw [if_pos h1]
      by_cases h2 : dvA 0 (c :: r) ≤ 9223372036854775807
      · rw [if_pos h2]
        dsimp only
        rw [if_neg (by omega), if_neg (by omega), if_neg n45]
      · rw [if_neg h2]
        dsimp only
        rw [if_pos (by omega)]
    · rw [if_neg h1, if_neg (by omega)]
theorem dec_head : ∀ (k u : Nat), u < k → (Lib.decDigits u).length = 1 ∨ ((Lib.decDigits u).head? ≠ some 48 ∧ Lib.decDigits u ≠ [])
  | 0, _, h => by omega
  | k + 1, u, h => by
    by_cases h1 : u < 10
    · rw [Lib.decDigits_one h1]; exact .inl rfl
    · right
      rw [Lib.decDigits, dif_neg h1]
      refine ⟨?_, by simp⟩
      have ih := dec_head k (u / 10) (by omega)
      rcases Nat.lt_or_ge (u / 10) 10 with h2 | h2
      · rw [Lib.decDigits_one h2]
        intro e
        have e1 : UInt8.ofNat (48 + u / 10) = 48 := by simpa using e
        have e2 := congrArg UInt8.toNat e1
        rw [UInt8.toNat_ofNat_of_lt' (by have : UInt8.size = 256 := rfl; omega)] at e2
        have : (48 : UInt8).toNat = 48 := rfl
        omega
      · rcases ih with ih | ⟨ih, hne⟩
        · exfalso
          rw [Lib.decDigits, dif_neg (by omega), List.length_append] at ih
          have : (Lib.decDigits (u / 10 / 10)).length ≠ 0 := by
            rw [Lib.decDigits]
            split <;> simp
          simp at ih
          exact this (by simp [ih])
        · intro e
          apply ih
          cases hd : Lib.decDigits (u / 10) with
          | nil => exact absurd hd hne
          | cons x r => rw [hd] at e; simpa using e
theorem ofNat_digit {c : UInt8} (h : 48 ≤ c.toNat ∧ c.toNat ≤ 57) : UInt8.ofNat (48 + (c.toNat - 48)) = c := by
  rw [show 48 + (c.toNat - 48) = c.toNat by omega]
  exact UInt8.ofNat_toNat
theorem dvA_snoc (acc : Nat) (l : List UInt8) (c : UInt8) : dvA acc (l ++ [c]) = dvA acc l * 10 + (c.toNat - 48) := by
  unfold dvA
  rw [List.foldl_append]
  rfl
theorem dvA_pos {c : UInt8} {r : List UInt8} (hc : 48 ≤ c.toNat) (h : c ≠ 48) : 1 ≤ dvA 0 (c :: r) := by
  have h1 := dvA_ge r (0 * 10 + (c.toNat - 48))
  have e : dvA 0 (c :: r) = dvA (0 * 10 + (c.toNat - 48)) r := rfl
  have : c.toNat ≠ 48 := fun e => h (by
    have : (48 : UInt8).toNat = 48 := rfl
    exact UInt8.toNat_inj.1 (by omega))
  omega
theorem dec_of : ∀ (k : Nat) (l : List UInt8), l.length = k → l ≠ [] → (∀ c ∈ l, 48 ≤ c.toNat ∧ c.toNat ≤ 57) → (l.length = 1 ∨ l.head? ≠ some 48) → Lib.decDigits (dvA 0 l) = l
  | 0, l, hk, hne, _, _ => absurd (List.length_eq_zero_iff.1 hk) hne
  | k + 1, l, hk, hne, hd, hh => by
    obtain ⟨r, c, rfl⟩ : ∃ r c, l = r ++ [c] := ⟨l.dropLast, l.getLast hne, (List.dropLast_concat_getLast hne).symm⟩
    have hc := hd c (by simp)
    rw [dvA_snoc]
    cases hr : r with
    | nil =>
      have : dvA 0 ([] : List UInt8) = 0 := rfl
      rw [this, Lib.decDigits_one (by omega), Nat.zero_mul, Nat.zero_add, ofNat_digit hc]
      rfl
    | cons x r' =>
      have hx := hd x (by rw [hr]; simp)
      have hx48 : x ≠ 48 := by
        rcases hh with hh | hh
        · rw [hr] at hh; simp at hh
        · rw [hr] at hh; simpa using hh
      have hp := dvA_pos (r := r') hx.1 hx48
      rw [Lib.decDigits, dif_neg (by omega)]
      have e1 : (dvA 0 (x :: r') * 10 + (c.toNat - 48)) / 10 = dvA 0 (x :: r') := by omega
      have e2 : (dvA 0 (x :: r') * 10 + (c.toNat - 48)) % 10 = c.toNat - 48 := by omega
      rw [e1, e2, ofNat_digit hc, dec_of k (x :: r') (by rw [← hr]; simpa using hk) (by simp) (fun y hy => hd y (by rw [hr]; simp at hy ⊢; rcases hy with e | e <;> simp [e])) (.inr (by simpa using hx48))]
/-- the library's number and its text, of digits -/
theorem jnum_digits {s : ByteArray} (hne : s.data.toList ≠ []) (hd : ∀ c ∈ s.data.toList, 48 ≤ c.toNat ∧ c.toNat ≤ 57) : jnumB 1 s = numOk s.data.toList := by
  unfold jnumB numOk
  rw [parseB_digits hne hd]
  have e : dval s.data.toList = dvA 0 s.data.toList := rfl
  rw [e]
  obtain ⟨l, hl⟩ : ∃ l, l = s.data.toList := ⟨_, rfl⟩
  rw [← hl] at hne hd ⊢
  by_cases h1 : dvA 0 l ≤ 9223372036854775807
  · rw [if_pos h1, decide_eq_true h1]
    simp only [Bool.and_true, decide_true, Bool.not_true, Bool.false_or]
    rw [Lib.itoa_nonneg, Bool.eq_iff_iff, beq_iff_eq, Bool.or_eq_true, decide_eq_true_iff, Bool.not_eq_true', decide_eq_false_iff_not]
    constructor
    · intro e2
      rcases dec_head (dvA 0 l + 1) (dvA 0 l) (by omega) with h | h
      · left; rw [← e2]; exact h
      · right; rw [← e2]; exact h.1
    · intro h
      exact dec_of _ l rfl hne hd h
  · rw [if_neg h1, decide_eq_false h1]
    simp
end Go.Proofs.YtfekcbkafiiieaaDoor
