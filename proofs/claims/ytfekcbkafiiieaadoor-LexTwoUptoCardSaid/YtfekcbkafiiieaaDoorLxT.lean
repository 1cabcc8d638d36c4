/-
  Tokens in memory; what is known of a token that is begun.
-/
import Derived.Test.YtfekcbkafiiieaaDoorLxN
import Derived.Test.YtfekcbkafiiieaaDoorLxC
import Derived.Deep.OwnRows
namespace Go.Proofs.YtfekcbkafiiieaaDoor
open Go.RowKit
set_option maxRecDepth 100000

/-- bytes as a string -/
def bts (l : List UInt8) : ByteArray := ⟨l.toArray⟩
theorem bts_list (l : List UInt8) : (bts l).data.toList = l := by simp [bts]
theorem bts_inj {a b : List UInt8} (h : bts a = bts b) : a = b := by rw [← bts_list a, ← bts_list b, h]
theorem bts_size (l : List UInt8) : (bts l).size = l.length := by simp [bts, ByteArray.size]
/-- the cells of tokens -/
def tVals (l : List Tk) : List Value := l.flatMap fun t => [.int .i64 ((t.k : Nat) : Int), .int .i64 ((t.pos : Nat) : Int), .string (bts t.tx)]
theorem tVals_snoc (l : List Tk) (t : Tk) : tVals (l ++ [t]) = tVals l ++ [.int .i64 ((t.k : Nat) : Int), .int .i64 ((t.pos : Nat) : Int), .string (bts t.tx)] := by simp [tVals]
theorem tVals_len (l : List Tk) : (tVals l).length = l.length * 3 := by
  induction l with
  | nil => rfl
  | cons a l ih => rw [show tVals (a :: l) = [.int .i64 ((a.k : Nat) : Int), .int .i64 ((a.pos : Nat) : Int), .string (bts a.tx)] ++ tVals l from rfl, List.length_append, ih]; simp; omega
theorem tVals_last (l : List Tk) (t : Tk) : (tVals (l ++ [t]))[l.length * 3]? = some (.int .i64 ((t.k : Nat) : Int)) ∧ (tVals (l ++ [t]))[l.length * 3 + 1]? = some (.int .i64 ((t.pos : Nat) : Int)) ∧ (tVals (l ++ [t]))[l.length * 3 + 2]? = some (.string (bts t.tx)) := by
  rw [tVals_snoc]
  refine ⟨?_, ?_, ?_⟩
  · rw [List.getElem?_append_right (by rw [tVals_len]; omega), tVals_len]; simp
  · rw [List.getElem?_append_right (by rw [tVals_len]; omega), tVals_len, show l.length * 3 + 1 - l.length * 3 = 1 by omega]; rfl
  · rw [List.getElem?_append_right (by rw [tVals_len]; omega), tVals_len, show l.length * 3 + 2 - l.length * 3 = 2 by omega]; rfl
theorem tVals_set (l : List Tk) (t : Tk) (x : List UInt8) : (tVals (l ++ [t])).set (l.length * 3 + 2) (.string (bts x)) = tVals (l ++ [⟨t.k, t.pos, x⟩]) := by
  rw [tVals_snoc, tVals_snoc, List.set_append_right _ _ (by rw [tVals_len]; omega), tVals_len, show l.length * 3 + 2 - l.length * 3 = 2 by omega]
  rfl
theorem tVals_cell (l : List Tk) {u : Value} (h : u ∈ tVals l) : u.oneCell' = true := by
  unfold tVals at h
  obtain ⟨x, _, hx⟩ := List.mem_flatMap.1 h
  simp at hx
  rcases hx with rfl | rfl | rfl <;> rfl
/-- a cell of an owned row turned -/
theorem own_set {w : World} {base n g cap size : Nat} {e : TypeId} {xs : List Value} (h : w.ownsRow base e size (.slice (some ⟨g, 0, none⟩) n cap) n xs) (i : Nat) (u : Value) : (w.setCell ⟨g, i, none⟩ u).ownsRow base e size (.slice (some ⟨g, 0, none⟩) n cap) n (xs.set i u) := by
  obtain ⟨h1, h2⟩ := h
  refine ⟨by rw [List.length_set]; exact h1, .inr ?_⟩
  rcases h2 with ⟨h2, _⟩ | ⟨g', cap', cur, hv, hb, hg, hc1, hc2, hc3, hc4⟩
  · cases h2
  · injection hv with hA _ hc
    injection hA with hA
    injection hA with hA
    subst hA
    subst hc
    refine ⟨g, cap, cur.setIfInBounds i u, rfl, hb, ?_, hc1, hc2, by simpa using hc3, ?_⟩
    · simp [World.setCell, Array.getElem?_modify, hg]
    · rw [Array.toList_setIfInBounds, List.take_set, hc4]
theorem own_shape3 {w : World} {base n size : Nat} {e : TypeId} {v : Value} {xs : List Value} (h : w.ownsRow base e size v n xs) (hn : 0 < n) : ∃ g cap, v = .slice (some ⟨g, 0, none⟩) n cap ∧ base ≤ g ∧ g < w.heap.size ∧ w.frozen? ⟨g, 0, none⟩ = false ∧ (∀ i, w.frozen? ⟨g, i, none⟩ = false) ∧ ∀ i, i < n * size → w.cell? ⟨g, i, none⟩ = xs[i]? := by
  rcases h.2 with ⟨_, h0⟩ | ⟨g, cap, cur, rfl, hb, hg, h1, h2, h3, h4⟩
  · omega
  · have hf : ∀ i, w.frozen? ⟨g, i, none⟩ = false := fun i => by unfold World.frozen?; dsimp only; rw [hg]; simp
    exact ⟨g, cap, rfl, hb, (Array.getElem?_eq_some_iff.1 hg).1, hf 0, hf, fun i hi => h.cellAt i hi⟩
/-- what is known of a token that is begun -/
def Ts.good (st : Ts) (i : Nat) : Prop := st.out.length + (match st.op with | some _ => 1 | none => 0) ≤ i ∧ ∀ t, st.op = some t → (t.k = 1 ∨ t.k = 2 ∨ t.k = 3) ∧ t.tx ≠ [] ∧ t.tx.length ≤ i ∧ t.pos < i ∧ (t.k = 1 → ∀ c ∈ t.tx, 48 ≤ c.toNat ∧ c.toNat ≤ 57)
theorem jcls_le (c : UInt8) : jcls c ≤ 4 := by 
  unfold jcls
  repeat' split
  all_goals omega
theorem jcls_digit {c : UInt8} (h : jcls c = 1) : 48 ≤ c.toNat ∧ c.toNat ≤ 57 := by
  have key : ∀ n : Nat, n < 256 → (!(jcls (UInt8.ofNat n) == 1) || (decide (48 ≤ n) && decide (n ≤ 57))) = true := by decide +kernel
  have h2 := key c.toNat c.toNat_lt
  rw [UInt8.ofNat_toNat, h] at h2
  simpa using h2
theorem fresh_good {out : List Tk} {i : Nat} {c : UInt8} (h : out.length ≤ i) (h4 : jcls c ≠ 4) : (fresh out i c).good (i + 1) := by
  unfold fresh Ts.good
  by_cases h0 : jcls c = 0
  · rw [if_pos h0]
    exact ⟨by dsimp only; omega, fun t ht => by cases ht⟩
  · rw [if_neg h0]
    refine ⟨by dsimp only; omega, fun t ht => ?_⟩
    injection ht with ht
    subst ht
    have := jcls_le c
    refine ⟨by dsimp only; omega, by simp, by simp, by dsimp only; omega, fun hk d hd => ?_⟩
    simp at hd
    subst hd
    exact jcls_digit hk
theorem stp_good {st st' : Ts} {i : Nat} {c : UInt8} (h : st.good i) (hs : stp st i c = .ok st') : st'.good (i + 1) := by
  obtain ⟨h1, h2⟩ := h
  unfold stp at hs
  cases hop : st.op with
  | none =>
    rw [hop] at hs h1
    dsimp only at hs h1
    by_cases h4 : jcls c = 4
    · rw [if_pos h4] at hs; cases hs
    · rw [if_neg h4] at hs
      injection hs with hs
      subst hs
      exact fresh_good (by omega) h4
  | some t =>
    rw [hop] at hs h1
    dsimp only at hs h1
    obtain ⟨q1, q2, q3, q4, q5⟩ := h2 t hop
    by_cases h4 : jcls c = 4
    · rw [if_pos h4] at hs
      split at hs <;> cases hs
    · rw [if_neg h4] at hs
      by_cases he : tkext t (jcls c) c = true
      · rw [if_pos he] at hs
        injection hs with hs
        subst hs
        unfold Ts.close Ts.good
        split
        · exact ⟨by simp; omega, fun u hu => by cases hu⟩
        · refine ⟨by dsimp only; omega, fun u hu => ?_⟩
          injection hu with hu
          subst hu
          refine ⟨q1, by simp, by simp; omega, by dsimp only; omega, fun hk d hd => ?_⟩
          dsimp only at hk hd
          rcases List.mem_append.1 hd with hd | hd
          · exact q5 hk d hd
          · simp at hd
            subst hd
            unfold tkext at he
            rw [hk] at he
            by_cases hj : jcls d = 1
            · exact jcls_digit hj
            · exfalso
              have hj' : (decide (jcls d = 1)) = false := decide_eq_false hj
              rw [hj'] at he
              simp at he
              have := q5 hk 61 (by rw [he.1]; simp)
              have : (61 : UInt8).toNat = 61 := rfl
              omega
      · rw [if_neg he] at hs
        split at hs
        · injection hs with hs
          subst hs
          exact fresh_good (by simp; omega) h4
        · cases hs
/-- the texts of tokens, as the program checks them -/
theorem jnum_ok_tk {t : Tk} (hne : t.tx ≠ []) (hd : t.k = 1 → ∀ c ∈ t.tx, 48 ≤ c.toNat ∧ c.toNat ≤ 57) : jnumB ((t.k : Nat) : Int) (bts t.tx) = t.ok := by
  unfold Tk.ok
  by_cases h : t.k = 1
  · rw [h, decide_eq_true rfl]
    simp only [Bool.not_true, Bool.false_or]
    have := jnum_digits (s := bts t.tx) (by rw [bts_list]; exact hne) (by rw [bts_list]; exact hd h)
    rw [bts_list] at this
    exact this
  · rw [decide_eq_false h, jnum_not _ (by omega)]
    rfl
/-- the run so far -/
theorem stps_take {l : List UInt8} {i : Nat} {st st' : Ts} (h : stps (l.take i) 0 ⟨[], none⟩ = .ok st) (hi : i < l.length) (hs : stp st i l[i] = .ok st') : stps (l.take (i + 1)) 0 ⟨[], none⟩ = .ok st' := by
  rw [List.take_succ_eq_append_getElem hi, stps_append, h]
  have e : (l.take i).length = i := by rw [List.length_take]; omega
  dsimp only
  rw [e, Nat.zero_add]
  show (match stp st i l[i] with | .err n => Lr.err n | .ok st' => stps [] (i + 1) st') = _
  rw [hs]
  rfl
theorem lexd_err {l : List UInt8} {i n : Nat} {st : Ts} (h : stps (l.take i) 0 ⟨[], none⟩ = .ok st) (hi : i < l.length) (hs : stp st i l[i] = .err n) : lexd l = .err n := by
  have e0 : l = l.take i ++ l[i] :: l.drop (i + 1) := by rw [← List.drop_eq_getElem_cons hi, List.take_append_drop]
  have e : (l.take i).length = i := by rw [List.length_take]; omega
  unfold lexd
  rw [e0, run_append, h]
  dsimp only
  rw [e, Nat.zero_add, run_cons]
  have e2 : ∀ (x : UInt8), x = l[i] → stp st i x = .err n := fun x hx => by rw [hx]; exact hs
  rw [e2 _ (by simp)]
theorem lexd_fin {l : List UInt8} {st : Ts} (h : stps (l.take l.length) 0 ⟨[], none⟩ = .ok st) : lexd l = fin st := by
  rw [List.take_length] at h
  unfold lexd run
  rw [h]
end Go.Proofs.YtfekcbkafiiieaaDoor
