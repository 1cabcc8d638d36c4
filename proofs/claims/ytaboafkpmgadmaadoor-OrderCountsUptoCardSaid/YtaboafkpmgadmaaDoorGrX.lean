/-
  The set of the nodes that follow a node: its bits; how it is made of the successors' sets. Plain lemmas.
-/
import Derived.Test.YtaboafkpmgadmaaDoorGrU
import Derived.Test.YtaboafkpmgadmaaDoorBsOfMath
namespace Go.Proofs.YtaboafkpmgadmaaDoor

/-- the set of the nodes that follow n -/
def beh (m : Nat) (es : List (Int × Int)) (n : Nat) : List Nat := ofS (toI ((List.range m).filter (fw (gR es) m n)))
theorem mem_toI (L : List Nat) (n : Nat) : (n : Int) ∈ toI L ↔ n ∈ L := by
  unfold toI
  rw [List.mem_map]
  constructor
  · rintro ⟨k, hk, e⟩
    have : k = n := by omega
    exact this ▸ hk
  · intro h
    exact ⟨n, h, rfl⟩
theorem fw_lt {m : Nat} {es : List (Int × Int)} (h : inR m es = true) {i j : Nat} (hf : fw (gR es) m i j = true) : i < m ∧ j < m := by
  have p := (fw_iff (gR_lt h) i j).1 hf
  exact ⟨p.lt1 (gR_lt h), p.lt2 (gR_lt h)⟩
theorem beh_bit {m : Nat} {es : List (Int × Int)} (h : inR m es = true) (n j : Nat) : bitB (beh m es n) j = fw (gR es) m n j := by
  unfold beh
  rw [ofS_bit, Bool.eq_iff_iff, decide_eq_true_iff, mem_alw, mem_toI, List.mem_filter, List.mem_range]
  constructor
  · exact fun hh => hh.1.2
  · intro hh
    have h1 := fw_lt h hh
    have h2 := okN_of h
    exact ⟨⟨h1.2, hh⟩, by omega⟩
theorem beh_len (m : Nat) (es : List (Int × Int)) (n : Nat) : (beh m es n).length ≤ 1024 := ofS_len _
theorem beh_ws (m : Nat) (es : List (Int × Int)) (n : Nat) : Ws (beh m es n) := ofS_wd _
theorem beh_noTail (m : Nat) (es : List (Int × Int)) (n : Nat) : NoTail (beh m es n) := ofS_noTail _
theorem tb_bit (xs : List Nat) (k j : Nat) (hj : j < 64) : tb xs k j = bitB xs (64 * k + j) := by
  rw [bitB_tb, show (64 * k + j) / 64 = k by omega, show (64 * k + j) % 64 = j by omega]
theorem eq_of_bitB {xs ys : List Nat} (hx : NoTail xs) (hy : NoTail ys) (lx : Ws xs) (ly : Ws ys) (h : ∀ n, bitB xs n = bitB ys n) : xs = ys :=
  same_sets hx hy lx ly fun k j hj => by rw [tb_bit _ _ _ hj, tb_bit _ _ _ hj, h]
theorem or_bit (xs ys : List Nat) (n : Nat) : bitB (mrg orN xs ys) n = (bitB xs n || bitB ys n) := by rw [bitB_tb, bitB_tb, bitB_tb, tb_or]
theorem less_bit (xs ys : List Nat) (hy : Ws ys) (n : Nat) : bitB (mrg lessN xs ys) n = (bitB xs n && !bitB ys n) := by rw [bitB_tb, bitB_tb, bitB_tb, tb_less _ _ hy _ _ (by omega)]
theorem union_bit (xss : List (List Nat)) (L : List Nat) (n : Nat) : bitB (unionL xss L) n = L.any fun x => bitB (st xss x) n := by
  rw [bitB_tb, unionL_tb]; rfl
theorem nxt_ws (es : List (Int × Int)) (n : Nat) : Ws (nxt es n) := ofS_wd _
theorem fw_next {m : Nat} {es : List (Int × Int)} (h : inR m es = true) (n j : Nat) : fw (gR es) m n j = true ↔ gR es n j = true ∨ ∃ c, gR es n c = true ∧ fw (gR es) m c j = true := by
  rw [fw_iff (gR_lt h)]
  constructor
  · intro p
    cases p with
    | one e => exact .inl e
    | step e p => exact .inr ⟨_, e, (fw_iff (gR_lt h) _ _).2 p⟩
  · rintro (e | ⟨c, e, hf⟩)
    · exact .one e
    · exact .step e ((fw_iff (gR_lt h) _ _).1 hf)
/-- what follows n: its successors, and what follows these -/
theorem beh_step {m : Nat} {es : List (Int × Int)} (h : inR m es = true) (n : Nat) (xss : List (List Nat)) (hx : ∀ c, gR es n c = true → st xss c = beh m es c) :
    mrg orN (nxt es n) (unionL xss (mem (nxt es n))) = beh m es n := by
  have hm : ∀ c, c ∈ mem (nxt es n) ↔ gR es n c = true := fun c => by rw [mem_iff, nxt_bit h]
  have hws : Ws (unionL xss (mem (nxt es n))) := unionL_ws _ _ fun c hc => by rw [hx c ((hm c).1 hc)]; exact beh_ws _ _ _
  refine eq_of_bitB (mrg_noTail _ _ _) (beh_noTail _ _ _) (ws_or (nxt_ws _ _) hws) (beh_ws _ _ _) fun j => ?_
  rw [or_bit, nxt_bit h, union_bit, beh_bit h, Bool.eq_iff_iff, fw_next h, Bool.or_eq_true, List.any_eq_true]
  constructor
  · rintro (e | ⟨c, hc, e⟩)
    · exact .inl e
    · rw [hx c ((hm c).1 hc), beh_bit h] at e
      exact .inr ⟨c, (hm c).1 hc, e⟩
  · rintro (e | ⟨c, hc, e⟩)
    · exact .inl e
    · refine .inr ⟨c, (hm c).2 hc, ?_⟩
      rw [hx c hc, beh_bit h]
      exact e
/-- the successors of the node at place i of the order stand behind it -/
theorem succ_behind {m : Nat} {es : List (Int × Int)} (h : inR m es = true) {o : List Nat} (hg : Good (gR es) m o) (hl : o.length = m) {i n c : Nat} (hi : o[i]? = some n) (hR : gR es n c = true) : c ∈ o.drop (i + 1) := by
  have hb := gR_lt h n c hR
  have hc : c ∈ o := hg.all (by omega) hb.2
  obtain ⟨k, hk, e⟩ := List.getElem_of_mem hc
  have hp := hg.pre k c (by rw [List.getElem?_eq_getElem hk, e]) n hb.1 hR
  obtain ⟨i', hi', e'⟩ := List.getElem_of_mem hp
  rw [List.getElem_take] at e'
  have hi2 : i' < k := by simp at hi'; omega
  obtain ⟨hil, hie⟩ := List.getElem?_eq_some_iff.1 hi
  have : i' = i := by
    false_or_by_contra
    rename_i hne
    have hnd := List.pairwise_iff_getElem.1 hg.nodup
    rcases Nat.lt_or_ge i' i with h1 | h1
    · exact hnd i' i (by omega) hil h1 (e'.trans hie.symm)
    · exact hnd i i' hil (by omega) (by omega) (hie.trans e'.symm)
  subst this
  rw [List.mem_iff_getElem]
  exact ⟨k - (i' + 1), by simp; omega, by rw [List.getElem_drop]; rw [← e]; congr 1; omega⟩
theorem drop_step {o : List Nat} {i n : Nat} (hi : o[i]? = some n) (x : Nat) : x ∈ o.drop i ↔ x = n ∨ x ∈ o.drop (i + 1) := by
  obtain ⟨hil, hie⟩ := List.getElem?_eq_some_iff.1 hi
  rw [List.drop_eq_getElem_cons hil, List.mem_cons, hie]
end Go.Proofs.YtaboafkpmgadmaaDoor
