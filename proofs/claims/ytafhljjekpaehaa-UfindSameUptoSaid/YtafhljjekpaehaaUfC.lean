/-
  Rows of structs of three ints that a call owns; contract of slices.Clone at a slice of set operations.
-/
import Derived.Test.YtafhljjekpaehaaUfR
import Derived.Lib.Hide
import Derived.Deep.AppendLies
import Derived.Shelf.RegionOpenPlain
import Derived.Shelf.Slices.Clone
namespace Go.Proofs.Ytafhljjekpaehaa
open Go.RowKit Go.Shelf
set_option maxRecDepth 100000

/-- the cells of a list of threes -/
def sVals (l : List SOp) : List Value := l.flatMap fun e => [.int .i64 e.1, .int .i64 e.2.1, .int .i64 e.2.2]
theorem sVals_snoc (l : List SOp) (t : SOp) : sVals (l ++ [t]) = sVals l ++ [.int .i64 t.1, .int .i64 t.2.1, .int .i64 t.2.2] := by simp [sVals]
theorem sVals_len (l : List SOp) : (sVals l).length = l.length * 3 := by
  induction l with
  | nil => rfl
  | cons a l ih => rw [show sVals (a :: l) = [.int .i64 a.1, .int .i64 a.2.1, .int .i64 a.2.2] ++ sVals l from rfl, List.length_append, ih]; simp; omega
theorem sVals_at : ∀ (l : List SOp) (k : Nat), k < l.length → (sVals l)[k * 3]? = some (.int .i64 (tr3 l k).1) ∧ (sVals l)[k * 3 + 1]? = some (.int .i64 (tr3 l k).2.1) ∧ (sVals l)[k * 3 + 2]? = some (.int .i64 (tr3 l k).2.2)
  | [], k, h => by simp at h
  | a :: l, 0, _ => ⟨rfl, rfl, rfl⟩
  | a :: l, k + 1, h => by
    have ih := sVals_at l k (by simpa using h)
    have e : sVals (a :: l) = .int .i64 a.1 :: .int .i64 a.2.1 :: .int .i64 a.2.2 :: sVals l := rfl
    rw [e, show (k + 1) * 3 = k * 3 + 1 + 1 + 1 by omega, show k * 3 + 1 + 1 + 1 + 1 = k * 3 + 1 + 1 + 1 + 1 from rfl]
    simp only [List.getElem?_cons_succ]
    exact ih
theorem sVals_one (l : List SOp) {j : Nat} {u : Value} (h : (sVals l)[j]? = some u) : j < l.length * 3 ∧ ((j % 3 = 0 ∧ u = .int .i64 (tr3 l (j / 3)).1) ∨ (j % 3 = 1 ∧ u = .int .i64 (tr3 l (j / 3)).2.1) ∨ (j % 3 = 2 ∧ u = .int .i64 (tr3 l (j / 3)).2.2)) := by
  have hj : j < l.length * 3 := by
    have := (List.getElem?_eq_some_iff.1 h).1
    rwa [sVals_len] at this
  obtain ⟨h1, h2, h3⟩ := sVals_at l (j / 3) (by omega)
  refine ⟨hj, ?_⟩
  rcases (show j % 3 = 0 ∨ j % 3 = 1 ∨ j % 3 = 2 by omega) with e | e | e
  · left; rw [show j / 3 * 3 = j by omega, h] at h1; exact ⟨e, Option.some.inj h1⟩
  · right; left; rw [show j / 3 * 3 + 1 = j by omega, h] at h2; exact ⟨e, Option.some.inj h2⟩
  · right; right; rw [show j / 3 * 3 + 2 = j by omega, h] at h3; exact ⟨e, Option.some.inj h3⟩
theorem sVals_cell (l : List SOp) {u : Value} (h : u ∈ sVals l) : u.oneCell' = true := by
  unfold sVals at h
  obtain ⟨x, _, hx⟩ := List.mem_flatMap.1 h
  simp at hx
  rcases hx with rfl | rfl | rfl <;> rfl
theorem rd3_cells {w : World} {b off : Nat} {l : List SOp} (hc : ∀ k, k < l.length → Cell3 w b (off + k * 3) (tr3 l k)) {j : Nat} {u : Value} (h : (sVals l)[j]? = some u) : w.cell? ⟨b, off + j, none⟩ = some u := by
  obtain ⟨hj, h1⟩ := sVals_one l h
  obtain ⟨c0, c1, c2⟩ := hc (j / 3) (by omega)
  rcases h1 with ⟨e, rfl⟩ | ⟨e, rfl⟩ | ⟨e, rfl⟩
  · rw [show off + j = off + j / 3 * 3 by omega]; exact c0
  · rw [show off + j = off + j / 3 * 3 + 1 by omega]; exact c1
  · rw [show off + j = off + j / 3 * 3 + 2 by omega]; exact c2
theorem tr3_in {l : List SOp} (h : ∀ t ∈ l, In3 t) (k : Nat) : In3 (tr3 l k) := by
  unfold tr3
  rw [List.getD_eq_getElem?_getD]
  cases he : l[k]? with
  | none => simp [In3]
  | some e => exact h e (List.mem_of_getElem? he)
theorem Rd3.mem {w : World} {B : Nat} {A : Option Addr} {l : List SOp} (h : Rd3 w B A l) : ∀ t ∈ l, In3 t := fun t ht => by
  obtain ⟨k, hk, rfl⟩ := List.getElem_of_mem ht
  have := h.int k
  unfold tr3 at this
  simpa [List.getD, hk] using this
theorem own_rd3 {w : World} {base n c : Nat} {e : TypeId} {A : Option Addr} {l : List SOp} (h : w.ownsRow base e 3 (.slice A n c) n (sVals l)) (hn : l.length = n) (hb : ∀ t ∈ l, In3 t) (hl : n ≤ 1099511627776) : Rd3 w w.heap.size A l := by
  subst hn
  refine ⟨tr3_in hb, hl, fun hn => ?_⟩
  rcases h.2 with ⟨_, h0⟩ | ⟨g, cap, cur, hv, _, hg, _⟩
  · omega
  · injection hv with hA _ hc
    subst hA
    subst hc
    refine ⟨g, 0, rfl, (Array.getElem?_eq_some_iff.1 hg).1, fun k hk => ?_⟩
    obtain ⟨h1, h2, h3⟩ := sVals_at l k hk
    rw [Nat.zero_add]
    exact ⟨by rw [h.cellAt (k * 3) (by omega)]; exact h1, by rw [h.cellAt (k * 3 + 1) (by omega)]; exact h2, by rw [h.cellAt (k * 3 + 2) (by omega)]; exact h3⟩

theorem Try.infoSo : (Try.prog.info? 32).map (fun i => (i.zero, i.size, i.bytes)) = some (some (.agg #[.int .i64 0, .int .i64 0, .int .i64 0]), 3, 24) := by kernel_rfl

set_option maxHeartbeats 2000000 in
theorem cloneS_any (A : Option Addr) (c : Nat) (es : List SOp) (w : World) (he : Rd3 w w.heap.size A es) (hl : es.length ≤ 8796093022) :
    Calls Try.prog 13 #[.slice A es.length c] w fun e w' => ∃ v', e = .returned v' ∧ w'.ownsRow w.heap.size 32 3 v' es.length (sVals es) ∧ Below w.heap.size w w' := by
  obtain ⟨i0, hi, hz0, hz1, hz2⟩ := info_parts Try.infoSo
  have q22 : ∀ (w : World) (a : Option Addr) (n c n' c' : Nat), (binOp .eql 22 (.slice a n c) (.slice none n' c')).run Try.prog w = .ok (.bool a.isNone) w := fun w a n c n' c' => Lib.run_eql_slice_nil w _ _ a n c n' c' Try.underlying22
  rcases Nat.eq_zero_or_pos es.length with h0 | hp
  · obtain rfl : es = [] := List.length_eq_zero_iff.1 h0
    clear he
    cases A with
    | none =>
      go_enter Try.func13, Try.ntmps13
      go_wp2_with fail
      go_ret
      exact ⟨_, rfl, World.ownsRow_nil _ _ _ _, Below.refl _ _⟩
    | some a =>
      go_enter Try.func13, Try.ntmps13
      go_wp2_with (at_builtin; refine wpList_append_own _ rfl _ _ 22 rfl w.heap.size 32 i0 (.agg #[.int .i64 0, .int .i64 0, .int .i64 0]) 3 24 Try.underlying22 hi hz0 hz1 hz2 rfl (by decide) _ _ _ rfl (World.ownsRow_made w #[] 0 (Nat.le_refl _) (Nat.zero_le _) rfl) a 0 c [] rfl rfl (by simp) (by simp) (by unfold maxLen; omega) (by omega) (by simp) ?_)
      intro v' w1 hown hgrow hnil
      go_wp2
      go_ret
      refine ⟨v', rfl, by simpa [sVals] using hown, ?_⟩
      exact ((Below.refl _ w).alloc (Nat.le_refl _) _).grown hgrow (by simp) (by intro k hk; simp [Value.ownBlock] at hk; omega)
  · obtain ⟨b, off, rfl, _, hc⟩ := he.rd hp
    have X := Lib.hid hc
    clear hc he
    go_enter Try.func13, Try.ntmps13
    go_wp2_with (at_builtin; refine wpList_append_own _ rfl _ _ 22 rfl w.heap.size 32 i0 (.agg #[.int .i64 0, .int .i64 0, .int .i64 0]) 3 24 Try.underlying22 hi hz0 hz1 hz2 rfl (by decide) _ _ _ rfl (World.ownsRow_made w #[] 0 (Nat.le_refl _) (Nat.zero_le _) rfl) ⟨b, off, none⟩ es.length c (sVals es) rfl ?qc1 ?qc2 ?qc3 ?qc4 ?qc5 ?qc6 ?_)
    case qc1 => exact sVals_len es
    case qc2 =>
      intro j u hj
      rw [Addr.add_lit]
      exact Lib.cell?_alloc_some _ (rd3_cells X.out hj)
    case qc3 => exact fun u hu => sVals_cell es hu
    case qc4 => unfold maxLen; omega
    case qc5 => omega
    case qc6 => simp
    intro v' w1 hown hgrow hnil
    go_wp2
    go_ret
    refine ⟨v', rfl, by simpa using hown, ?_⟩
    exact ((Below.refl _ w).alloc (Nat.le_refl _) _).grown hgrow (by simp) (by intro k hk; simp [Value.ownBlock] at hk; omega)
end Go.Proofs.Ytafhljjekpaehaa
