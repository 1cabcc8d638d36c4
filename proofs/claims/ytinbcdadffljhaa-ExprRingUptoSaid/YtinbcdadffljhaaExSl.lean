/-
  Contracts of slices.Index, Contains and Equal at []string, of slices.Clone at []api.Bind.
-/
import Derived.Test.YtinbcdadffljhaaExMem
import Derived.Test.YtinbcdadffljhaaRwAp
import Derived.Lib.Hide
import Derived.Deep.AppendLies
import Derived.Deep.QuietTactic
import Derived.BigQuiet
import Derived.Shelf.RegionOpenPlain
import Derived.Shelf.Slices.Clone
namespace Go.Proofs.Ytinbcdadffljhaa
open Go.RowKit Go.Shelf
set_option maxRecDepth 100000

/-- k is the first place of v -/
def FirstAtN (zs : List ByteArray) (v : ByteArray) (k : Nat) : Prop := k < zs.length ∧ sd zs k = v ∧ ∀ j, j < k → sd zs j ≠ v
theorem index_yesN (A : Option Addr) (c : Nat) (zs : List ByteArray) (v : ByteArray) (k0 : Nat) (w : World) (hx : RdN w w.heap.size A zs) (hv : FirstAtN zs v k0) :
    Calls Try.prog 46 #[.slice A zs.length c, .string v] w fun e w' => e = .returned (.int .i64 (k0 : Int)) ∧ w = w' := by
  obtain ⟨hk0, hz0, hmin⟩ := hv
  have hroom := hx.room
  have HZ := Lib.hid hz0
  have HM := Lib.hid hmin
  clear hz0 hmin
  go_enter Try.func46, Try.ntmps46
  go_wp2
  go_loop [8] (fun i => ∃ k : Nat, k ≤ k0 ∧ i = .int .i64 k) (fun i => zs.length - (intOf i).toNat)
  case atStart => exact ⟨0, Nat.zero_le _, rfl⟩
  case round =>
    obtain ⟨k, hk, rfl⟩ := hrel
    have hlt : k < zs.length := by omega
    obtain ⟨b, off, rfl, _, hc⟩ := hx.rd (by omega)
    have hci := hc k hlt
    clear hc
    by_cases he : k = k0
    · subst he
      have hb : (v.toList == (sd zs k).toList) = true := by rw [HZ.out]; exact str_yes v
      go_wp2
      go_ret
      exact ⟨rfl, rfl⟩
    · have hb : (v.toList == (sd zs k).toList) = false := str_no fun e => HM.out k (by omega) e.symm
      go_wp2
      go_round
      case rel => exact ⟨k + 1, by omega, by go_num⟩
      case measure => simp [intOf]; omega
theorem index_noN (A : Option Addr) (c : Nat) (zs : List ByteArray) (v : ByteArray) (w : World) (hx : RdN w w.heap.size A zs) (hv : ∀ j, j < zs.length → sd zs j ≠ v) :
    Calls Try.prog 46 #[.slice A zs.length c, .string v] w fun e w' => e = .returned (.int .i64 (-1)) ∧ w = w' := by
  have hroom := hx.room
  have HM := Lib.hid hv
  clear hv
  go_enter Try.func46, Try.ntmps46
  go_wp2
  go_loop [8] (fun i => ∃ k : Nat, k ≤ zs.length ∧ i = .int .i64 k) (fun i => zs.length - (intOf i).toNat)
  case atStart => exact ⟨0, Nat.zero_le _, rfl⟩
  case round =>
    obtain ⟨k, hk, rfl⟩ := hrel
    by_cases hlt : k < zs.length
    · obtain ⟨b, off, rfl, _, hc⟩ := hx.rd (by omega)
      have hci := hc k hlt
      clear hc
      have hb : (v.toList == (sd zs k).toList) = false := str_no fun e => HM.out k hlt e.symm
      go_wp2
      go_round
      case rel => exact ⟨k + 1, by omega, by go_num⟩
      case measure => simp [intOf]; omega
    · go_wp2
      go_ret
      exact ⟨rfl, rfl⟩
theorem first_of_memN : ∀ {zs : List ByteArray} {v : ByteArray}, v ∈ zs → ∃ k, FirstAtN zs v k
  | [], _, h => by simp at h
  | z :: zs, v, h => by
    by_cases e : z = v
    · exact ⟨0, by simp, by simp [sd, e], fun j hj => by omega⟩
    · have hm : v ∈ zs := by
        rcases List.mem_cons.1 h with h | h
        · exact absurd h.symm e
        · exact h
      obtain ⟨k, h1, h2, h3⟩ := first_of_memN hm
      refine ⟨k + 1, by simp; omega, by simpa [sd] using h2, fun j hj => ?_⟩
      rcases j with _ | j
      · simpa [sd] using e
      · have := h3 j (by omega)
        simpa [sd] using this
theorem sd_memN (zs : List ByteArray) (i : Nat) (h : i < zs.length) : sd zs i ∈ zs := by
  unfold sd
  simp [List.getD, h]
theorem contains_bN (A : Option Addr) (c : Nat) (zs : List ByteArray) (v : ByteArray) (w : World) (hx : RdN w w.heap.size A zs) :
    Calls Try.prog 21 #[.slice A zs.length c, .string v] w fun e w' => e = .returned (.bool (decide (v ∈ zs))) ∧ w = w' := by
  have hroom := hx.room
  by_cases hv : v ∈ zs
  · rw [decide_eq_true hv]
    obtain ⟨k, hk⟩ := first_of_memN hv
    clear hv
    go_enter Try.func21, Try.ntmps21
    go_wp2_with fail
    refine (index_yesN A c zs v k _ hx hk).mono ?_
    rintro e w' ⟨rfl, rfl⟩
    go_wp2
    go_ret
    exact ⟨rfl, rfl⟩
  · rw [decide_eq_false hv]
    have hno : ∀ j, j < zs.length → sd zs j ≠ v := fun j hj e => hv (e ▸ sd_memN zs j hj)
    have HN := Lib.hid hno
    clear hv hno
    go_enter Try.func21, Try.ntmps21
    go_wp2_with fail
    refine (index_noN A c zs v _ hx HN.out).mono ?_
    rintro e w' ⟨rfl, rfl⟩
    go_wp2
    go_ret
    exact ⟨rfl, rfl⟩

theorem below_drawsN {B : Nat} {a w : World} (h : Below B a w) : ∀ n, Below B a (w.drewN n)
  | 0 => h
  | n + 1 => (below_drawsN h n).drew

set_option maxHeartbeats 1000000 in
theorem equalN_same (A A' : Option Addr) (c c' : Nat) (xs : List ByteArray) (w : World) (hx : RdN w w.heap.size A xs) (hy : RdN w w.heap.size A' xs) :
    Calls Try.prog 11 #[.slice A xs.length c, .slice A' xs.length c'] w fun e w' => e = .returned (.bool true) ∧ Below w.heap.size w w' := by
  have hr := hx.room
  have hl : ((xs.length : Int) != (xs.length : Int)) = false := by simp
  go_enter Try.func11, Try.ntmps11
  go_wp2
  go_loopw [13] (fun i wr => ∃ k n : Nat, k ≤ xs.length ∧ i = .int .i64 k ∧ wr = w.drewN n) (fun i _ => xs.length - (intOf i).toNat)
  case atStart => exact ⟨0, 0, Nat.zero_le _, rfl, rfl⟩
  case round =>
    obtain ⟨k, n, hk, rfl, rfl⟩ := hrel
    by_cases hlt : k < xs.length
    · obtain ⟨b, off, rfl, _, hc⟩ := hx.rd (by omega)
      obtain ⟨b', off', rfl, _, hc'⟩ := hy.rd (by omega)
      have ha1 := hc k hlt
      have hb1 := hc' k hlt
      have hq : ((sd xs k).toList != (sd xs k).toList) = false := by simp
      have hq2 := str_yes (sd xs k)
      clear hc hc'
      go_wp2
      go_quiet (fail)
      go_wp2
      go_roundw
      case rel => exact ⟨k + 1, _, by omega, by go_num, rfl⟩
      case measure => simp [intOf]; omega
    · go_wp2
      go_ret
      exact ⟨rfl, below_drawsN (Below.refl _ _) n⟩
/-- the cells of a list of bindings -/
def bVals (l : List (ByteArray × Int)) : List Value := l.flatMap fun e => [.string e.1, .int .i64 e.2]
theorem bVals_snoc (l : List (ByteArray × Int)) (t : ByteArray × Int) : bVals l ++ [.string t.1, .int .i64 t.2] = bVals (l ++ [t]) := by simp [bVals]
theorem bVals_len (l : List (ByteArray × Int)) : (bVals l).length = l.length * 2 := by
  induction l with
  | nil => rfl
  | cons a l ih => rw [show bVals (a :: l) = [.string a.1, .int .i64 a.2] ++ bVals l from rfl, List.length_append, ih]; simp; omega
theorem bVals_at : ∀ (l : List (ByteArray × Int)) (k : Nat), k < l.length → (bVals l)[k * 2]? = some (.string (bd l k).1) ∧ (bVals l)[k * 2 + 1]? = some (.int .i64 (bd l k).2)
  | [], k, h => by simp at h
  | a :: l, 0, _ => ⟨rfl, rfl⟩
  | a :: l, k + 1, h => by
    have ih := bVals_at l k (by simpa using h)
    have e : bVals (a :: l) = .string a.1 :: .int .i64 a.2 :: bVals l := rfl
    rw [e, show (k + 1) * 2 = k * 2 + 1 + 1 by omega]
    simp only [List.getElem?_cons_succ]
    exact ih
theorem bVals_one (l : List (ByteArray × Int)) {j : Nat} {u : Value} (h : (bVals l)[j]? = some u) : j < l.length * 2 ∧ ((j % 2 = 0 ∧ u = .string (bd l (j / 2)).1) ∨ (j % 2 = 1 ∧ u = .int .i64 (bd l (j / 2)).2)) := by
  have hj : j < l.length * 2 := by
    have := (List.getElem?_eq_some_iff.1 h).1
    rwa [bVals_len] at this
  obtain ⟨h1, h2⟩ := bVals_at l (j / 2) (by omega)
  refine ⟨hj, ?_⟩
  rcases (show j % 2 = 0 ∨ j % 2 = 1 by omega) with e | e
  · left; rw [show j / 2 * 2 = j by omega, h] at h1; exact ⟨e, Option.some.inj h1⟩
  · right; rw [show j / 2 * 2 + 1 = j by omega, h] at h2; exact ⟨e, Option.some.inj h2⟩
theorem bVals_cell (l : List (ByteArray × Int)) {u : Value} (h : u ∈ bVals l) : u.oneCell' = true := by
  unfold bVals at h
  obtain ⟨x, _, hx⟩ := List.mem_flatMap.1 h
  simp at hx
  rcases hx with rfl | rfl <;> rfl
theorem rdB_cells {w : World} {b off : Nat} {l : List (ByteArray × Int)} (hc : ∀ k, k < l.length → w.cell? ⟨b, off + k * 2, none⟩ = some (.string (bd l k).1) ∧ w.cell? ⟨b, off + k * 2 + 1, none⟩ = some (.int .i64 (bd l k).2)) {j : Nat} {u : Value} (h : (bVals l)[j]? = some u) : w.cell? ⟨b, off + j, none⟩ = some u := by
  obtain ⟨hj, h1⟩ := bVals_one l h
  obtain ⟨c0, c1⟩ := hc (j / 2) (by omega)
  rcases h1 with ⟨e, rfl⟩ | ⟨e, rfl⟩
  · rw [show off + j = off + j / 2 * 2 by omega]; exact c0
  · rw [show off + j = off + j / 2 * 2 + 1 by omega]; exact c1
theorem own_capE {w : World} {base e size n c : Nat} {A : Option Addr} {xs : List Value} (h : w.ownsRow base e size (.slice A n c) n xs) : n ≤ c := by
  rcases h.2 with ⟨h1, rfl⟩ | ⟨g, cap, cur, h1, _, _, h2, _⟩
  · exact Nat.zero_le _
  · injection h1 with _ _ h1
    omega
theorem own_rdB {w : World} {base n c : Nat} {e : TypeId} {A : Option Addr} {l : List (ByteArray × Int)} (h : w.ownsRow base e 2 (.slice A n c) n (bVals l)) (hn : l.length = n) (hb : ∀ t ∈ l, inI t.2) (hs : ∀ t ∈ l, t.1.size ≤ maxLen) (hl : n ≤ 1099511627776) : RdB w w.heap.size A l := by
  subst hn
  refine ⟨hb, hl, fun hn => ?_, hs⟩
  rcases h.2 with ⟨_, h0⟩ | ⟨g, cap, cur, hv, _, hg, _⟩
  · omega
  · injection hv with hA _ hc
    subst hA
    subst hc
    refine ⟨g, 0, rfl, (Array.getElem?_eq_some_iff.1 hg).1, fun k hk => ?_⟩
    obtain ⟨h1, h2⟩ := bVals_at l k hk
    rw [Nat.zero_add]
    exact ⟨by rw [h.cellAt (k * 2) (by omega)]; exact h1, by rw [h.cellAt (k * 2 + 1) (by omega)]; exact h2⟩

theorem Try.infoBi : (Try.prog.info? 38).map (fun i => (i.zero, i.size, i.bytes)) = some (some (.agg #[.string ⟨#[]⟩, .int .i64 0]), 2, 24) := by kernel_rfl

set_option maxHeartbeats 2000000 in
theorem cloneB_any (A : Option Addr) (c : Nat) (es : List (ByteArray × Int)) (w : World) (he : RdB w w.heap.size A es) (hl : es.length ≤ 8796093022) :
    Calls Try.prog 20 #[.slice A es.length c] w fun e w' => ∃ v', e = .returned v' ∧ w'.ownsRow w.heap.size 38 2 v' es.length (bVals es) ∧ Below w.heap.size w w' := by
  obtain ⟨i0, hi, hz0, hz1, hz2⟩ := info_parts Try.infoBi
  have q22 : ∀ (w : World) (a : Option Addr) (n c n' c' : Nat), (binOp .eql 25 (.slice a n c) (.slice none n' c')).run Try.prog w = .ok (.bool a.isNone) w := fun w a n c n' c' => Lib.run_eql_slice_nil w _ _ a n c n' c' Try.underlying25
  rcases Nat.eq_zero_or_pos es.length with h0 | hp
  · obtain rfl : es = [] := List.length_eq_zero_iff.1 h0
    clear he
    cases A with
    | none =>
      go_enter Try.func20, Try.ntmps20
      go_wp2_with fail
      go_ret
      exact ⟨_, rfl, World.ownsRow_nil _ _ _ _, Below.refl _ _⟩
    | some a =>
      go_enter Try.func20, Try.ntmps20
      go_wp2_with (at_builtin; refine wpList_append_own _ rfl _ _ 25 rfl w.heap.size 38 i0 (.agg #[.string ⟨#[]⟩, .int .i64 0]) 2 24 Try.underlying25 hi hz0 hz1 hz2 rfl (by decide) _ _ _ rfl (World.ownsRow_made w #[] 0 (Nat.le_refl _) (Nat.zero_le _) rfl) a 0 c [] rfl rfl (by simp) (by simp) (by unfold maxLen; omega) (by omega) (by simp) ?_)
      intro v' w1 hown hgrow hnil
      go_wp2
      go_ret
      refine ⟨v', rfl, by simpa [bVals] using hown, ?_⟩
      exact ((Below.refl _ w).alloc (Nat.le_refl _) _).grown hgrow (by simp) (by intro k hk; simp [Value.ownBlock] at hk; omega)
  · obtain ⟨b, off, rfl, _, hc⟩ := he.rd hp
    have X := Lib.hid hc
    clear hc he
    go_enter Try.func20, Try.ntmps20
    go_wp2_with (at_builtin; refine wpList_append_own _ rfl _ _ 25 rfl w.heap.size 38 i0 (.agg #[.string ⟨#[]⟩, .int .i64 0]) 2 24 Try.underlying25 hi hz0 hz1 hz2 rfl (by decide) _ _ _ rfl (World.ownsRow_made w #[] 0 (Nat.le_refl _) (Nat.zero_le _) rfl) ⟨b, off, none⟩ es.length c (bVals es) rfl ?qc1 ?qc2 ?qc3 ?qc4 ?qc5 ?qc6 ?_)
    case qc1 => exact bVals_len es
    case qc2 =>
      intro j u hj
      rw [Addr.add_lit]
      exact Lib.cell?_alloc_some _ (rdB_cells X.out hj)
    case qc3 => exact fun u hu => bVals_cell es hu
    case qc4 => unfold maxLen; omega
    case qc5 => omega
    case qc6 => simp
    intro v' w1 hown hgrow hnil
    go_wp2
    go_ret
    refine ⟨v', rfl, by simpa using hown, ?_⟩
    exact ((Below.refl _ w).alloc (Nat.le_refl _) _).grown hgrow (by simp) (by intro k hk; simp [Value.ownBlock] at hk; omega)
end Go.Proofs.Ytinbcdadffljhaa
