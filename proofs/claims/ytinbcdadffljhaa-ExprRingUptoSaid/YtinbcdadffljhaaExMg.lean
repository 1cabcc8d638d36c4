/-
  Contract of the reference's Merge: the names of both, each once.
-/
import Derived.Test.YtinbcdadffljhaaExMem
import Derived.Test.YtinbcdadffljhaaRwAp
import Derived.Test.YtinbcdadffljhaaBsA
import Derived.Deep.CutRange
import Derived.Outline
import Derived.Lib.Hide
import Derived.Room.AppendZeros
namespace Go.Proofs.Ytinbcdadffljhaa
open Go.RowKit
set_option maxRecDepth 100000

theorem Try.infoStr : (Try.prog.info? 9).map (fun i => (i.zero, i.size, i.bytes)) = some (some (.string ByteArray.empty), 1, 16) := by kernel_rfl
theorem nVals_one (l : List ByteArray) : ∀ u ∈ nVals l, u.oneCell' = true := by
  intro u hu
  obtain ⟨s, _, rfl⟩ := List.mem_map.1 hu
  rfl
theorem mrg_take (la lb : List ByteArray) {k : Nat} (hk : k < lb.length) : mrgN la (lb.take (k + 1)) = addN (mrgN la (lb.take k)) (sd lb k) := by
  rw [List.take_succ_eq_append_getElem hk]
  unfold mrgN sd
  rw [List.foldl_append]
  simp [List.getD, hk]
theorem mrgN_len (la : List ByteArray) : ∀ (lb : List ByteArray), (mrgN la lb).length ≤ la.length + lb.length := by
  intro lb
  induction lb generalizing la with
  | nil => exact Nat.le_refl _
  | cons s lb ih =>
    have h1 := ih (addN la s)
    have h2 : (addN la s).length ≤ la.length + 1 := by unfold addN; split <;> simp
    show (mrgN (addN la s) lb).length ≤ _
    rw [List.length_cons]
    omega
theorem any_mem (l : List ByteArray) (s : ByteArray) : l.any (fun t => s.toList == t.toList) = decide (s ∈ l) := by
  rw [Bool.eq_iff_iff, List.any_eq_true, decide_eq_true_eq]
  constructor
  · rintro ⟨t, ht, h⟩
    rw [str_inj (beq_iff_eq.1 h)]
    exact ht
  · exact fun h => ⟨s, h, str_yes s⟩
theorem any_take (l : List ByteArray) (s : ByteArray) {k : Nat} (hk : k < l.length) : (l.take (k + 1)).any (fun t => s.toList == t.toList) = ((l.take k).any (fun t => s.toList == t.toList) || s.toList == (sd l k).toList) := by
  rw [List.take_succ_eq_append_getElem hk, List.any_append]
  unfold sd
  simp [List.getD, hk]

/-- the call returned the names l, in memory that it made -/
def OutN (base : Nat) (l : List ByteArray) (w : World) (e : Ending) (w' : World) : Prop := ∃ v, e = .returned v ∧ w'.ownsRow base 9 1 v l.length (nVals l) ∧ Below w.heap.size w w'

set_option maxHeartbeats 4000000 in
theorem merge_any (x : Value) (la : List ByteArray) (B : Option Addr) (c : Nat) (lb : List ByteArray) (w : World) (hx : LiesR w x la.length (nVals la)) (hB : RdN w w.heap.size B lb) (hl : la.length + lb.length ≤ 4194304) :
    Calls Try.prog 38 #[x, .slice B lb.length c] w (OutN w.heap.size (mrgN la lb) w) := by
  obtain ⟨i0, hi, hz0, hz1, hz2⟩ := info_parts Try.infoStr
  obtain ⟨base, hbe⟩ : ∃ base, base = w.heap.size := ⟨_, rfl⟩
  have hbase : base ≤ w.heap.size := by omega
  rw [← hbe]
  have HBE := Lib.hid hbe
  obtain ⟨A1, c1, rfl⟩ : ∃ A1 c1, x = .slice A1 la.length c1 := by
    rcases hx with ⟨h, h0, _⟩ | ⟨ad, c, h, _⟩
    · exact ⟨none, 0, by rw [h, h0]⟩
    · exact ⟨_, _, h⟩
  have hB0 := (Below.refl w.heap.size w).alloc (Nat.le_refl _) (.cells #[] 9)
  have hx0 : LiesR (w.alloc (.cells #[] 9)) (.slice A1 la.length c1) la.length (nVals la) := by
    rcases hx with h | ⟨ad, c, h1, h2⟩
    · exact .inl h
    · exact .inr ⟨ad, c, h1, fun j u hj => by
        have h3 := h2 j u hj
        have hlt := World.block_lt_of_cell? w (ad.add j) h3
        exact (World.cell?_alloc_lt _ _ _ hlt).trans h3⟩
  obtain ⟨v1, w1, hr, hown, hg, hat⟩ := run_append_rowsR (P := Try.prog) (w.alloc (.cells #[] 9)) 29 29 base 9 i0 _ 1 16 Try.underlying29 hi hz0 hz1 hz2 rfl (by decide) _ 0 [] (own_emptyR w base 9 1 hbase) (.slice A1 la.length c1) la.length (nVals la) hx0 (by rw [nVals_len]; simp) (nVals_one la) (by unfold maxLen; omega) (by omega) (by simp; omega)
  have hB1 : Below w.heap.size w w1 := hB0.grown hg (by simp) (fun k hk => by simp [Value.ownBlock] at hk; omega)
  rw [Nat.zero_add, List.nil_append] at hown
  have HR := Lib.hid hr
  have hs1 := hB1.size
  have HL := Lib.hid hl
  clear hr hg hat hx0 hB0 hx hbe
  go_enter Try.func38, Try.ntmps38
  go_wp2_with (at_builtin; refine Lib.wpList_append_run _ rfl _ _ _ _ rfl _ _ rfl rfl _ _ HR.out ?_)
  obtain ⟨wo, rfl⟩ : ∃ wo : World, wo = w1 := ⟨_, rfl⟩
  go_loopw [5, 16] (fun v i wr => ∃ k : Nat, k ≤ lb.length ∧ i = .int .i64 k ∧ wr.ownsRow base 9 1 v (mrgN la (lb.take k)).length (nVals (mrgN la (lb.take k))) ∧ Below w.heap.size w wr) (fun _ i _ => lb.length - (intOf i).toNat)
  case atStart => exact ⟨0, Nat.zero_le _, rfl, hown, hB1⟩
  case round =>
    obtain ⟨k, hk, rfl, hrow, hbw⟩ := hrel
    clear hown hB1
    have hlen := mrgN_len la (lb.take k)
    rw [List.length_take] at hlen
    by_cases hlt : k < lb.length
    · obtain ⟨b, off, rfl, hbl, hc⟩ := hB.rd (by omega)
      have q0 : wr.cell? ⟨b, off + k, none⟩ = some (.string (sd lb k)) := (hbw.cell (p := ⟨b, off + k, none⟩) hbl).trans (hc k hlt)
      have HT := Lib.hid (mrg_take la lb hlt)
      obtain ⟨O, hO⟩ : ∃ O, O = mrgN la (lb.take k) := ⟨_, rfl⟩
      rw [← hO] at HT hrow hlen
      obtain ⟨s, hse⟩ : ∃ s, s = sd lb k := ⟨_, rfl⟩
      rw [← hse] at HT q0
      have hol : O.length ≤ 4194304 := by have := HL.out; omega
      obtain ⟨A8, c8, rfl⟩ := own_any hrow
      have hcell : Hid (∀ y, y < O.length → ∃ g, A8 = some ⟨g, 0, none⟩ ∧ wr.cell? ⟨g, y, none⟩ = some (.string (sd O y))) := Lib.hid fun y hy => by
        obtain ⟨g, cap, hv, _, _⟩ := own_shape hrow (by omega)
        injection hv with h1 _ h3
        subst h1
        exact ⟨g, rfl, by rw [hrow.cellAt y (by omega)]; exact nVals_at O y hy⟩
      clear hc hO hse hlen
      go_wp2_with fail
      go_loop [8, 22] (fun f i => ∃ y : Nat, y ≤ O.length ∧ i = .int .i64 y ∧ f = .bool ((O.take y).any fun t => s.toList == t.toList)) (fun _ i => O.length - (intOf i).toNat)
      case atStart => exact ⟨0, Nat.zero_le _, rfl, rfl⟩
      case round =>
        obtain ⟨y, hy, rfl, rfl⟩ := hrel
        by_cases hyl : y < O.length
        · obtain ⟨g, hg8, q1⟩ := hcell.out y hyl
          subst hg8
          have HS := Lib.hid (any_take O s hyl)
          obtain ⟨F, hF⟩ : ∃ F, F = (O.take y).any fun t => s.toList == t.toList := ⟨_, rfl⟩
          rw [← hF] at HS ⊢
          obtain ⟨t, hte⟩ : ∃ t, t = sd O y := ⟨_, rfl⟩
          rw [← hte] at HS q1
          clear hF hte q0
          cases F with
          | true =>
            go_wp2_with fail
            go_round
            case rel => exact ⟨y + 1, by omega, by go_num, by rw [HS.out]; rfl⟩
            case measure => simp [intOf]; omega
          | false =>
            go_wp2_with fail
            go_round
            case rel => exact ⟨y + 1, by omega, by go_num, by rw [HS.out]; rfl⟩
            case measure => simp [intOf]; omega
        · obtain rfl : y = O.length := by omega
          rw [List.take_length, any_mem]
          by_cases hm : s ∈ O
          · have HT2 := Lib.hid (HT.out.trans (if_pos hm))
            rw [decide_eq_true hm]
            clear hm HT q0 hyl hy hcell
            go_wp2_with fail
            go_roundw
            case rel => exact ⟨k + 1, by omega, by go_num, by rw [HT2.out]; exact hrow, hbw⟩
            case measure => simp [intOf]; omega
          · have HT2 := Lib.hid (HT.out.trans (if_neg hm))
            rw [decide_eq_false hm]
            have hsz := hbw.size
            have hlt8 : ∀ q, (Value.slice A8 O.length c8).ownBlock = some q → base ≤ q := own_base hrow
            clear hm HT q0 hyl hy hcell
            go_wp2_with (at_builtin; refine wpList_append_own _ rfl _ _ 29 rfl base 9 i0 _ 1 16 Try.underlying29 hi hz0 hz1 hz2 rfl (by decide) _ _ _ rfl (hrow.alloc _) ⟨wr.heap.size, 0, none⟩ 1 1 [.string s] rfl rfl (cell_one_new _ _ _) (by simp [Value.oneCell']) (by unfold maxLen; omega) (by omega) (by simp; omega) ?_; intro v' w6 hown6 hgrow6 _)
            have hb6 : Below w.heap.size w w6 := (hbw.alloc hsz _).grown hgrow6 (by simp; omega) (fun q hq => by have := hlt8 q hq; have := HBE.out; omega)
            rw [nVals_snoc] at hown6
            clear hgrow6 hrow
            go_roundw
            case rel => exact ⟨k + 1, by omega, by go_num, by rw [HT2.out, List.length_append, List.length_singleton]; exact hown6, hb6⟩
            case measure => simp [intOf]; omega
    · obtain rfl : k = lb.length := by omega
      rw [List.take_length] at hrow
      go_wp2_with fail
      go_ret
      exact ⟨_, rfl, hrow, hbw⟩
end Go.Proofs.Ytinbcdadffljhaa
