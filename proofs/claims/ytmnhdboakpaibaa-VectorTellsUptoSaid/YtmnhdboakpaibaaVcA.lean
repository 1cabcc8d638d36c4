/-
  Contracts of vector.At, trimmed and extended, and of the reference's Hand. For every slice of words.
-/
import Derived.Test.YtmnhdboakpaibaaVcM
import Derived.Test.YtmnhdboakpaibaaBsEqI
import Derived.Laws.CopyOwn
namespace Go.Proofs.Ytmnhdboakpaibaa
open Go.RowKit
set_option maxRecDepth 100000

/-- without the zeros at the end -/
def trm (xs : List Nat) : List Nat := vec (wd xs) xs.length
theorem trm_len (xs : List Nat) : (trm xs).length = tl (wd xs) xs.length := vec_len _ _
theorem trm_le (xs : List Nat) : (trm xs).length ≤ xs.length := by rw [trm_len]; exact tl_le _ _
theorem trm_wd (xs : List Nat) (k : Nat) : wd (trm xs) k = wd xs k := by
  unfold trm
  rw [vec_at]
  split
  · rfl
  · exact (wd_out _ _ (by omega)).symm
theorem trm_of {xs : List Nat} {f : Nat → Nat} {n : Nat} (h : ∀ k, wd xs k = wd (vec f n) k) : trm xs = vec f n := vec_ext fun k => by
  rw [show wd (vec (wd xs) xs.length) k = wd (trm xs) k from rfl, trm_wd]; exact h k
theorem trm_full {xs : List Nat} (h : xs.length = 0 ∨ wd xs (xs.length - 1) ≠ 0) : trm xs = xs := by
  have e : tl (wd xs) xs.length = xs.length := by
    rcases h with h | h
    · rw [h]; rfl
    · cases hx : xs.length with
      | zero => rfl
      | succ n => rw [hx] at h; exact tl_full (by simpa using h)
  exact wd_extV (by rw [trm_len, e]) fun k => trm_wd xs k

theorem vat_any (A : Option Addr) (c : Nat) (xs : List Nat) (i : Int) (w : World) (hx : RdU w w.heap.size A xs) :
    Calls Try.prog 7 #[.slice A xs.length c, .int .i64 i] w fun e w' => e = .returned (.int .u64 (vAt xs i : Int)) ∧ w = w' := by
  have hr := hx.room
  rcases (show i < 0 ∨ (∃ k : Nat, i = (k : Int) ∧ k < xs.length) ∨ (¬ i < 0 ∧ (xs.length : Int) ≤ i) by
    by_cases h : i < 0
    · exact .inl h
    · by_cases h2 : (xs.length : Int) ≤ i
      · exact .inr (.inr ⟨h, h2⟩)
      · exact .inr (.inl ⟨i.toNat, by omega, by omega⟩)) with h | ⟨k, rfl, hk⟩ | ⟨h, h2⟩
  · have h0 : vAt xs i = 0 := by unfold vAt; rw [if_neg (by omega)]
    rw [h0]
    clear h0
    go_enter Try.func7, Try.ntmps7
    go_wp2
    go_ret
    exact ⟨rfl, rfl⟩
  · obtain ⟨b, off, rfl, _, hc⟩ := hx.rd (by omega)
    have hci := hc k hk
    have h0 : vAt xs (k : Int) = wd xs k := by unfold vAt; rw [if_pos (by omega)]; rfl
    rw [h0]
    clear hc h0
    go_enter Try.func7, Try.ntmps7
    go_wp2
    go_ret
    exact ⟨rfl, rfl⟩
  · have h0 : vAt xs i = 0 := by unfold vAt; rw [if_pos (by omega), wd_out _ _ (by omega)]
    rw [h0]
    clear h0
    go_enter Try.func7, Try.ntmps7
    go_wp2
    go_ret
    exact ⟨rfl, rfl⟩

theorem hand_any (A : Option Addr) (c : Nat) (xs : List Nat) (i : Int) (w : World) (hx : RdU w w.heap.size A xs) :
    Calls Try.prog 8 #[.slice A xs.length c, .int .i64 i] w fun e w' => e = .returned (.int .u64 (vAt xs i : Int)) ∧ w = w' := by
  have hr := hx.room
  go_enter Try.func8, Try.ntmps8
  go_wp2
  go_loop [9] (fun v => ∃ k : Nat, k ≤ xs.length ∧ v = .int .i64 k ∧ Hid (∀ j, j < k → (j : Int) ≠ i)) (fun v => xs.length - (intOf v).toNat)
  case atStart => exact ⟨0, Nat.zero_le _, rfl, fun j hj => by omega⟩
  case round =>
    obtain ⟨k, hk, rfl, hall⟩ := hrel
    by_cases hlt : k < xs.length
    · obtain ⟨b, off, rfl, _, hc⟩ := hx.rd (by omega)
      have hci := hc k hlt
      clear hc
      by_cases e : (k : Int) = i
      · subst e
        have h0 := Lib.hid (show vAt xs (k : Int) = wd xs k by unfold vAt; rw [if_pos (by omega)]; rfl)
        go_wp2
        go_ret
        exact ⟨ret_n (by rw [h0.out]), rfl⟩
      · have hb : ((k : Int) == i) = false := by simpa using e
        have E := Lib.hid e
        clear e
        go_wp2
        go_round
        case rel => exact ⟨k + 1, by omega, by go_num, fun j hj => by
          rcases Nat.lt_succ_iff_lt_or_eq.1 hj with h | h
          · exact hall.out j h
          · subst h; exact E.out⟩
        case measure => simp [intOf]; omega
    · go_wp2
      go_ret
      exact ⟨ret_n (by
        unfold vAt
        split
        · have := hall.out i.toNat
          rw [wd_out _ _ (by false_or_by_contra; exact hall.out i.toNat (by omega) (by omega))]; rfl
        · rfl), rfl⟩

set_option maxHeartbeats 1000000 in
theorem trimmed_any (A : Option Addr) (c : Nat) (xs : List Nat) (w : World) (hx : RdU w w.heap.size A xs) (hcap : xs.length ≤ c) :
    Calls Try.prog 17 #[.slice A xs.length c] w fun e w' => (∃ A1 c1, e = .returned (.slice A1 (trm xs).length c1) ∧ (trm xs).length ≤ c1 ∧ RdU w w.heap.size A1 (trm xs)) ∧ w = w' := by
  have hr := hx.room
  have HT := Lib.hid (trm_len xs)
  go_enter Try.func17, Try.ntmps17
  go_wp2
  go_loop [3] (fun v => ∃ k : Nat, k ≤ xs.length ∧ v = .int .i64 k ∧ Hid (tl (wd xs) xs.length = tl (wd xs) k)) (fun v => (intOf v).toNat)
  case atStart => exact ⟨xs.length, Nat.le_refl _, rfl, rfl⟩
  case round =>
    obtain ⟨k, hk, rfl, ht⟩ := hrel
    have h3 : (∃ m, k = m + 1 ∧ wd xs m = 0) ∨ (k = 0 ∨ ∃ m, k = m + 1 ∧ wd xs m ≠ 0) := by
      rcases k with _ | m
      · exact .inr (.inl rfl)
      · by_cases h : wd xs m = 0
        · exact .inl ⟨m, rfl, h⟩
        · exact .inr (.inr ⟨m, rfl, h⟩)
    have hrd : ∀ m, m < xs.length → ∃ b off, A = some ⟨b, off, none⟩ ∧ w.cell? ⟨b, off + m, none⟩ = some (.int .u64 (wd xs m : Int)) := fun m hm => by
      obtain ⟨b, off, h1, _, hc⟩ := hx.rd (by omega)
      exact ⟨b, off, h1, hc m hm⟩
    rcases h3 with ⟨m, rfl, h0⟩ | h3
    · obtain ⟨b, off, rfl, hcm⟩ := hrd m (by omega)
      have H0 := Lib.hid h0
      rw [h0] at hcm
      clear h0 hrd
      go_wp2
      go_round
      case rel => exact ⟨m, by omega, rfl, by rw [ht.out, tl_same H0.out]; exact rfl⟩
      case measure => simp [intOf]
    · have hT : (trm xs).length = k := by
        rw [trm_len, ht.out]
        rcases h3 with rfl | ⟨m, rfl, h0⟩
        · rfl
        · exact tl_full h0
      have HR : RdU w w.heap.size A (trm xs) := ⟨fun j => by rw [trm_wd]; exact hx.lt j, by omega, fun hn => by
        obtain ⟨b, off, h1, h2, hc⟩ := hx.rd (by omega)
        exact ⟨b, off, h1, h2, fun j hj => by show _ = some (Value.int .u64 (wd (trm xs) j : Int)); rw [trm_wd]; exact hc j (by omega)⟩⟩
      have HR' := Lib.hid HR
      have HT' := Lib.hid hT
      clear hT HR
      rcases h3 with rfl | ⟨m, rfl, h0⟩
      · clear hrd
        go_wp2
        go_ret
        exact ⟨⟨A, c, by rw [HT'.out]; rfl, by rw [HT'.out]; omega, HR'.out⟩, rfl⟩
      · obtain ⟨b, off, rfl, hcm⟩ := hrd m (by omega)
        have hz : ((wd xs m : Int) == 0) = false := by simpa using h0
        clear h0 hrd
        go_wp2
        go_ret
        exact ⟨⟨_, c, by rw [HT'.out]; rfl, by rw [HT'.out]; omega, HR'.out⟩, rfl⟩
end Go.Proofs.Ytmnhdboakpaibaa
