/-
  slices.Equal over accesses: two slices of the same accesses are equal.
-/
import Derived.Test.YtafdpimkfkddaaaSpDb
import Derived.Deep.QuietTactic
import Derived.BigQuiet
namespace Go.Proofs.Ytafdpimkfkddaaa
open Go.RowKit
set_option maxRecDepth 100000

def acAt (xs : List Acc) (k : Nat) : Acc := xs.getD k (0, false, 0)
theorem accs_at (xs : List Acc) (k : Nat) (hk : k < xs.length) : (accs xs)[k * 3]? = some (.int .i64 (acAt xs k).1) ∧ (accs xs)[k * 3 + 1]? = some (.bool (acAt xs k).2.1) ∧ (accs xs)[k * 3 + 2]? = some (.int .i64 (acAt xs k).2.2) := by
  induction xs generalizing k with
  | nil => simp at hk
  | cons a l ih =>
    cases k with
    | zero => exact ⟨rfl, rfl, rfl⟩
    | succ k =>
      have h := ih k (by simpa using hk)
      have e1 : (k + 1) * 3 = k * 3 + 1 + 1 + 1 := by omega
      rw [e1]
      exact h

/-- a slice of accesses -/
structure RdAc (w : World) (B : Nat) (A : Option Addr) (xs : List Acc) : Prop where
  room : xs.length ≤ 1048576
  rd : 0 < xs.length → ∃ b off, A = some ⟨b, off, none⟩ ∧ b < B ∧ ∀ k, k < xs.length → w.cell? ⟨b, off + k * 3, none⟩ = some (.int .i64 (acAt xs k).1) ∧ w.cell? ⟨b, off + k * 3 + 1, none⟩ = some (.bool (acAt xs k).2.1) ∧ w.cell? ⟨b, off + k * 3 + 2, none⟩ = some (.int .i64 (acAt xs k).2.2)
theorem own_rdAc {w : World} {base c : Nat} {e : TypeId} {A : Option Addr} {xs : List Acc} (h : w.ownsRow base e 3 (.slice A xs.length c) xs.length (accs xs)) (hr : xs.length ≤ 1048576) : RdAc w w.heap.size A xs := by
  refine ⟨hr, fun hn => ?_⟩
  rcases h.2 with ⟨_, h0⟩ | ⟨g, cap, cur, hv, hb, hg, _⟩
  · omega
  · injection hv with hA _ hc
    subst hA
    subst hc
    refine ⟨g, 0, rfl, (Array.getElem?_eq_some_iff.1 hg).1, fun k hk => ?_⟩
    rw [Nat.zero_add, h.cellAt (k * 3) (by omega), h.cellAt (k * 3 + 1) (by omega), h.cellAt (k * 3 + 2) (by omega)]
    exact accs_at xs k hk

theorem below_draws {B : Nat} {a w : World} (h : Below B a w) : ∀ n, Below B a (w.drewN n)
  | 0 => h
  | n + 1 => (below_draws h n).drew

set_option maxHeartbeats 1000000 in
theorem equalAc_same (A A' : Option Addr) (c c' : Nat) (xs : List Acc) (w : World) (hx : RdAc w w.heap.size A xs) (hy : RdAc w w.heap.size A' xs) :
    Calls Try.prog 9 #[.slice A xs.length c, .slice A' xs.length c'] w fun e w' => e = .returned (.bool true) ∧ Below w.heap.size w w' := by
  have hr := hx.room
  have hl : ((xs.length : Int) != (xs.length : Int)) = false := by simp
  go_enter Try.func9, Try.ntmps9
  go_wp2
  go_loopw [13] (fun i wr => ∃ k n : Nat, k ≤ xs.length ∧ i = .int .i64 k ∧ wr = w.drewN n) (fun i _ => xs.length - (intOf i).toNat)
  case atStart => exact ⟨0, 0, Nat.zero_le _, rfl, rfl⟩
  case round =>
    obtain ⟨k, n, hk, rfl, rfl⟩ := hrel
    by_cases hlt : k < xs.length
    · obtain ⟨b, off, rfl, _, hc⟩ := hx.rd (by omega)
      obtain ⟨b', off', rfl, _, hc'⟩ := hy.rd (by omega)
      obtain ⟨ha1, ha2, ha3⟩ := hc k hlt
      obtain ⟨hb1, hb2, hb3⟩ := hc' k hlt
      clear hc hc'
      go_wp2
      go_quiet (fail)
      go_wp2
      go_roundw
      case rel => exact ⟨k + 1, _, by omega, by go_num, rfl⟩
      case measure => simp [intOf]; omega
    · go_wp2
      go_ret
      exact ⟨rfl, below_draws (Below.refl _ _) n⟩
end Go.Proofs.Ytafdpimkfkddaaa
