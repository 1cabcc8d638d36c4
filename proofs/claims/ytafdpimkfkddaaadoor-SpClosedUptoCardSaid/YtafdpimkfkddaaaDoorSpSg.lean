/-
  SameGraph on the same graph.
-/
import Derived.Test.YtafdpimkfkddaaaDoorSpEd
import Derived.Deep.QuietTactic
import Derived.BigQuiet
namespace Go.Proofs.YtafdpimkfkddaaaDoor
open Go.RowKit
set_option maxRecDepth 100000

def edAt (l : List (Int × Int)) (k : Nat) : Int × Int := l.getD k (0, 0)
theorem edV_len (l : List (Int × Int)) : (edV l).length = l.length * 2 := by
  induction l with
  | nil => rfl
  | cons a l ih => simp only [edV, List.flatMap_cons, List.length_append, List.length_cons, List.length_nil] at ih ⊢; omega
theorem edV_at (l : List (Int × Int)) (k : Nat) (hk : k < l.length) : (edV l)[k * 2]? = some (.int .i64 (edAt l k).1) ∧ (edV l)[k * 2 + 1]? = some (.int .i64 (edAt l k).2) := by
  induction l generalizing k with
  | nil => simp at hk
  | cons a l ih =>
    cases k with
    | zero => exact ⟨rfl, rfl⟩
    | succ k =>
      have h := ih k (by simpa using hk)
      have e1 : (k + 1) * 2 = k * 2 + 1 + 1 := by omega
      rw [e1]
      exact h
/-- a slice of edges -/
structure RdEg (w : World) (B : Nat) (A : Option Addr) (l : List (Int × Int)) : Prop where
  room : l.length ≤ 1099511627776
  rd : 0 < l.length → ∃ b off, A = some ⟨b, off, none⟩ ∧ b < B ∧ ∀ k, k < l.length → w.cell? ⟨b, off + k * 2, none⟩ = some (.int .i64 (edAt l k).1) ∧ w.cell? ⟨b, off + k * 2 + 1, none⟩ = some (.int .i64 (edAt l k).2)
theorem own_rdEg {w : World} {base c : Nat} {e : TypeId} {A : Option Addr} {l : List (Int × Int)} (h : w.ownsRow base e 2 (.slice A l.length c) l.length (edV l)) (hr : l.length ≤ 1099511627776) : RdEg w w.heap.size A l := by
  refine ⟨hr, fun hn => ?_⟩
  rcases h.2 with ⟨_, h0⟩ | ⟨g, cap, cur, hv, hb, hg, _⟩
  · omega
  · injection hv with hA _ hc
    subst hA
    subst hc
    refine ⟨g, 0, rfl, (Array.getElem?_eq_some_iff.1 hg).1, fun k hk => ?_⟩
    rw [Nat.zero_add, h.cellAt (k * 2) (by omega), h.cellAt (k * 2 + 1) (by omega)]
    exact edV_at l k hk
theorem RdEg.below {w w' : World} {B : Nat} {A : Option Addr} {l : List (Int × Int)} (h : RdEg w B A l) (hb : Below B w w') : RdEg w' B A l :=
  ⟨h.room, fun hn => by
    obtain ⟨b, off, h1, h2, h3⟩ := h.rd hn
    exact ⟨b, off, h1, h2, fun k hk => ⟨(hb.cell (p := ⟨b, off + k * 2, none⟩) h2).trans (h3 k hk).1, (hb.cell (p := ⟨b, off + k * 2 + 1, none⟩) h2).trans (h3 k hk).2⟩⟩⟩
theorem RdEg.more {w : World} {B B' : Nat} {A : Option Addr} {l : List (Int × Int)} (h : RdEg w B A l) (hb : B ≤ B') : RdEg w B' A l :=
  ⟨h.room, fun hn => by
    obtain ⟨b, off, h1, h2, h3⟩ := h.rd hn
    exact ⟨b, off, h1, by omega, h3⟩⟩
theorem below_draws' {B : Nat} {a w : World} (h : Below B a w) : ∀ n, Below B a (w.drewN n)
  | 0 => h
  | n + 1 => (below_draws' h n).drew

set_option maxHeartbeats 1000000 in
theorem equalEg_same (A A' : Option Addr) (c c' : Nat) (es : List (Int × Int)) (w : World) (hx : RdEg w w.heap.size A es) (hy : RdEg w w.heap.size A' es) :
    Calls Tryd.prog 19 #[.slice A es.length c, .slice A' es.length c'] w fun e w' => e = .returned (.bool true) ∧ Below w.heap.size w w' := by
  have hr := hx.room
  have hl : ((es.length : Int) != (es.length : Int)) = false := by simp
  go_enter Tryd.func19, Tryd.ntmps19
  go_wp2
  go_loopw [13] (fun i wr => ∃ k n : Nat, k ≤ es.length ∧ i = .int .i64 k ∧ wr = w.drewN n) (fun i _ => es.length - (intOf i).toNat)
  case atStart => exact ⟨0, 0, Nat.zero_le _, rfl, rfl⟩
  case round =>
    obtain ⟨k, n, hk, rfl, rfl⟩ := hrel
    by_cases hlt : k < es.length
    · obtain ⟨b, off, rfl, _, hc⟩ := hx.rd (by omega)
      obtain ⟨b', off', rfl, _, hc'⟩ := hy.rd (by omega)
      obtain ⟨ha1, ha2⟩ := hc k hlt
      obtain ⟨hb1, hb2⟩ := hc' k hlt
      clear hc hc'
      go_wp2
      go_quiet (fail)
      go_wp2
      go_roundw
      case rel => exact ⟨k + 1, _, by omega, by go_num, rfl⟩
      case measure => simp [intOf]; omega
    · go_wp2
      go_ret
      exact ⟨rfl, below_draws' (Below.refl _ _) n⟩

theorem sameGraph_same (N : Int) (A A' : Option Addr) (c c' : Nat) (es : List (Int × Int)) (w : World) (hx : RdEg w w.heap.size A es) (hy : RdEg w w.heap.size A' es) :
    Calls Tryd.prog 8 #[.agg #[.int .i64 N, .slice A es.length c], .agg #[.int .i64 N, .slice A' es.length c']] w fun e w' => e = .returned (.bool true) ∧ Below w.heap.size w w' := by
  have hb : ∀ o1 o2 : Obj, Below w.heap.size w ((w.alloc o1).alloc o2) := fun o1 o2 => ((Below.refl _ _).alloc (Nat.le_refl _) o1).alloc (by simp) o2
  have HE := Lib.hid (fun o1 o2 => equalEg_same A A' c c' es ((w.alloc o1).alloc o2) ((hx.below (hb o1 o2)).more (hb o1 o2).size) ((hy.below (hb o1 o2)).more (hb o1 o2).size))
  have HB := Lib.hid hb
  obtain ⟨n, hn⟩ : ∃ n, n = es.length := ⟨_, rfl⟩
  rw [← hn] at HE ⊢
  clear hb hx hy hn
  go_enter Tryd.func8, Tryd.ntmps8
  go_wp2_with (first
    | (go_at_call 19; refine (HE.out _ _).mono ?_; rintro e w2 ⟨rfl, hb2⟩)
    | fail)
  go_ret
  exact ⟨rfl, (HB.out _ _).trans (hb2.mono (HB.out _ _).size)⟩
end Go.Proofs.YtafdpimkfkddaaaDoor
