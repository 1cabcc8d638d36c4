/-
  Words for memory that hold sets: a slice that reads as a list of 64-bit words or of ints. Plain definitions and lemmas; no condition.
-/
import Derived.WalkKit
import Derived.Deep.QuietTactic
namespace Go.Proofs.YtfekcbkafiiieaaDoor
open Go.RowKit

/-- element k of a list of words, 0 beyond it -/
def wd (xs : List Nat) (k : Nat) : Nat := xs.getD k 0

/-- element k of a list of ints, 0 beyond it -/
def zd (zs : List Int) (k : Nat) : Int := zs.getD k 0

/-- the first n places from A on hold f; they lie below block B -/
def Rd (w : World) (B : Nat) (A : Option Addr) (n : Nat) (f : Nat → Value) : Prop :=
  0 < n → ∃ b off, A = some ⟨b, off, none⟩ ∧ b < B ∧ ∀ k, k < n → w.cell? ⟨b, off + k, none⟩ = some (f k)

/-- a slice of words -/
structure RdU (w : World) (B : Nat) (A : Option Addr) (xs : List Nat) : Prop where
  lt : ∀ k, wd xs k < 18446744073709551616
  room : xs.length ≤ 1152921504606846976
  rd : Rd w B A xs.length (fun k => .int .u64 (wd xs k : Int))

/-- a slice of ints -/
structure RdI (w : World) (B : Nat) (A : Option Addr) (zs : List Int) : Prop where
  lo : ∀ k, -9223372036854775808 ≤ zd zs k
  hi : ∀ k, zd zs k ≤ 9223372036854775807
  room : zs.length ≤ 1152921504606846976
  rd : Rd w B A zs.length (fun k => .int .i64 (zd zs k))

theorem Rd.keep {w w' : World} {B n : Nat} {A : Option Addr} {f : Nat → Value} (h : Rd w B A n f) (hk : ∀ b o, b < B → w'.cell? ⟨b, o, none⟩ = w.cell? ⟨b, o, none⟩) : Rd w' B A n f := fun hn => by
  obtain ⟨b, off, hA, hb, hc⟩ := h hn
  exact ⟨b, off, hA, hb, fun k hk' => (hk b _ hb).trans (hc k hk')⟩
theorem Rd.more {w : World} {B B' n : Nat} {A : Option Addr} {f : Nat → Value} (h : Rd w B A n f) (hB : B ≤ B') : Rd w B' A n f := fun hn => by
  obtain ⟨b, off, hA, hb, hc⟩ := h hn
  exact ⟨b, off, hA, by omega, hc⟩
theorem Rd.below {w w' : World} {B n : Nat} {A : Option Addr} {f : Nat → Value} (h : Rd w B A n f) (hb : Below B w w') : Rd w' B A n f :=
  h.keep fun b o hlt => hb.cell (p := ⟨b, o, none⟩) hlt
theorem RdU.below {w w' : World} {B : Nat} {A : Option Addr} {xs : List Nat} (h : RdU w B A xs) (hb : Below B w w') : RdU w' B A xs := ⟨h.lt, h.room, h.rd.below hb⟩
theorem RdU.more {w : World} {B B' : Nat} {A : Option Addr} {xs : List Nat} (h : RdU w B A xs) (hB : B ≤ B') : RdU w B' A xs := ⟨h.lt, h.room, h.rd.more hB⟩
theorem RdI.below {w w' : World} {B : Nat} {A : Option Addr} {xs : List Int} (h : RdI w B A xs) (hb : Below B w w') : RdI w' B A xs := ⟨h.lo, h.hi, h.room, h.rd.below hb⟩
theorem RdI.more {w : World} {B B' : Nat} {A : Option Addr} {xs : List Int} (h : RdI w B A xs) (hB : B ≤ B') : RdI w B' A xs := ⟨h.lo, h.hi, h.room, h.rd.more hB⟩
theorem RdU.drewN {w : World} {B : Nat} {A : Option Addr} {xs : List Nat} (h : RdU w B A xs) (n : Nat) : RdU (w.drewN n) B A xs := ⟨h.lt, h.room, h.rd⟩
theorem RdI.drewN {w : World} {B : Nat} {A : Option Addr} {xs : List Int} (h : RdI w B A xs) (n : Nat) : RdI (w.drewN n) B A xs := ⟨h.lo, h.hi, h.room, h.rd⟩
theorem RdU.keep {w w' : World} {B : Nat} {A : Option Addr} {xs : List Nat} (h : RdU w B A xs) (hk : ∀ b o, b < B → w'.cell? ⟨b, o, none⟩ = w.cell? ⟨b, o, none⟩) : RdU w' B A xs := ⟨h.lt, h.room, h.rd.keep hk⟩
theorem RdI.keep {w w' : World} {B : Nat} {A : Option Addr} {xs : List Int} (h : RdI w B A xs) (hk : ∀ b o, b < B → w'.cell? ⟨b, o, none⟩ = w.cell? ⟨b, o, none⟩) : RdI w' B A xs := ⟨h.lo, h.hi, h.room, h.rd.keep hk⟩

theorem zd_out (zs : List Int) (k : Nat) (h : zs.length ≤ k) : zd zs k = 0 := by
  unfold zd; simp [List.getD, h]
theorem wd_out (xs : List Nat) (k : Nat) (h : xs.length ≤ k) : wd xs k = 0 := by
  unfold wd; simp [List.getD, h]

/-- words, ints as values -/
def uVals (xs : List Nat) : List Value := xs.map fun (x : Nat) => Value.int .u64 (x : Int)
def iVals (zs : List Int) : List Value := zs.map fun (z : Int) => Value.int .i64 z
theorem uVals_at (xs : List Nat) (k : Nat) (h : k < xs.length) : (uVals xs)[k]? = some (.int .u64 (wd xs k : Int)) := by
  unfold uVals wd; simp [h, List.getD]
theorem iVals_at (zs : List Int) (k : Nat) (h : k < zs.length) : (iVals zs)[k]? = some (.int .i64 (zd zs k)) := by
  unfold iVals zd; simp [h, List.getD]
theorem uVals_len (xs : List Nat) : (uVals xs).length = xs.length := by simp [uVals]
theorem iVals_len (zs : List Int) : (iVals zs).length = zs.length := by simp [iVals]
theorem uVals_snoc (xs : List Nat) (x : Nat) : uVals xs ++ [.int .u64 (x : Int)] = uVals (xs ++ [x]) := by simp [uVals]
theorem iVals_snoc (zs : List Int) (z : Int) : iVals zs ++ [.int .i64 z] = iVals (zs ++ [z]) := by simp [iVals]

/-- what an owned row looks like -/
theorem own_shape {w : World} {base n : Nat} {e : TypeId} {v : Value} {xs : List Value} (h : w.ownsRow base e 1 v n xs) (hn : 0 < n) :
    ∃ g cap, v = .slice (some ⟨g, 0, none⟩) n cap ∧ base ≤ g ∧ g < w.heap.size := by
  rcases h.2 with ⟨_, h0⟩ | ⟨g, cap, cur, hv, hb, hg, _⟩
  · omega
  · refine ⟨g, cap, hv, hb, ?_⟩
    rcases Nat.lt_or_ge g w.heap.size with hlt | hge
    · exact hlt
    · rw [Array.getElem?_eq_none hge] at hg; cases hg
theorem own_any {w : World} {base n : Nat} {e : TypeId} {v : Value} {xs : List Value} (h : w.ownsRow base e 1 v n xs) : ∃ A cap, v = .slice A n cap := by
  rcases h.2 with ⟨rfl, rfl⟩ | ⟨g, cap, cur, hv, _⟩
  · exact ⟨_, _, rfl⟩
  · exact ⟨_, _, hv⟩
theorem own_rd {w : World} {base n c : Nat} {e : TypeId} {A : Option Addr} {xs : List Value} {f : Nat → Value} (h : w.ownsRow base e 1 (.slice A n c) n xs) (hf : ∀ k, k < n → xs[k]? = some (f k)) : Rd w w.heap.size A n f := fun hn => by
  obtain ⟨g, cap, hv, _, hg⟩ := own_shape h hn
  injection hv with hA _ hc
  subst hA
  subst hc
  refine ⟨g, 0, rfl, hg, fun k hk => ?_⟩
  rw [Nat.zero_add, h.cellAt k (by omega)]
  exact hf k hk
theorem own_rdU {w : World} {base : Nat} {e : TypeId} {v : Value} {xs : List Nat} (h : w.ownsRow base e 1 v xs.length (uVals xs)) (hlt : ∀ k, wd xs k < 18446744073709551616) (hroom : xs.length ≤ 1152921504606846976) :
    ∃ A c, v = .slice A xs.length c ∧ RdU w w.heap.size A xs := by
  obtain ⟨A, c, rfl⟩ := own_any h
  exact ⟨A, c, rfl, hlt, hroom, own_rd h fun k hk => uVals_at xs k hk⟩
theorem own_rdI {w : World} {base : Nat} {e : TypeId} {v : Value} {zs : List Int} (h : w.ownsRow base e 1 v zs.length (iVals zs)) (hlo : ∀ k, -9223372036854775808 ≤ zd zs k) (hhi : ∀ k, zd zs k ≤ 9223372036854775807) (hroom : zs.length ≤ 1152921504606846976) :
    ∃ A c, v = .slice A zs.length c ∧ RdI w w.heap.size A zs := by
  obtain ⟨A, c, rfl⟩ := own_any h
  exact ⟨A, c, rfl, hlo, hhi, hroom, own_rd h fun k hk => iVals_at zs k hk⟩

theorem own_base {w : World} {base n size : Nat} {e : TypeId} {v : Value} {xs : List Value} (h : w.ownsRow base e size v n xs) : ∀ k, v.ownBlock = some k → base ≤ k := by
  intro k hk
  rcases h.2 with ⟨rfl, _⟩ | ⟨g, cap, cur, rfl, hb, _⟩
  · simp [Value.ownBlock] at hk
  · have : g = k := by simpa [Value.ownBlock] using hk
    omega
/-- append of one element: what stays below -/
theorem below_app {W wr w1 : World} {base n : Nat} {e : TypeId} {v : Value} {xs : List Value} (hB : Below base W wr) (hs : base ≤ wr.heap.size) (h : wr.ownsRow base e 1 v n xs) {o : Obj} (hg : (wr.alloc o).grownBy w1 v.ownBlock) : Below base W w1 :=
  (hB.alloc hs o).grown hg (by simp; omega) (own_base h)

end Go.Proofs.YtfekcbkafiiieaaDoor
