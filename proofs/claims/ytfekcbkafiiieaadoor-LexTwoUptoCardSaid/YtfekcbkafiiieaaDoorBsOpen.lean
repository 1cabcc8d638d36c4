/-
  A slice of words, and a slice of ints, that comes in as an argument: what its reading as data says of memory. No condition.
-/
import Derived.Test.YtfekcbkafiiieaaDoorBsMem
import Derived.ProofKit
import Derived.OpenShut
namespace Go.Proofs.YtfekcbkafiiieaaDoor
open Go.ChangeShapes Go.WideShapes Go.ChangeAt Go.RowKit

/-- what an argument's datum looks like -/
def SliceLen {H : Type} (d : DataW H) (n : Nat) : Prop := (d = .nil ∧ n = 0) ∨ ∃ elems spare, d = .slice elems spare ∧ elems.length = n

theorem open_words {H : Type} {enc : TypeId × Value → H} {P : Program} {W : World} {tt te : TypeId} (hts : P.underlying tt = some (.slice te)) (hte : P.underlying te = some (.int .u64)) (hc : P.cellsOf te = 1)
    {a0 : Option Addr} {len cap : Nat} {d : DataW H} {p : List MemPlace} (h : DataW.Trod enc P W 0 (fun _ => true) true tt (.slice a0 len cap) d p) (hlt : ∀ x ∈ p, x.block < W.heap.size) :
    ∃ xs : List Nat, xs.length = len ∧ (∀ k, wd xs k < 18446744073709551616) ∧ Rd W W.heap.size a0 len (fun k => .int .u64 (wd xs k : Int)) ∧ SliceLen d len := by
  obtain ⟨fuel, hf⟩ := h
  rcases open_ints hts hte hc hf with ⟨hcs, hx⟩ | ⟨a, len', cap', zs, hcs, _, hl, hm, hz, hx, hcell, hwz⟩
  · simp [Value.cells] at hcs
    obtain ⟨rfl, rfl, rfl⟩ := hcs
    simp only [Prod.mk.injEq] at hx
    obtain ⟨rfl, rfl⟩ := hx
    exact ⟨[], rfl, fun k => by simp [wd], fun hn => absurd hn (by omega), .inl ⟨rfl, rfl⟩⟩
  · simp [Value.cells] at hcs
    obtain ⟨rfl, rfl, rfl⟩ := hcs
    simp only [Prod.mk.injEq] at hx
    obtain ⟨rfl, rfl⟩ := hx
    simp only [if_true] at hz
    have hb : ∀ k, 0 ≤ zs.getD k 0 ∧ zs.getD k 0 ≤ 18446744073709551615 := fun k => by
      have := range_u64 hwz k
      simpa [List.getD] using this
    have hwd : ∀ k, wd ((zs.take len).map Int.toNat) k = if k < len then (zs.getD k 0).toNat else 0 := fun k => by
      unfold wd
      by_cases hk : k < len
      · simp [List.getD, hk, show k < zs.length by omega]
      · rw [if_neg hk]; simp only [List.getD]; rw [List.getElem?_eq_none (by simp; omega)]; rfl
    refine ⟨(zs.take len).map Int.toNat, by simp; omega, fun k => ?_, fun hn => ?_, .inr ⟨_, _, rfl, by simp [lits]; omega⟩⟩
    · rw [hwd]; split
      · have := hb k; omega
      · omega
    · obtain ⟨b, off, spot⟩ := a
      have hspot : spot = none := by simpa [Addr.add] using World.cell?_spot (hcell 0 (by omega))
      subst hspot
      refine ⟨b, off, rfl, hlt (.cell b off) (MemPlace.mem_row.2 ⟨0, by omega, by simp⟩), fun k hk => ?_⟩
      have h1 := hcell k (by omega)
      rw [add_plain] at h1
      show _ = some (Value.int .u64 (wd ((zs.take len).map Int.toNat) k : Int))
      rw [h1, hwd, if_pos hk]
      have := hb k
      have e : (((zs.getD k 0).toNat : Nat) : Int) = zs.getD k 0 := by omega
      rw [e]

theorem open_nums {H : Type} {enc : TypeId × Value → H} {P : Program} {W : World} {tt te : TypeId} (hts : P.underlying tt = some (.slice te)) (hte : P.underlying te = some (.int .i64)) (hc : P.cellsOf te = 1)
    {a0 : Option Addr} {len cap : Nat} {d : DataW H} {p : List MemPlace} (h : DataW.Trod enc P W 0 (fun _ => true) true tt (.slice a0 len cap) d p) (hlt : ∀ x ∈ p, x.block < W.heap.size) :
    ∃ xs : List Int, xs.length = len ∧ (∀ k, -9223372036854775808 ≤ zd xs k) ∧ (∀ k, zd xs k ≤ 9223372036854775807) ∧ Rd W W.heap.size a0 len (fun k => .int .i64 (zd xs k)) ∧ SliceLen d len := by
  obtain ⟨fuel, hf⟩ := h
  rcases open_ints hts hte hc hf with ⟨hcs, hx⟩ | ⟨a, len', cap', zs, hcs, _, hl, hm, hz, hx, hcell, hwz⟩
  · simp [Value.cells] at hcs
    obtain ⟨rfl, rfl, rfl⟩ := hcs
    simp only [Prod.mk.injEq] at hx
    obtain ⟨rfl, rfl⟩ := hx
    exact ⟨[], rfl, fun k => by simp [zd], fun k => by simp [zd], fun hn => absurd hn (by omega), .inl ⟨rfl, rfl⟩⟩
  · simp [Value.cells] at hcs
    obtain ⟨rfl, rfl, rfl⟩ := hcs
    simp only [Prod.mk.injEq] at hx
    obtain ⟨rfl, rfl⟩ := hx
    simp only [if_true] at hz
    have hwd : ∀ k, zd (zs.take len) k = if k < len then zs.getD k 0 else 0 := fun k => by
      unfold zd
      by_cases hk : k < len
      · simp [List.getD, hk]
      · rw [if_neg hk]; simp only [List.getD]; rw [List.getElem?_eq_none (by simp; omega)]; rfl
    have hb : ∀ k, -9223372036854775808 ≤ zs.getD k 0 ∧ zs.getD k 0 ≤ 9223372036854775807 := fun k => by
      have := range_i64 hwz k
      simpa [List.getD] using this
    refine ⟨zs.take len, by simp; omega, fun k => ?_, fun k => ?_, fun hn => ?_, .inr ⟨_, _, rfl, by simp [lits]; omega⟩⟩
    · rw [hwd]; split
      · exact (hb k).1
      · omega
    · rw [hwd]; split
      · exact (hb k).2
      · omega
    · obtain ⟨b, off, spot⟩ := a
      have hspot : spot = none := by simpa [Addr.add] using World.cell?_spot (hcell 0 (by omega))
      subst hspot
      refine ⟨b, off, rfl, hlt (.cell b off) (MemPlace.mem_row.2 ⟨0, by omega, by simp⟩), fun k hk => ?_⟩
      have h1 := hcell k (by omega)
      rw [add_plain] at h1
      show _ = some (Value.int .i64 (zd (zs.take len) k))
      rw [h1, hwd, if_pos hk]

end Go.Proofs.YtfekcbkafiiieaaDoor
