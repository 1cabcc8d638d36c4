/-
  alive1 answers true, where the library's table holds its own numbers.
-/
import Derived.Test.YtaboafkpmgadmaaDoorBsList
import Derived.Test.YtaboafkpmgadmaaDoorBsOf
import Derived.Test.YtaboafkpmgadmaaDoorBsEqI
namespace Go.Proofs.YtaboafkpmgadmaaDoor
open Go.RowKit
set_option maxRecDepth 100000

theorem ofS_wd (zs : List Int) (k : Nat) : wd (ofS zs) k < 18446744073709551616 := by
  unfold ofS ofL
  rw [wd_map]
  split
  · exact setB_lt _ _
  · omega
theorem ofS_len (zs : List Int) : (ofS zs).length ≤ 1024 := by
  unfold ofS
  rw [ofL_len]
  have := gN_le (alw zs) (alw_lt zs)
  omega
theorem of_any (A : Option Addr) (c : Nat) (zs : List Int) (w : World) (hx : RdI w w.heap.size A zs) :
    Calls Tryd.prog 71 #[.slice A zs.length c] w fun e w' => ∃ A1 c1, e = .returned (.slice A1 (ofS zs).length c1) ∧ RdU w' w'.heap.size A1 (ofS zs) ∧ Below w.heap.size w w' :=
  (callsIn_wide.1 (of_in Fence.wide 3 trivial trivial trivial rfl (Nat.le_refl _) A c zs w hx)).mono fun e w' ⟨v, he, hown, hb⟩ => by
    have hl := ofS_len zs
    obtain ⟨A1, c1, rfl, hr⟩ := own_rdU hown (ofS_wd zs) (by omega)
    exact ⟨A1, c1, he, hr, hb⟩
theorem alist_zd (xs : List Nat) (n k : Nat) : 0 ≤ zd (alist xs n) k ∧ zd (alist xs n) k ≤ n := by
  unfold zd
  by_cases h : k < (alist xs n).length
  · have hm := List.getElem_mem h
    simp only [List.getD, List.getElem?_eq_getElem h, Option.getD_some]
    generalize (alist xs n)[k] = z at hm
    unfold alist at hm
    obtain ⟨j, hj, rfl⟩ := List.mem_map.1 hm
    have := List.mem_range.1 (List.mem_filter.1 hj).1
    omega
  · simp only [List.getD, List.getElem?_eq_none (by omega : (alist xs n).length ≤ k), Option.getD_none]
    omega
theorem list_any (A : Option Addr) (c : Nat) (xs : List Nat) (w : World) (hx : RdU w w.heap.size A xs) (hroom : xs.length ≤ 1048576) (hT : Tab w) :
    Calls Tryd.prog 27 #[.slice A xs.length c] w fun e w' => ∃ A1 c1, e = .returned (.slice A1 (alist xs (64 * xs.length)).length c1) ∧ RdI w' w'.heap.size A1 (alist xs (64 * xs.length)) ∧ Below w.heap.size w w' :=
  (callsIn_wide.1 (list_in 3 (Nat.le_refl _) A c xs w hx hroom hT)).mono fun e w' ⟨v, he, hown, hb⟩ => by
    have hl := alist_le xs (64 * xs.length)
    obtain ⟨A1, c1, rfl, hr⟩ := own_rdI hown (fun k => by have := alist_zd xs (64 * xs.length) k; omega) (fun k => by have := alist_zd xs (64 * xs.length) k; omega) (by omega)
    exact ⟨A1, c1, he, hr, hb⟩

theorem rdI_lit (w : World) (t : TypeId) (zs : List Int) (lo : ∀ k, -9223372036854775808 ≤ zd zs k) (hi : ∀ k, zd zs k ≤ 9223372036854775807) (hl : zs.length ≤ 1152921504606846976) :
    RdI (w.alloc (.cells (iVals zs).toArray t)) (w.alloc (.cells (iVals zs).toArray t)).heap.size (some ⟨w.heap.size, 0, none⟩) zs :=
  ⟨lo, hi, hl, fun _ => ⟨w.heap.size, 0, rfl, by simp, fun k hk => by
    have h := iVals_at zs k hk
    simp only [World.cell?, World.alloc_heap_new, Nat.zero_add]
    simpa using h⟩⟩
theorem zd_lo (zs : List Int) (h : ∀ z ∈ zs, -9223372036854775808 ≤ z ∧ z ≤ 9223372036854775807) (k : Nat) : -9223372036854775808 ≤ zd zs k ∧ zd zs k ≤ 9223372036854775807 := by
  unfold zd
  by_cases hk : k < zs.length
  · simp only [List.getD, List.getElem?_eq_getElem hk, Option.getD_some]
    exact h _ (List.getElem_mem hk)
  · simp only [List.getD, List.getElem?_eq_none (by omega : zs.length ≤ k), Option.getD_none]
    omega
theorem rd_lit (w : World) (t : TypeId) (zs : List Int) (h : ∀ z ∈ zs, -9223372036854775808 ≤ z ∧ z ≤ 9223372036854775807) (hl : zs.length ≤ 1152921504606846976) :
    RdI (w.alloc (.cells (iVals zs).toArray t)) (w.alloc (.cells (iVals zs).toArray t)).heap.size (some ⟨w.heap.size, 0, none⟩) zs :=
  rdI_lit w t zs (fun k => (zd_lo zs h k).1) (fun k => (zd_lo zs h k).2) hl
theorem below_alloc (w : World) (o : Obj) : Below w.heap.size w (w.alloc o) := (Below.refl _ w).alloc (Nat.le_refl _) _

end Go.Proofs.YtaboafkpmgadmaaDoor
