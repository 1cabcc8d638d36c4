/-
  Contracts of vector.extended, Tick, Join and Within, and of the reference's GWithin. For every slice of at most 2^20 words.
-/
import Derived.Test.YtmnhdboakpaibaaVcA
import Derived.Laws.CopyOwn
import Derived.Deep.OwnRows
import Derived.Deep.RegionLaw
import Derived.Lib.MinMax
import Derived.Shelf.RegionOpenPlain
import Derived.Deep.CutRange
namespace Go.Proofs.Ytmnhdboakpaibaa
open Go.RowKit Go.Shelf
set_option maxRecDepth 100000

theorem rowU {w : World} {g n : Nat} {f : Nat → Nat} (h : w.rowIs g 23 n (fun k => .int .u64 (f k : Int))) (hf : ∀ k, f k < 18446744073709551616) (hn : n ≤ 1152921504606846976) :
    RdU w w.heap.size (some ⟨g, 0, none⟩) ((List.range n).map f) :=
  ⟨fun k => by rw [wd_map]; split; exact hf k; omega, by simpa using hn, fun _ => ⟨g, 0, rfl, h.lt, fun k hk => by
    have hk' : k < n := by simpa using hk
    show _ = some (Value.int .u64 (wd _ k : Int))
    rw [Nat.zero_add, h.cell hk', wd_map, if_pos hk']⟩⟩

theorem splice_row {n : Nat} {xs : List Nat} {cur : List Value} (_hcl : cur.length = n) (hc : ∀ i, i < n → cur[i]? = some (.int .u64 0)) (i : Nat) (hi : i < n) : (splice cur 0 (uVals xs))[i]? = some (.int .u64 (wd xs i : Int)) := by
  unfold splice
  rw [List.take_zero, List.nil_append]
  by_cases hx : i < xs.length
  · rw [List.getElem?_append_left (by rw [uVals_len]; exact hx), uVals_at _ _ hx]
  · rw [List.getElem?_append_right (by rw [uVals_len]; omega), uVals_len, List.getElem?_drop, show 0 + xs.length + (i - xs.length) = i by omega, hc i hi, wd_out _ _ (by omega)]
    rfl

set_option maxHeartbeats 1000000 in
theorem extended_any (A : Option Addr) (c n : Nat) (xs : List Nat) (w : World) (hx : RdU w w.heap.size A xs) (hn : xs.length ≤ n) (hn2 : n ≤ 4194304) :
    Calls Try.prog 18 #[.slice A xs.length c, .int .i64 n] w fun e w' => e = .returned (.slice (some ⟨w.heap.size, 0, none⟩) n n) ∧ w'.rowIs w.heap.size 23 n (fun k => .int .u64 (wd xs k : Int)) ∧ Below w.heap.size w w' := by
  have hmk := run_make_row' (P := Try.prog) 22 23 (.int .u64 0) 8 Try.underlying22 Try.infoU64 rfl .i64 .i64 n (by omega) (by omega)
  have hinf : (Try.prog.info? 23).map (·.size) = some 1 := by kernel_rfl
  have R := World.rowIs_made w (.int .u64 0) n 23
  have hBn := (Below.refl w.heap.size w).alloc (Nat.le_refl _) (.cells (madeCells #[.int .u64 0] n) 23)
  have hx2 := (hx.below hBn)
  have HN := Lib.hid hn
  obtain ⟨w1, hw1⟩ : ∃ w1, w1 = w.alloc (.cells (madeCells #[.int .u64 0] n) 23) := ⟨_, rfl⟩
  obtain ⟨cs, hcs⟩ : ∃ cs, cs = uVals xs := ⟨_, rfl⟩
  have hcl : cs.length = xs.length := by rw [hcs, uVals_len]
  have HCS := Lib.hid hcs
  have hat : ∀ j v, cs[j]? = some v → j < xs.length ∧ v = .int .u64 (wd xs j : Int) := fun j v h => by
    have hj : j < cs.length := by
      false_or_by_contra
      rw [List.getElem?_eq_none (by omega)] at h; cases h
    rw [hcs, uVals_at _ _ (by omega)] at h
    exact ⟨by omega, (Option.some.inj h).symm⟩
  have hone : ∀ v ∈ cs, v.oneCell' = true := fun v hv => by
    obtain ⟨j, hj⟩ := List.getElem?_of_mem hv
    rw [(hat j v hj).2]; rfl
  rw [← hw1] at R hBn hx2
  obtain ⟨cu, hcur, hcul, hcu⟩ := R
  obtain ⟨cur, rfl⟩ : ∃ cur : List Value, cu = cur.toArray := ⟨cu.toList, by simp⟩
  have HCU := Lib.hid hcu
  have HCL := Lib.hid hcul
  have hW1 := Lib.hid hw1
  clear hcs hcu hw1
  go_enter Try.func18, Try.ntmps18
  go_upto_region 2 with fail
  rw [← hW1.out]
  go_wp2_with (with_reducible refine wpList_copy_splice rfl _ _ 22 22 rfl 23 Try.underlying22 hinf (some ⟨w.heap.size, 0, none⟩) A n n xs.length c rfl rfl w.heap.size 0 cur 23 hcur cs ?qc0 ?qc1 ?qc3 ?qc2 w.heap.size w hBn (Nat.le_refl _) ?_)
  case qc1 =>
    intro h
    obtain ⟨b, off, rfl, _, hc⟩ := hx2.rd (by omega)
    exact ⟨⟨b, off, none⟩, rfl, fun j v hj => by
      obtain ⟨h1, h2⟩ := hat j v hj
      rw [h2, Addr.add_lit]
      exact hc j h1⟩
  case qc3 => simp at hcul; omega
  case qc2 => exact hone
  intro w2 hg2 hB2
  go_wp2
  go_ret
  refine ⟨rfl, ⟨_, hg2.out, ?_, fun i hi => ?_⟩, hB2⟩
  · have := HCL.out
    rw [HCS.out]
    simp at this ⊢
    rw [length_splice _ _ _ (by rw [uVals_len]; have := HN.out; omega)]
    exact this
  · have h1 := HCL.out
    have h2 := HCU.out
    simp only [List.getElem?_toArray] at h2 ⊢
    rw [HCS.out]
    exact splice_row (by simpa using h1) h2 i hi
end Go.Proofs.Ytmnhdboakpaibaa
