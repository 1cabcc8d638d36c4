/-
  The program's Join: a builder, a loop.
-/
import Derived.Test.YtfekcbkafiiieaaDoorLxBu
namespace Go.Proofs.YtfekcbkafiiieaaDoor
open Go.RowKit
set_option maxRecDepth 100000

theorem joinS_zero {ts : List RTk} (h : 0 < ts.length) : joinS (ts.take 1) = (rtk ts 0).2.2.data.toList := by
  unfold joinS
  rw [joinA_take h]
  simp [joinA]
theorem joinS_more {ts : List RTk} {k : Nat} (h : k < ts.length) (hk : 0 < k) : joinS (ts.take (k + 1)) = (joinS (ts.take k) ++ [32]) ++ (rtk ts k).2.2.data.toList := by
  unfold joinS
  rw [joinA_take h]
  have hne : 1 ≤ (joinA (ts.take k)).length := by
    cases ts with
    | nil => simp at h
    | cons t r =>
      obtain ⟨j, rfl⟩ : ∃ j, k = j + 1 := ⟨k - 1, by omega⟩
      simp [joinA]
  rw [List.drop_append_of_le_length hne, List.append_assoc]
  rfl
theorem joinS_len {ts : List RTk} (k : Nat) : (joinS (ts.take k)).length ≤ (joinA ts).length := by
  have := joinA_len (ts := ts) k
  unfold joinS
  rw [List.length_drop]
  omega
theorem bld_new (w : World) : Bld w.heap.size w.heap.size [] (w.alloc (.cells #[.pointer none, .slice none 0 0] 43)) :=
  .inl ⟨Nat.le_refl _, _, World.alloc_heap_new w _, World.ownsRowF_nil _ _ _ _, by simp [Value.ownBlock]⟩
theorem bld_lt {B b : Nat} {l : List UInt8} {W : World} (h : Bld B b l W) : b < W.heap.size := by
  rcases h with h | h
  · exact h.lt
  · exact h.lt
theorem oth_tk {b E : Nat} {W W' : World} {K p : Int} {s : ByteArray} (ho : Oth b W W') (h : TkB E K p s W) (hE : E ≠ b) : TkB E K p s W' :=
  ho E _ h (fun e => hE (Option.some.inj e)) (fun c fz e => by
    injection e with _ e2 _
    exact absurd e2 (by decide))

set_option maxHeartbeats 4000000 in
theorem ljoin_any (A : Option Addr) (c : Nat) (ts : List RTk) (w : World) (hr : RdT w w.heap.size A ts) (hs : (joinA ts).length ≤ 140737488355327) (hl : ts.length ≤ 1073741824) :
    Calls Tryd.prog 11 #[.slice A ts.length c] w fun e w' => e = .returned (.string (bts (joinS ts))) ∧ Below w.heap.size w w' := by
  have hb1 := below_allocJ w (.cells #[.pointer none, .slice none 0 0] 43)
  have hB1 := bld_new w
  obtain ⟨b, hb⟩ : ∃ b, b = w.heap.size := ⟨_, rfl⟩
  obtain ⟨w1, hw1⟩ : ∃ w1, w1 = w.alloc (.cells #[.pointer none, .slice none 0 0] 43) := ⟨_, rfl⟩
  rw [← hw1] at hb1 hB1
  rw [← hb] at hB1
  have HW := Lib.hid hw1
  have HB := Lib.hid hb
  clear hw1 hb
  go_enter Tryd.func11, Tryd.ntmps11
  go_upto_region 2 with fail
  rw [← HW.out, ← HB.out]
  go_wp2_with fail
  go_loopw [4, 5, 8] (fun _ _ v8 wr => ∃ k : Nat, k ≤ ts.length ∧ v8 = .int .i64 (k : Int) ∧ Bld b b (joinS (ts.take k)) wr ∧ Below w.heap.size w wr) (fun _ _ v _ => ts.length - (intOf v).toNat)
  case atStart => exact ⟨0, Nat.zero_le _, rfl, hB1, hb1⟩
  case round =>
    obtain ⟨k, hk, rfl, hbl, hb⟩ := hrel
    by_cases hlt : k < ts.length
    · obtain ⟨ab, off, rfl, hbl2, hc⟩ := hr.rd (by omega)
      obtain ⟨q0, q1, q2⟩ := hc k hlt
      replace q0 := (hb.cell (p := ⟨ab, off + k * 3, none⟩) hbl2).trans q0
      replace q1 := (hb.cell (p := ⟨ab, off + k * 3 + 1, none⟩) hbl2).trans q1
      replace q2 := (hb.cell (p := ⟨ab, off + k * 3 + 2, none⟩) hbl2).trans q2
      have hJ0 := joinS_zero (ts := ts) (by omega)
      have hJm : 0 < k → _ := joinS_more (ts := ts) hlt
      have hlen := joinS_len (ts := ts) (k + 1)
      have hlen0 := joinS_len (ts := ts) k
      obtain ⟨⟨K, P, S⟩, hT⟩ : ∃ T, T = rtk ts k := ⟨_, rfl⟩
      rw [← hT] at q0 q1 q2 hJm
      dsimp only at q0 q1 q2 hJm
      have hal := below_allocJ wr (.cells #[.int .i64 K, .int .i64 P, .string S] 28)
      have ht2 := TkB.new wr K P S
      have hbl3 : Bld b b (joinS (ts.take k)) (wr.alloc (.cells #[.int .i64 K, .int .i64 P, .string S] 28)) := Lib.IsBuilderF.alloc hbl _
      have hEb : wr.heap.size ≠ b := by have := bld_lt hbl; omega
      have hB2 := hb.trans (hal.mono hb.size)
      obtain ⟨E, hE⟩ : ∃ E, E = wr.heap.size := ⟨_, rfl⟩
      obtain ⟨w2, hw2⟩ : ∃ w2, w2 = wr.alloc (.cells #[.int .i64 K, .int .i64 P, .string S] 28) := ⟨_, rfl⟩
      rw [← hw2] at hbl3 ht2 hB2
      rw [← hE] at ht2 hEb
      have HW2 := Lib.hid hw2
      have HE := Lib.hid hE
      have HT2 := Lib.hid ht2
      have HBL3 := Lib.hid hbl3
      have HB2 := Lib.hid hB2
      have hbs : b ≤ w2.heap.size := by have := HB2.out.size; have := HB.out; omega
      obtain ⟨e0, e1, e2⟩ := ht2.cells
      by_cases hk0 : k = 0
      · have hS : joinS (ts.take (k + 1)) = [] ++ S.data.toList := by
          rw [hk0] at hT ⊢
          rw [hJ0, ← hT]
          rfl
        have hl0 : joinS (ts.take k) = [] := by rw [hk0]; rfl
        have hkn : ¬ 0 < k := by omega
        have HK0 := Lib.hid hk0
        rw [hl0] at hbl3
        have hlS : ([] : List UInt8).length + S.size ≤ 140737488355328 := by
          rw [hS] at hlen
          simp at hlen ⊢
          omega
        have A1 := Lib.hid (wstr_any b b [] S w2 hbl3 hlS hbs)
        rw [← hS] at A1
        clear hk0 hc hJ0 hJm hlen hlen0 hT hal ht2 hbl3 hB2 hw2 hE hbl hb e0 e1 hS hl0 hlS
        go_upto_region 5 with fail
        rw [← HW2.out, ← HE.out]
        clear q0 q1 q2
        go_wp2_with fail
        refine A1.out.mono ?_
        rintro e w4 ⟨rfl, h4, hb4, _⟩
        have HF := Lib.hid (And.intro h4 (HB2.out.trans (hb4.mono (Nat.le_of_eq HB.out.symm))))
        clear h4 hb4 e2
        go_wp2_with fail
        go_roundw
        case rel => exact ⟨k + 1, by omega, by go_num, HF.out.1, HF.out.2⟩
        case measure => simp [intOf]; omega
      · have hkp : 0 < k := by omega
        have hS := hJm hkp
        have hl1 : (joinS (ts.take k)).length + 1 ≤ 140737488355328 := by omega
        have A1 := Lib.hid (wbyte_any b b (joinS (ts.take k)) 32 w2 hbl3 hl1 hbs)
        have hlS : (joinS (ts.take k) ++ [32]).length + S.size ≤ 140737488355328 := by
          rw [hS, List.length_append] at hlen
          have : S.data.toList.length = S.size := by simp
          omega
        have A2 : Hid (∀ W, Bld b b (joinS (ts.take k) ++ [32]) W → b ≤ W.heap.size → Calls Tryd.prog 21 #[.pointer (some ⟨b, 0, none⟩), .string S] W fun e w' => e = .returned (.tuple #[.int .i64 (S.size : Int), .nilIface]) ∧ Bld b b (joinS (ts.take (k + 1))) w' ∧ Below b W w' ∧ Oth b W w') := Lib.hid fun W hW hbW => by
          rw [hS]
          exact wstr_any b b _ S W hW hlS hbW
        clear hc hJ0 hJm hlen hlen0 hT hal ht2 hbl3 hB2 hw2 hE hbl hb e0 e1 e2 hS hl1 hlS
        go_upto_region 5 with fail
        rw [← HW2.out, ← HE.out]
        clear q0 q1 q2
        go_wp2_with fail
        refine A1.out.mono ?_
        rintro e w3 ⟨rfl, h3, hb3, ho3⟩
        have HB3 := Lib.hid (HB2.out.trans (hb3.mono (Nat.le_of_eq HB.out.symm)))
        obtain ⟨e0, e1, e2⟩ := (oth_tk ho3 HT2.out hEb).cells
        have A3 := Lib.hid (A2.out w3 h3 (Nat.le_trans hbs hb3.size))
        clear h3 hb3 ho3 e0 e1
        go_wp2_with fail
        refine A3.out.mono ?_
        rintro e w4 ⟨rfl, h4, hb4, _⟩
        have HF := Lib.hid (And.intro h4 (HB3.out.trans (hb4.mono (Nat.le_of_eq HB.out.symm))))
        clear h4 hb4 e2
        go_wp2_with fail
        go_roundw
        case rel => exact ⟨k + 1, by omega, by go_num, HF.out.1, HF.out.2⟩
        case measure => simp [intOf]; omega
    · obtain rfl : k = ts.length := by omega
      rw [List.take_length] at hbl
      have A1 := Lib.hid (Tryd.Builder_String_any_k b b (joinS ts) wr hbl (Nat.le_of_lt (bld_lt hbl)))
      have HF := Lib.hid hb
      clear hbl hb
      go_wp2_with fail
      refine A1.out.mono ?_
      rintro e w4 ⟨rfl, _, hb4, _⟩
      have HG := Lib.hid (HF.out.trans (hb4.mono (Nat.le_of_eq HB.out.symm)))
      clear hb4
      go_wp2_with fail
      go_ret
      exact ⟨rfl, HG.out⟩
end Go.Proofs.YtfekcbkafiiieaaDoor
