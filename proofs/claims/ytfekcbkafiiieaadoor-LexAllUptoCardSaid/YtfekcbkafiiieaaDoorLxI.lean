/-
  Contract of the reference's JJoin: tokens that lie in memory, joined.
-/
import Derived.Test.YtfekcbkafiiieaaDoorLxJ
import Derived.Test.YtfekcbkafiiieaaDoorBsOpen
import Derived.Lib.Hide
namespace Go.Proofs.YtfekcbkafiiieaaDoor
open Go.RowKit
set_option maxRecDepth 100000

/-- a token of memory: two ints and a text -/
abbrev RTk := Int × Int × ByteArray
def rtk (ts : List RTk) (k : Nat) : RTk := ts.getD k (0, 0, ByteArray.empty)
/-- a slice of tokens -/
structure RdT (w : World) (B : Nat) (A : Option Addr) (ts : List RTk) : Prop where
  room : ts.length ≤ 1099511627776
  rd : 0 < ts.length → ∃ b off, A = some ⟨b, off, none⟩ ∧ b < B ∧ ∀ k, k < ts.length → w.cell? ⟨b, off + k * 3, none⟩ = some (.int .i64 (rtk ts k).1) ∧ w.cell? ⟨b, off + k * 3 + 1, none⟩ = some (.int .i64 (rtk ts k).2.1) ∧ w.cell? ⟨b, off + k * 3 + 2, none⟩ = some (.string (rtk ts k).2.2)
theorem RdT.below {w w' : World} {B : Nat} {A : Option Addr} {ts : List RTk} (h : RdT w B A ts) (hb : Below B w w') : RdT w' B A ts :=
  ⟨h.room, fun hn => by
    obtain ⟨b, off, hA, hbl, hc⟩ := h.rd hn
    exact ⟨b, off, hA, hbl, fun k hk => ⟨(hb.cell (p := ⟨b, off + k * 3, none⟩) hbl).trans (hc k hk).1, (hb.cell (p := ⟨b, off + k * 3 + 1, none⟩) hbl).trans (hc k hk).2.1, (hb.cell (p := ⟨b, off + k * 3 + 2, none⟩) hbl).trans (hc k hk).2.2⟩⟩⟩
theorem RdT.more {w : World} {B B' : Nat} {A : Option Addr} {ts : List RTk} (h : RdT w B A ts) (hB : B ≤ B') : RdT w B' A ts :=
  ⟨h.room, fun hn => by
    obtain ⟨b, off, hA, hbl, hc⟩ := h.rd hn
    exact ⟨b, off, hA, by omega, hc⟩⟩
theorem RdT.step {w w' : World} {A : Option Addr} {ts : List RTk} (h : RdT w w.heap.size A ts) (hb : Below w.heap.size w w') : RdT w' w'.heap.size A ts := (h.below hb).more hb.size
theorem RdT.nil (w : World) : RdT w w.heap.size none [] := ⟨by simp, fun h => absurd h (by simp)⟩
/-- each text with a blank ahead -/
def joinA (ts : List RTk) : List UInt8 := ts.flatMap fun t => 32 :: t.2.2.data.toList
/-- the texts joined -/
def joinS (ts : List RTk) : List UInt8 := (joinA ts).drop 1
theorem joinA_take {ts : List RTk} {k : Nat} (h : k < ts.length) : joinA (ts.take (k + 1)) = joinA (ts.take k) ++ (32 :: (rtk ts k).2.2.data.toList) := by
  rw [List.take_succ_eq_append_getElem h]
  unfold joinA rtk
  rw [List.flatMap_append]
  simp [List.getD, h]
theorem joinA_len {ts : List RTk} (k : Nat) : (joinA (ts.take k)).length ≤ (joinA ts).length := by
  have e : joinA ts = joinA (ts.take k) ++ joinA (ts.drop k) := by
    unfold joinA
    rw [← List.flatMap_append, List.take_append_drop]
  rw [e, List.length_append]
  omega
theorem sum_add (a b : ByteArray) (h : a.size + b.size ≤ 9223372036854775807) (W : World) : (Op.stringOp .add a b).run Tryd.prog W = .ok (.string (a ++ b)) W := run_string_add_sum W a b h

set_option maxHeartbeats 4000000 in
theorem jjoin_any (A : Option Addr) (c : Nat) (ts : List RTk) (w : World) (hr : RdT w w.heap.size A ts) (hs : (joinA ts).length ≤ 4611686018427387903) (hl : ts.length ≤ 1073741824) :
    Calls Tryd.prog 12 #[.slice A ts.length c] w fun e w' => e = .returned (.string (bts (joinS ts))) ∧ Below w.heap.size w w' := by
  go_enter Tryd.func12, Tryd.ntmps12
  go_wp2_with fail
  obtain ⟨wo, rfl⟩ : ∃ wo : World, wo = w := ⟨_, rfl⟩
  go_loopw [3, 5, 8] (fun v3 _ v8 wr => ∃ k : Nat, k ≤ ts.length ∧ v8 = .int .i64 (k : Int) ∧ v3 = .string (bts (joinA (ts.take k))) ∧ Below wo.heap.size wo wr) (fun _ _ v _ => ts.length - (intOf v).toNat)
  case atStart => exact ⟨0, Nat.zero_le _, rfl, rfl, Below.refl _ _⟩
  case round =>
    obtain ⟨k, hk, rfl, rfl, hb⟩ := hrel
    by_cases hlt : k < ts.length
    · obtain ⟨b, off, rfl, hbl, hc⟩ := hr.rd (by omega)
      obtain ⟨q0, q1, q2⟩ := hc k hlt
      replace q0 := (hb.cell (p := ⟨b, off + k * 3, none⟩) hbl).trans q0
      replace q1 := (hb.cell (p := ⟨b, off + k * 3 + 1, none⟩) hbl).trans q1
      replace q2 := (hb.cell (p := ⟨b, off + k * 3 + 2, none⟩) hbl).trans q2
      have HJ := Lib.hid (joinA_take hlt)
      have hlen := joinA_len (ts := ts) (k + 1)
      rw [HJ.out, List.length_append] at hlen
      obtain ⟨⟨K, P, S⟩, hT⟩ : ∃ T, T = rtk ts k := ⟨_, rfl⟩
      rw [← hT] at q0 q1 q2 HJ hlen
      dsimp only at q0 q1 q2 HJ hlen
      obtain ⟨L, hL⟩ : ∃ L, L = joinA (ts.take k) := ⟨_, rfl⟩
      rw [← hL] at HJ hlen ⊢
      have hS : S = bts S.data.toList := bts_of rfl
      have ha1 : ∀ W, (Op.stringOp .add (ByteArray.mk #[32]) S).run Tryd.prog W = .ok (.string (bts (32 :: S.data.toList))) W := fun W => by
        rw [sum_add _ _ (by
          have e1 : (ByteArray.mk #[32]).size = 1 := rfl
          have e2 : S.size = S.data.toList.length := by simp
          rw [e1, e2]
          simp at hlen ⊢
          omega) W, show (ByteArray.mk #[32]) ++ S = bts (32 :: S.data.toList) by
          have := bts_app [32] S.data.toList
          rw [← hS] at this
          exact this]
      have ha2 : ∀ W, (Op.stringOp .add (bts L) (bts (32 :: S.data.toList))).run Tryd.prog W = .ok (.string (bts (joinA (ts.take (k + 1))))) W := fun W => by
        rw [sum_add _ _ (by rw [bts_size, bts_size]; omega) W, bts_app, HJ.out]
      obtain ⟨L2, hL2⟩ : ∃ L2, L2 = joinA (ts.take (k + 1)) := ⟨_, rfl⟩
      have HL2 := Lib.hid hL2
      rw [← hL2] at ha2
      obtain ⟨S2, hS2⟩ : ∃ S2, S2 = bts (32 :: S.data.toList) := ⟨_, rfl⟩
      rw [← hS2] at ha1 ha2
      have HB := Lib.hid (hb.alloc hb.size (.cells #[.int .i64 K, .int .i64 P, .string S] 28))
      clear hc hL hT hL2 hS2 hS hlen hb
      go_wp2_with fail
      go_roundw
      case rel => exact ⟨k + 1, by omega, by go_num, by rw [HL2.out], HB.out⟩
      case measure => simp [intOf]; omega
    · obtain rfl : k = ts.length := by omega
      rw [List.take_length]
      have HB := Lib.hid hb
      by_cases h0 : ts.length = 0
      · have hnil : ts = [] := List.length_eq_zero_iff.1 h0
        subst hnil
        clear hb
        go_wp2_with fail
        go_ret
        exact ⟨rfl, HB.out⟩
      · have hpos : 0 < ts.length := by omega
        have hne : 1 ≤ (bts (joinA ts)).size := by
          rw [bts_size]
          cases ts with
          | nil => simp at h0
          | cons t r => simp [joinA]
        have hsl : ∀ W, (Instr.slice 9 (.string (bts (joinA ts))) (some (.int .i64 1)) none none).run Tryd.prog W = .ok (.string (bts (joinS ts))) W := fun W => by
          rw [run_slice_string_l W 9 (bts (joinA ts)) Tryd.underlying9 .i64 1 (by omega) (by omega)]
          have : (bts (joinA ts)).extract (1 : Int).toNat (bts (joinA ts)).size = bts (joinS ts) := by
            apply bts_of
            rw [extract_list, bts_list, bts_size, List.take_length]
            rfl
          rw [this]
        clear hb h0 hne
        go_wp2_with fail
        go_ret
        exact ⟨rfl, HB.out⟩
end Go.Proofs.YtfekcbkafiiieaaDoor
