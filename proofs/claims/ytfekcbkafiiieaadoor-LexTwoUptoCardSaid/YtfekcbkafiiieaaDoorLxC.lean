/-
  Contract of the reference's jclass.
-/
import Derived.Test.YtfekcbkafiiieaaDoorLxM
import Derived.Test.YtfekcbkafiiieaaDoorBsB
import Derived.Deep.CutRange
import Derived.RangeFuncRecord
import Derived.Lib.Hide
namespace Go.Proofs.YtfekcbkafiiieaaDoor
open Go.RowKit
set_option maxRecDepth 100000

/-- the four kinds' letters -/
def jstr (k : Nat) : ByteArray := if k = 0 then ⟨#[32, 10, 9]⟩ else if k = 1 then ⟨#[48, 49, 50, 51, 52, 53, 54, 55, 56, 57]⟩ else if k = 2 then ⟨#[97, 98, 99, 100, 101, 102, 103, 104, 105, 106, 107, 108, 109, 110, 111, 112, 113, 114, 115, 116, 117, 118, 119, 120, 121, 122]⟩ else ⟨#[123, 125, 91, 93, 40, 41, 59, 61, 60, 43, 45, 42, 47, 37]⟩
/-- the byte at j, 0 beyond the end -/
def byt (s : ByteArray) (j : Nat) : UInt8 := s.data.toList.getD j 0
theorem byt_get {s : ByteArray} {j : Nat} (h : j < s.size) : byt s j = s[j] := by
  have h2 : j < s.data.toList.length := by simpa using h
  unfold byt
  rw [List.getD_eq_getElem?_getD, List.getElem?_eq_getElem h2]
  rfl
theorem byt_mem {s : ByteArray} {c : UInt8} (h : c ∈ s.data.toList) : ∃ t, t < s.size ∧ byt s t = c := by
  obtain ⟨t, ht, he⟩ := List.getElem_of_mem h
  refine ⟨t, by simpa using ht, ?_⟩
  unfold byt
  rw [List.getD_eq_getElem?_getD, List.getElem?_eq_getElem ht]
  exact he
theorem jcls_spec : ∀ c : UInt8, (∀ k, k < 4 → (jstr k).data.toList.contains c = true → (∀ j, j < k → (jstr j).data.toList.contains c = false) → jcls c = k) ∧ ((∀ k, k < 4 → (jstr k).data.toList.contains c = false) → jcls c = 4) := by
  have key : ∀ n : Nat, n < 256 → ((List.range 4).all fun k => !((jstr k).data.toList.contains (UInt8.ofNat n)) || !((List.range k).all fun j => !((jstr j).data.toList.contains (UInt8.ofNat n))) || jcls (UInt8.ofNat n) == k) = true ∧
      (!((List.range 4).all fun k => !((jstr k).data.toList.contains (UInt8.ofNat n))) || jcls (UInt8.ofNat n) == 4) = true := by decide +kernel
  intro c
  have h := key c.toNat c.toNat_lt
  rw [UInt8.ofNat_toNat] at h
  obtain ⟨h1, h2⟩ := h
  refine ⟨fun k hk hc hn => ?_, fun hn => ?_⟩
  · have h3 := List.all_eq_true.1 h1 k (List.mem_range.2 hk)
    have h4 : ((List.range k).all fun j => !((jstr j).data.toList.contains c)) = true := List.all_eq_true.2 fun j hj => by rw [hn j (List.mem_range.1 hj)]; rfl
    rw [hc, h4] at h3
    simpa using h3
  · have h4 : ((List.range 4).all fun j => !((jstr j).data.toList.contains c)) = true := List.all_eq_true.2 fun j hj => by rw [hn j (List.mem_range.1 hj)]; rfl
    rw [h4] at h2
    simpa using h2

set_option maxHeartbeats 2000000 in
theorem jclass_any (c : UInt8) (w : World) : Calls Tryd.prog 18 #[.int .u8 (c.toNat : Int)] w fun e w' => e = .returned (.int .i64 ((jcls c : Nat) : Int)) ∧ Below w.heap.size w w' := by
  have hb1 : Below w.heap.size w (w.alloc (.cells #[.string (jstr 0), .string (jstr 1), .string (jstr 2), .string (jstr 3)] 9)) := (Below.refl _ _).alloc (Nat.le_refl _) _
  have e1 := World.alloc_heap_new w (.cells #[.string (jstr 0), .string (jstr 1), .string (jstr 2), .string (jstr 3)] 9)
  obtain ⟨D, hD⟩ : ∃ D, D = w.heap.size := ⟨_, rfl⟩
  obtain ⟨w1, hw1⟩ : ∃ w1, w1 = w.alloc (.cells #[.string (jstr 0), .string (jstr 1), .string (jstr 2), .string (jstr 3)] 9) := ⟨_, rfl⟩
  rw [← hw1] at hb1 e1
  rw [← hD] at e1
  have hc : ∀ q, q < 4 → w1.cell? ⟨D, q, none⟩ = some (.string (jstr q)) := fun q hq => by
    unfold World.cell?
    dsimp only
    rw [e1]
    rcases (show q = 0 ∨ q = 1 ∨ q = 2 ∨ q = 3 by omega) with rfl | rfl | rfl | rfl <;> rfl
  have HW := Lib.hid hw1
  have HD := Lib.hid hD
  have HB := Lib.hid hb1
  have HC := Lib.hid hc
  have HSP := Lib.hid (jcls_spec c)
  have hcn := c.toNat_lt
  clear hw1 hD hb1 e1 hc
  go_enter Tryd.func18, Tryd.ntmps18
  go_wp2_with fail
  have HW2 : w.alloc (.cells #[.string ⟨#[32, 10, 9]⟩, .string ⟨#[48, 49, 50, 51, 52, 53, 54, 55, 56, 57]⟩, .string ⟨#[97, 98, 99, 100, 101, 102, 103, 104, 105, 106, 107, 108, 109, 110, 111, 112, 113, 114, 115, 116, 117, 118, 119, 120, 121, 122]⟩, .string ⟨#[123, 125, 91, 93, 40, 41, 59, 61, 60, 43, 45, 42, 47, 37]⟩] 9) = w1 := HW.out.symm
  rw [HW2, ← HD.out]
  clear HW2
  obtain ⟨x, hx⟩ : ∃ x : Int, x = (c.toNat : Int) := ⟨_, rfl⟩
  have HX := Lib.hid hx
  rw [← hx]
  clear hx
  obtain ⟨wo, rfl⟩ : ∃ wo : World, wo = w1 := ⟨_, rfl⟩
  go_loopw [3, 4, 5, 8] (fun v3 v4 v5 v8 wr => ∃ q : Nat, q ≤ 4 ∧ v8 = .int .i64 (q : Int) ∧ (∀ j, j < q → (jstr j).data.toList.contains c = false) ∧ wr = wo) (fun _ _ _ i _ => 4 - (intOf i).toNat)
  case atStart => exact ⟨0, by omega, rfl, fun j hj => by omega, rfl⟩
  case round =>
    obtain ⟨q, hq, rfl, hno, rfl⟩ := hrel
    by_cases hlt : q < 4
    · have hcq := HC.out q hlt
      have HNO := Lib.hid hno
      obtain ⟨S, hS⟩ : ∃ S, S = jstr q := ⟨_, rfl⟩
      rw [← hS] at hcq
      have HS := Lib.hid hS
      have hsz : S.size ≤ 26 := by
        rw [hS]
        rcases (show q = 0 ∨ q = 1 ∨ q = 2 ∨ q = 3 by omega) with rfl | rfl | rfl | rfl <;> decide
      clear hno hS
      go_wp2_with fail
      obtain ⟨wi, rfl⟩ : ∃ wi : World, wi = wr := ⟨_, rfl⟩
      go_loopw [5, 15] (fun v5 v15 wr => ∃ j : Nat, j ≤ S.size ∧ v15 = .int .i64 (j : Int) ∧ (∀ i, i < j → byt S i ≠ c) ∧ wr = wi) (fun _ i _ => S.size - (intOf i).toNat)
      case atStart => exact ⟨0, by omega, rfl, fun j hj => by omega, rfl⟩
      case round =>
        obtain ⟨j, hj, rfl, hnj, rfl⟩ := hrel
        by_cases hjl : j < S.size
        · by_cases he : S[j]'hjl = c
          · have hv := HSP.out.1 q hlt (by
              rw [← HS.out, List.contains_iff_mem]
              rw [← he]
              exact Array.mem_toList_iff.2 (Array.getElem_mem _)) HNO.out
            have HV := Lib.hid hv
            have e1 : (((S[j]'hjl).toNat : Int) == x) = true := by rw [HX.out, he]; simp
            clear hv hnj he
            go_wp2_with fail
            go_ret
            exact ⟨by rw [HV.out]; rfl, HB.out⟩
          · have e1 : (((S[j]'hjl).toNat : Int) == x) = false := by
              rw [HX.out, beq_eq_false_iff_ne]
              intro e
              exact he (UInt8.toNat_inj.1 (by omega))
            have hn2 : ∀ i, i < j + 1 → byt S i ≠ c := fun i hi => by
              by_cases e : i = j
              · subst e
                rw [byt_get hjl]
                exact he
              · exact hnj i (by omega)
            have HN2 := Lib.hid hn2
            clear hn2 hnj he
            go_wp2_with fail
            go_roundw
            case rel => exact ⟨j + 1, by omega, by go_num, HN2.out, trivial⟩
            case measure => simp [intOf]; omega
        · obtain rfl : j = S.size := by omega
          have hno2 : ∀ i, i < q + 1 → (jstr i).data.toList.contains c = false := fun i hi => by
            by_cases e : i = q
            · subst e
              rw [← HS.out]
              rw [← Bool.not_eq_true, List.contains_iff_mem]
              intro hm
              obtain ⟨t, ht, he⟩ := byt_mem hm
              exact hnj t ht he
            · exact HNO.out i (by omega)
          have HN2 := Lib.hid hno2
          clear hno2 hnj
          go_wp2_with fail
          go_roundw
          case rel => exact ⟨q + 1, by omega, by go_num, HN2.out, trivial⟩
          case measure => simp [intOf]; omega
    · obtain rfl : q = 4 := by omega
      have HV := Lib.hid (HSP.out.2 hno)
      clear hno
      go_wp2_with fail
      go_ret
      exact ⟨by rw [HV.out]; rfl, HB.out⟩
end Go.Proofs.YtfekcbkafiiieaaDoor
