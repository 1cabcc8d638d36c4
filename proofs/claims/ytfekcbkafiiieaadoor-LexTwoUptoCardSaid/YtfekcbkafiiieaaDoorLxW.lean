/-
  What the library's number texts read of memory; contract of the reference's jnumber.
-/
import Derived.Test.YtfekcbkafiiieaaDoorBsMem
import Derived.Test.YtfekcbkafiiieaaDoorLxShelf
import Derived.WalkSmall
import Derived.Lib.SmallJoins
import Derived.Lib.Hide
import Derived.Deep.CutRange
import Derived.BigQuiet
import Derived.RangeFuncRecord
import Derived.Deep.RegionHeld3
namespace Go.Proofs.YtfekcbkafiiieaaDoor
open Go.RowKit
set_option maxRecDepth 100000

theorem gSyn : Tryd.prog.globalNamed "strconv.ErrSyntax" = some 0 := by kernel_rfl
theorem gRng : Tryd.prog.globalNamed "strconv.ErrRange" = some 1 := by kernel_rfl
theorem gPow : Tryd.prog.globalNamed "internal/strconv.uint64pow10" = some 2 := by kernel_rfl
/-- the two errors and the table of powers -/
structure LxW (w : World) : Prop where
  syn : ∃ tp p, w.var? Tryd.prog "strconv.ErrSyntax" = some #[.iface tp p]
  rng : ∃ tp p, w.var? Tryd.prog "strconv.ErrRange" = some #[.iface tp p]
  pow : Lib.TabIs Tryd.prog w "internal/strconv.uint64pow10" .u64 Lib.pow10Tab
theorem var_lt {P : Program} {w : World} {n : String} {g : Nat} {cs : Array Value} (hg : P.globalNamed n = some g) (h : w.var? P n = some cs) : g < w.heap.size := by
  unfold World.var? at h
  rw [hg] at h
  simp only [Option.bind_some] at h
  rcases hb : w.heap[g]? with _ | o
  · rw [hb] at h; cases h
  · exact (Array.getElem?_eq_some_iff.1 hb).1
theorem LxW.step {w w' : World} (h : LxW w) (hb : Below w.heap.size w w') : LxW w' := by
  obtain ⟨⟨t1, p1, h1⟩, ⟨t2, p2, h2⟩, h3⟩ := h
  exact ⟨⟨t1, p1, var?_below hb gSyn (var_lt gSyn h1) h1⟩, ⟨t2, p2, var?_below hb gRng (var_lt gRng h2) h2⟩, Go.Joins.tab_stays gPow h3 hb (Nat.le_refl _)⟩
/-- is it no digits, or a number? -/
def jnumB (k : Int) (s : ByteArray) : Bool := !decide (k = 1) || (match Lib.parseIntB 64 s.data.toList with | .ok n => (Lib.itoa n == s.data.toList) | _ => false)
theorem below_bytes {w w' : World} {T : TypeId} (h : w' = w ∨ ∃ t, w' = Lib.bytesWorld w T t) : Below w.heap.size w w' := by
  rcases h with rfl | ⟨t, rfl⟩
  · exact Below.refl _ _
  · exact Go.Joins.below_bytesWorld _ _ _ _ (Nat.le_refl _)
theorem below_growD (w : World) (k : Nat) (os : Array Obj) : Below w.heap.size w (Go.Sort.grow (w.drewN k) os) := by
  refine ⟨rfl, rfl, rfl, ?_, fun j hj => ?_⟩
  · simp [Go.Sort.grow]
  · have : (Go.Sort.grow (w.drewN k) os).heap = w.heap ++ os := rfl
    rw [this, Array.getElem?_append_left hj]
theorem below_drewN' {B : Nat} {a w : World} (h : Below B a w) (n : Nat) : Below B a (w.drewN n) := ⟨h.os, h.tape, h.output, h.size, h.block⟩
/-- a token's three cells -/
def TkB (B : Nat) (K pos : Int) (s : ByteArray) (W : World) : Prop := W.heap[B]? = some (.cells #[.int .i64 K, .int .i64 pos, .string s] 28 (0, 0))
theorem TkB.new (W : World) (K pos : Int) (s : ByteArray) : TkB W.heap.size K pos s (W.alloc (.cells #[.int .i64 K, .int .i64 pos, .string s] 28)) := World.alloc_heap_new W _
theorem TkB.lt {B : Nat} {K pos : Int} {s : ByteArray} {W : World} (h : TkB B K pos s W) : B < W.heap.size := (Array.getElem?_eq_some_iff.1 h).1
theorem TkB.step {B : Nat} {K pos : Int} {s : ByteArray} {W W' : World} (h : TkB B K pos s W) (hb : Below W.heap.size W W') : TkB B K pos s W' := (hb.block B h.lt).trans h
theorem TkB.cells {B : Nat} {K pos : Int} {s : ByteArray} {W : World} (h : TkB B K pos s W) : W.cell? ⟨B, 0, none⟩ = some (.int .i64 K) ∧ W.cell? ⟨B, 1, none⟩ = some (.int .i64 pos) ∧ W.cell? ⟨B, 2, none⟩ = some (.string s) := by
  unfold TkB at h
  refine ⟨?_, ?_, ?_⟩ <;> (unfold World.cell?; dsimp only; rw [h]; rfl)
theorem jnum_not {K : Int} (s : ByteArray) (h : K ≠ 1) : jnumB K s = true := by unfold jnumB; simp [h]

theorem bstr_yes (a : ByteArray) : (a.toList == a.toList) = true := by simp
theorem bstr_no {a b : ByteArray} (h : a ≠ b) : (a.toList == b.toList) = false := by
  rw [beq_eq_false_iff_ne]
  intro e
  rw [ByteArray.toList_eq, ByteArray.toList_eq] at e
  exact h (ByteArray.ext (Array.toList_inj.1 e))
theorem jnum_ok {s : ByteArray} {v : Int} (h : Lib.parseIntB 64 s.data.toList = .ok v) : jnumB 1 s = decide ((⟨(Lib.itoa v).toArray⟩ : ByteArray) = s) := by
  unfold jnumB
  rw [h]
  simp only [decide_true, Bool.not_true, Bool.false_or]
  rw [Bool.eq_iff_iff, beq_iff_eq, decide_eq_true_iff]
  constructor
  · intro e
    apply ByteArray.ext
    rw [e]
  · intro e
    rw [← e]
theorem jnum_err {s : ByteArray} (h : ∀ v, Lib.parseIntB 64 s.data.toList ≠ .ok v) : jnumB 1 s = false := by
  unfold jnumB
  split
  · rename_i v hv; exact absurd hv (h v)
  · simp
/-- a token's box, and all that lay -/
abbrev HeldTk (B : Nat) (w7 : World) (K pos : Int) (s : ByteArray) (W : World) : Prop := W.cell? ⟨B, 0, none⟩ = some (.int .i64 K) ∧ W.cell? ⟨B, 1, none⟩ = some (.int .i64 pos) ∧ W.cell? ⟨B, 2, none⟩ = some (.string s) ∧ Below w7.heap.size w7 W ∧ B < w7.heap.size
theorem HeldTk.drew {B : Nat} {w7 W : World} {K pos : Int} {s : ByteArray} (h : HeldTk B w7 K pos s W) : HeldTk B w7 K pos s W.drew := ⟨h.1, h.2.1, h.2.2.1, h.2.2.2.1.drew, h.2.2.2.2⟩
theorem HeldTk.step {B : Nat} {w7 W W2 : World} {K pos : Int} {s : ByteArray} (h : HeldTk B w7 K pos s W) (hb : Below W.heap.size W W2) : HeldTk B w7 K pos s W2 := by
  have hb' := hb.mono h.2.2.2.1.size
  exact ⟨(hb'.cell (p := ⟨B, 0, none⟩) h.2.2.2.2).trans h.1, (hb'.cell (p := ⟨B, 1, none⟩) h.2.2.2.2).trans h.2.1, (hb'.cell (p := ⟨B, 2, none⟩) h.2.2.2.2).trans h.2.2.1, h.2.2.2.1.trans hb', h.2.2.2.2⟩

set_option maxHeartbeats 2000000 in
theorem jnumber_any (K pos : Int) (s : ByteArray) (hs : s.size ≤ 281474976710656) (w : World) (hx : LxW w) :
    Calls Tryd.prog 19 #[.agg #[.int .i64 K, .int .i64 pos, .string s]] w fun e w' => e = .returned (.bool (jnumB K s)) ∧ Below w.heap.size w w' := by
  have hb1 : Below w.heap.size w (w.alloc (.cells #[.int .i64 K, .int .i64 pos, .string s] 28)) := (Below.refl _ _).alloc (Nat.le_refl _) _
  have ht1 := TkB.new w K pos s
  obtain ⟨D, hD⟩ : ∃ D, D = w.heap.size := ⟨_, rfl⟩
  obtain ⟨w1, hw1⟩ : ∃ w1, w1 = w.alloc (.cells #[.int .i64 K, .int .i64 pos, .string s] 28) := ⟨_, rfl⟩
  rw [← hD] at ht1
  rw [← hw1] at ht1 hb1
  have hx1 := hx.step hb1
  have HW := Lib.hid hw1
  have HD := Lib.hid hD
  have HB := Lib.hid hb1
  obtain ⟨c0, c1, c2⟩ := ht1.cells
  clear hw1 hD hb1 hx
  rcases hp : Lib.parseIntB 64 s.data.toList with v | _ | _
  · have hv := Lib.parseIntB_bounds hp
    have hv1 : -9223372036854775808 ≤ v ∧ v ≤ 9223372036854775807 := by simp at hv; omega
    have HV1 := Lib.hid hv1
    clear hv hv1
    go_enter Tryd.func19, Tryd.ntmps19
    go_upto_region 1 with fail
    rw [← HW.out, ← HD.out]
    go_wp2_with fail
    refine (Tryd.strconv_ParseInt_10_at64_ok s (by omega) v hp w1).mono ?_
    rintro e w2 ⟨rfl, hw2⟩
    have hb2 : Below w1.heap.size w1 w2 := below_bytes hw2
    have HF : Hid (Below w.heap.size w w2) := Lib.hid (HB.out.trans (hb2.mono HB.out.size))
    have ht2 := ht1.step hb2
    have hx2 := hx1.step hb2
    obtain ⟨d0, d1, d2⟩ := ht2.cells
    clear hw2 c0 c1 c2 hx1 ht1
    by_cases hK : K = 1
    · subst hK
      have HQ := Lib.hid (jnum_ok hp)
      have HX := Lib.hid hx2
      have h0 : HeldTk D w2 1 pos s w2 := ⟨d0, d1, d2, Below.refl _ _, ht2.lt⟩
      obtain ⟨F, hF⟩ : ∃ F : ByteArray, F = ⟨(Lib.itoa v).toArray⟩ := ⟨_, rfl⟩
      have H1 : Hid (∀ W, HeldTk D w2 1 pos s W → Calls Tryd.prog 29 #[.int .i64 v, .int .i64 10] W fun e W' => e = .returned (.string F) ∧ HeldTk D w2 1 pos s W') := Lib.hid fun W hW => by
        refine (Tryd.strconv_FormatInt_10 v HV1.out.1 HV1.out.2 W (HX.out.step hW.2.2.2.1).pow).mono ?_
        rintro e W' ⟨rfl, k, os, rfl⟩
        exact ⟨by rw [hF], hW.step (below_growD W k os)⟩
      rw [← hF] at HQ
      clear hp hF hx2 ht2 hb2
      obtain ⟨b, hb⟩ : ∃ b : Bool, b = (F.toList == s.toList) := ⟨_, rfl⟩
      have HBQ : Hid (jnumB 1 s = b) := Lib.hid (by
        rw [HQ.out, hb]
        by_cases e : F = s
        · subst e; rw [bstr_yes]; simp
        · rw [bstr_no e]; simp [e])
      have hb' : (F.toList == s.toList) = b := hb.symm
      clear hb
      go_wp2_with fail
      go_cut [2] from 11 to 24 (fun t wx => t = .bool b ∧ Below w2.heap.size w2 wx)
      case first =>
        go_region_held3 (HeldTk D w2 1 pos s)
          (first
            | (go_split_ands; refine ⟨?_, ?_, ?_, ?_, ?_⟩ <;> assumption)
            | (go_split_ands; exact HeldTk.drew ⟨‹_›, ‹_›, ‹_›, ‹_›, ‹_›⟩))
          (first
            | (go_at_call 29; with_reducible refine (H1.out _ (by assumption)).mono ?_; rintro e w6 ⟨rfl, h6⟩))
        all_goals
          go_wp2_with fail
          go_meet
          case rel => exact ⟨rfl, h6.2.2.2.1⟩
      case rest =>
        obtain ⟨rfl, hb3⟩ := hcut
        have HG := Lib.hid (HF.out.trans (hb3.mono HF.out.size))
        clear hb3 d0 d1 d2
        go_wp2_with fail
        go_ret
        exact ⟨by rw [HBQ.out]; rfl, HG.out⟩
    · have HV := Lib.hid (jnum_not s hK)
      have n1 : ((K : Int) != 1) = true := by simp [hK]
      clear hp
      go_wp2_with fail
      go_quiet (fail)
      go_wp2_with fail
      go_ret
      exact ⟨by rw [HV.out]; rfl, below_drewN' HF.out nq⟩
  · obtain ⟨tp, pv, hvar⟩ := hx1.syn
    go_enter Tryd.func19, Tryd.ntmps19
    go_upto_region 1 with fail
    rw [← HW.out, ← HD.out]
    go_wp2_with fail
    refine (Tryd.strconv_ParseInt_10_at64_syntax_var s hs (fun v h => by rw [hp] at h; cases h) (by rw [hp]; intro h; cases h) tp pv w1 hvar).mono ?_
    rintro e w2 ⟨N, rfl, _, _, hw2⟩
    have hb2 : Below w1.heap.size w1 w2 := hw2
    have HF : Hid (Below w.heap.size w w2) := Lib.hid (HB.out.trans (hb2.mono HB.out.size))
    have ht2 := ht1.step hb2
    have hx2 := hx1.step hb2
    obtain ⟨d0, d1, d2⟩ := ht2.cells
    clear hw2 hvar c0 c1 c2 hx1 ht1
    by_cases hK : K = 1
    · subst hK
      have HQ := Lib.hid (jnum_err (s := s) (fun v h => by rw [hp] at h; cases h))
      clear hp
      go_wp2_with fail
      go_quiet (fail)
      go_wp2_with fail
      go_ret
      exact ⟨by rw [HQ.out]; rfl, below_drewN' HF.out nq⟩
    · have HV := Lib.hid (jnum_not s hK)
      have n1 : ((K : Int) != 1) = true := by simp [hK]
      clear hp
      go_wp2_with fail
      go_quiet (fail)
      go_wp2_with fail
      go_ret
      exact ⟨by rw [HV.out]; rfl, below_drewN' HF.out nq⟩
  · obtain ⟨tp, pv, hvar⟩ := hx1.rng
    go_enter Tryd.func19, Tryd.ntmps19
    go_upto_region 1 with fail
    rw [← HW.out, ← HD.out]
    go_wp2_with fail
    refine (Tryd.strconv_ParseInt_10_at64_range_var s hs hp tp pv w1 hvar).mono ?_
    rintro e w2 ⟨N, rfl, _, _, hw2⟩
    have hb2 : Below w1.heap.size w1 w2 := hw2
    have HF : Hid (Below w.heap.size w w2) := Lib.hid (HB.out.trans (hb2.mono HB.out.size))
    have ht2 := ht1.step hb2
    have hx2 := hx1.step hb2
    obtain ⟨d0, d1, d2⟩ := ht2.cells
    clear hw2 hvar c0 c1 c2 hx1 ht1
    by_cases hK : K = 1
    · subst hK
      have HQ := Lib.hid (jnum_err (s := s) (fun v h => by rw [hp] at h; cases h))
      clear hp
      go_wp2_with fail
      go_quiet (fail)
      go_wp2_with fail
      go_ret
      exact ⟨by rw [HQ.out]; rfl, below_drewN' HF.out nq⟩
    · have HV := Lib.hid (jnum_not s hK)
      have n1 : ((K : Int) != 1) = true := by simp [hK]
      clear hp
      go_wp2_with fail
      go_quiet (fail)
      go_wp2_with fail
      go_ret
      exact ⟨by rw [HV.out]; rfl, below_drewN' HF.out nq⟩
end Go.Proofs.YtfekcbkafiiieaaDoor
