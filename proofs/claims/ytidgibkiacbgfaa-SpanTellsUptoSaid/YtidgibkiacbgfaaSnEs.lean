/-
  Contract of the reference's ESpan.
-/
import Derived.Test.YtidgibkiacbgfaaSnM
import Derived.Test.YtidgibkiacbgfaaSpDb
import Derived.Lib.MinMax
import Derived.OwnWalk
namespace Go.Proofs.Ytidgibkiacbgfaa
open Go.RowKit
set_option maxRecDepth 100000

/-- the row of the longest chains' lengths -/
def ceV (T : Tm) (j : Nat) : List Value := (List.range j).map fun (k : Nat) => Value.int .i64 ((T.ce (k : Int) : Nat) : Int)
theorem ceV_snoc (T : Tm) (j : Nat) : ceV T j ++ [.int .i64 ((T.ce (j : Int) : Nat) : Int)] = ceV T (j + 1) := by simp [ceV, List.range_succ]
theorem ceV_at (T : Tm) (j k : Nat) (h : k < j) : (ceV T j)[k]? = some (.int .i64 ((T.ce (k : Int) : Nat) : Int)) := by simp [ceV, h]
theorem ceV_len (T : Tm) (j : Nat) : (ceV T j).length = j := by simp [ceV]

theorem Try.infoIntN : ∃ i0, Try.prog.info? 3 = some i0 ∧ i0.zero = some (.int .i64 0) ∧ i0.size = 1 ∧ i0.bytes = 8 := by
  have h : (Try.prog.info? 3).map (fun i => (i.zero, i.size, i.bytes)) = some (some (.int .i64 0), 1, 8) := by kernel_rfl
  obtain ⟨i0, hi, hii⟩ := Option.map_eq_some_iff.1 h
  simp only [Prod.mk.injEq] at hii
  exact ⟨i0, hi, hii⟩

theorem row_base {w : World} {base n : Nat} {e : TypeId} {v : Value} {xs : List Value} (h : w.ownsRow base e 1 v n xs) : ∀ k, v.ownBlock = some k → base ≤ k := fun k hk => (h.lt k hk).1
theorem row_app {W wr w1 : World} {base n : Nat} {e : TypeId} {v : Value} {xs : List Value} (hB : Below base W wr) (hs : base ≤ wr.heap.size) (h : wr.ownsRow base e 1 v n xs) {o : Obj} (hg : (wr.alloc o).grownBy w1 v.ownBlock) : Below base W w1 :=
  (hB.alloc hs o).grown hg (by simp; omega) (row_base h)

set_option maxHeartbeats 2000000 in
theorem espan_any (T : Tm) (h : Hd) (w : World) (hT : TIn w w.heap.size T h) (hs : T.sz ≤ 1048576) :
    Calls Try.prog 9 #[.agg h.cells] w fun e w' => e = .returned (.int .i64 (T.sn : Nat)) ∧ Below w.heap.size w w' := by
  have key : ∃ w1, w1 = w.alloc (.cells h.cells 26) ∧ Below w.heap.size w w1 ∧ TB 26 w1 w.heap.size h := ⟨_, rfl, (Below.refl _ _).alloc (Nat.le_refl _) _, TB.new _ _ _⟩
  obtain ⟨w1, hw1, hb1, ht1⟩ := key
  have hT1 := (hT.below hb1 (Nat.le_refl _)).more hb1.size
  have hlt1 : w.heap.size < w1.heap.size := ht1.lt
  obtain ⟨n, hn⟩ : ∃ n, n = T.sz := ⟨_, rfl⟩
  have HL : Hid (Calls Try.prog 7 #[.agg h.cells] w1 fun e w' => ∃ A c, e = .returned (.slice A n c) ∧ Below w1.heap.size w1 w') := Lib.hid (by
    refine (dleaves_any T h w1 hT1 hs).mono fun e w' ⟨v, h1, h2, h3⟩ => ?_
    rw [T.lv_len, ← hn] at h2
    obtain ⟨A, c, rfl⟩ := own_form h2
    exact ⟨A, c, h1, h3⟩)
  have HTB : Hid (∀ W, Below w1.heap.size w1 W → TB 26 W w.heap.size h) := Lib.hid fun W hW => (hW.block _ hlt1).trans ht1
  have HDB : Hid (∀ W i j, Below w1.heap.size w1 W → Calls Try.prog 17 #[.agg h.cells, .int .i64 i, .int .i64 j] W fun e w' => e = .returned (.bool (T.bef i j)) ∧ Below W.heap.size W w') := Lib.hid fun W i j hW =>
    dbef_any T h W i j ((hT1.below hW (Nat.le_refl _)).more hW.size) hs
  have hfin : T.bst n = T.sn := by rw [hn]; exact T.bst_all
  have hinn : ∀ j, j < n → T.inn j j = T.ce (j : Int) := fun j hj => T.inn_all j (by omega)
  have hcb : ∀ j, j < n → T.ce (j : Int) ≤ 1048576 := fun j hj => by
    have h1 := (T.ce_range (j : Int) (by omega) (by omega)).2
    have h2 : T.sn ≤ T.sz := T.ms_le _ _
    omega
  have hib : ∀ j k, j < n → T.inn j k ≤ 1048576 := fun j k hj => by
    have h1 := (T.inn_le j (by omega) k).2
    have h2 := hcb j hj
    omega
  have HF := Lib.hid hfin
  have HI := Lib.hid hinn
  have HCB := Lib.hid hcb
  have HIB := Lib.hid hib
  obtain ⟨k, c, x, l, A, m, cap⟩ := h
  dsimp only [Hd.cells] at hw1 HL HDB ⊢
  obtain ⟨i0, hi, hz0, hz1, hz2⟩ := Try.infoIntN
  have HB1 := Lib.hid hb1
  have HLT := Lib.hid hlt1
  have hnb : n ≤ 1048576 := by omega
  clear hT hT1 hb1 ht1 hlt1 hs hn hfin hinn hcb hib
  go_enter Try.func9, Try.ntmps9
  go_wp2_with (first
    | (rw [← hw1]; refine HL.out.mono ?_; rintro e w2 ⟨A2, c2, rfl, hb2⟩)
    | fail)
  obtain ⟨D, hD⟩ : ∃ D, D = w2.heap.size := ⟨_, rfl⟩
  have HB2 : Hid (∀ W, Below D w2 W → Below w1.heap.size w1 W) := Lib.hid fun W hW => hb2.trans (hW.mono (by rw [hD]; exact hb2.size))
  have HDS : Hid (∀ W, Below D w2 W → D ≤ W.heap.size) := Lib.hid fun W hW => by rw [hD]; exact hW.size
  have HR0 : Hid (w2.ownsRow D 3 1 (.slice none 0 0) 0 (ceV T 0)) := Lib.hid (World.ownsRow_nil _ _ _ _)
  have HW0 : Hid (Below D w2 w2) := Lib.hid (Below.refl _ _)
  clear hw1 hb2 hD
  go_loopw [11, 3, 4] (fun i v b wr => ∃ j : Nat, j ≤ n ∧ i = .int .i64 j ∧ b = .int .i64 ((T.bst j : Nat) : Int) ∧ Hid (wr.ownsRow D 3 1 v j (ceV T j)) ∧ Hid (Below D w2 wr)) (fun i _ _ _ => n - (intOf i).toNat)
  case atStart => exact ⟨0, Nat.zero_le _, rfl, rfl, HR0, HW0⟩
  case round =>
    obtain ⟨j, hj, rfl, rfl, hrow, hbr⟩ := hrel
    by_cases hlt : j < n
    · have hsl := own_form hrow.out
      obtain ⟨Av, cv, rfl⟩ := hsl
      go_wp2_with fail
      go_loopw [15, 6] (fun i x wr => ∃ k : Nat, k ≤ j ∧ i = .int .i64 k ∧ x = .int .i64 ((T.inn j k : Nat) : Int) ∧ Hid (wr.ownsRow D 3 1 (.slice Av j cv) j (ceV T j)) ∧ Hid (Below D w2 wr)) (fun i _ _ => j - (intOf i).toNat)
      case atStart => exact ⟨0, Nat.zero_le _, rfl, rfl, hrow, hbr⟩
      case round =>
        obtain ⟨k, hk, rfl, rfl, hrow, hbr⟩ := hrel
        by_cases hkj : k < j
        · have ht := HTB.out wr (HB2.out wr hbr.out)
          have t0 := ht.c0
          have t1 := ht.c1
          have t2 := ht.c2
          have t3 := ht.c3
          have t4 := ht.c4
          dsimp only at t0 t1 t2 t3 t4
          have HC := Lib.hid (HDB.out wr (k : Int) (j : Int) (HB2.out wr hbr.out))
          have k0 : (0 : Int) ≤ (k : Int) := by omega
          have k1 : (k : Int) < (j : Int) := by omega
          have hck := HCB.out k (by omega)
          have hii := HIB.out j k (by omega)
          clear ht
          by_cases hb : T.bef (k : Int) (j : Int) = true
          · have hC := HC.out
            rw [hb] at hC
            have HC2 := Lib.hid hC
            have hstep : T.inn j (k + 1) = max (T.inn j k) (T.ce (k : Int) + 1) := by simp only [Tm.inn]; rw [if_pos hb]
            obtain ⟨ck, hckE⟩ : ∃ ck, ck = T.ce (k : Int) := ⟨_, rfl⟩
            obtain ⟨ik, hikE⟩ : ∃ ik, ik = T.inn j k := ⟨_, rfl⟩
            have hcell : ∀ (g : Nat) (W : World), W.ownsRow D 3 1 (.slice (some ⟨g, 0, none⟩) j cv) j (ceV T j) → W.cell? ⟨g, k, none⟩ = some (.int .i64 (ck : Int)) := fun g W hW => by
              rw [hW.cellAt k (by omega), ceV_at T j k hkj, hckE]
            rw [← hckE] at hck hstep
            rw [← hikE] at hii hstep ⊢
            have HST := Lib.hid hstep
            have HCE := Lib.hid hcell
            have e1 : IntKind.i64.wrap ((ck : Int) + 1) = (ck : Int) + 1 := by rw [IntKind.wrap_i64]; omega
            have e2 : max (ik : Int) ((ck : Int) + 1) = ((max ik (ck + 1) : Nat) : Int) := by omega
            obtain ⟨g, cap', hA, _, _⟩ := hrow.out.form (by omega)
            injection hA with hA1 _ hA2
            subst hA1
            subst hA2
            clear hC hb hstep hckE hikE hcell HC
            go_wp2_with (first
              | (refine HC2.out.mono ?_; rintro e w3 ⟨rfl, hb3⟩; have hr3 := own_step hrow.out hb3 (Nat.le_refl _); have hc3 := HCE.out g w3 hr3)
              | fail)
            have hbw := hbr.out.trans (hb3.mono (HDS.out wr hbr.out))
            go_roundw
            case rel => exact ⟨k + 1, by omega, by go_num, by rw [HST.out, ← e2], Lib.hid hr3, Lib.hid hbw⟩
            case measure => simp [intOf]; omega
          · have hbf : T.bef (k : Int) (j : Int) = false := by simpa using hb
            have hC := HC.out
            rw [hbf] at hC
            have HC2 := Lib.hid hC
            have hstep : T.inn j (k + 1) = T.inn j k := by simp only [Tm.inn]; rw [if_neg hb]
            have HST := Lib.hid hstep
            clear hC hb hbf hstep HC
            go_wp2_with (first
              | (refine HC2.out.mono ?_; rintro e w3 ⟨rfl, hb3⟩; have hr3 := own_step hrow.out hb3 (Nat.le_refl _))
              | fail)
            have hbw := hbr.out.trans (hb3.mono (HDS.out wr hbr.out))
            go_roundw
            case rel => exact ⟨k + 1, by omega, by go_num, by rw [HST.out], Lib.hid hr3, Lib.hid hbw⟩
            case measure => simp [intOf]; omega
        · obtain rfl : k = j := by omega
          have hij := HI.out k hlt
          rw [hij]
          have hsn := Lib.hid (ceV_snoc T k)
          obtain ⟨ck, hckE⟩ : ∃ ck, ck = T.ce (k : Int) := ⟨_, rfl⟩
          obtain ⟨bk, hbkE⟩ : ∃ bk, bk = T.bst k := ⟨_, rfl⟩
          have hbst : T.bst (k + 1) = max (T.bst k) (T.ce (k : Int)) := rfl
          rw [← hckE] at hsn hbst ⊢
          rw [← hbkE] at hbst ⊢
          have HBS := Lib.hid hbst
          have e2 : max (bk : Int) (ck : Int) = ((max bk ck : Nat) : Int) := by omega
          have h3 : k + 1 ≤ maxLen := by unfold maxLen; omega
          have h4 : (k + 1) * 8 ≤ 140737488355328 := by omega
          have hsz := HDS.out wr hbr.out
          have h5 : D ≤ (wr.alloc (.cells #[.int .i64 (ck : Int)] 3)).heap.size := by simp; omega
          have HROW := Lib.hid (hrow.out.alloc (.cells #[.int .i64 (ck : Int)] 3))
          clear hij hckE hbkE hbst
          go_wp2_with (at_builtin; refine wpList_append_own _ rfl _ _ 38 rfl D 3 i0 (.int .i64 0) 1 8 Try.underlying38 hi hz0 hz1 hz2 rfl (by decide) _ k (ceV T k) rfl HROW.out ⟨wr.heap.size, 0, none⟩ 1 1 [.int .i64 (ck : Int)] rfl rfl (cell_one_new _ _ _) (by simp [Value.oneCell']) h3 h4 h5 ?_; intro v' wa hown' hgrow _; have hB1 := row_app hbr.out hsz hrow.out hgrow; rw [hsn.out] at hown')
          go_roundw
          case rel => exact ⟨k + 1, by omega, by go_num, by rw [HBS.out, ← e2], Lib.hid hown', Lib.hid hB1⟩
          case measure => simp [intOf]; omega
    · obtain rfl : j = n := by omega
      have hb := HB2.out wr hbr.out
      rw [HF.out]
      go_wp2_with fail
      go_ret
      exact ⟨rfl, HB1.out.trans (hb.mono (Nat.le_of_lt HLT.out))⟩
end Go.Proofs.Ytidgibkiacbgfaa
