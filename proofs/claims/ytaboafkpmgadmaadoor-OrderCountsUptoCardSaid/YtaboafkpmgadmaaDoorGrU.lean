/-
  Contract of graph.union; slices.Backward over ints.
-/
import Derived.Test.YtaboafkpmgadmaaDoorGrT
import Derived.Test.YtaboafkpmgadmaaDoorBsAlg
namespace Go.Proofs.YtaboafkpmgadmaaDoor
open Go.RowKit Go.Shelf
set_option maxRecDepth 100000

attribute [local go_sem] Oper.semAt_some

/-- the union of those of the sets whose numbers L tells -/
def unionL (xss : List (List Nat)) (L : List Nat) : List Nat := L.foldl (fun a n => mrg orN a (st xss n)) []
theorem unionL_snoc (xss : List (List Nat)) (L : List Nat) (n : Nat) : unionL xss (L ++ [n]) = mrg orN (unionL xss L) (st xss n) := by unfold unionL; rw [List.foldl_append]; rfl
theorem unionL_len (xss : List (List Nat)) (L : List Nat) (h : ∀ n, n ∈ L → (st xss n).length ≤ 1024) : (unionL xss L).length ≤ 1024 := by
  have : ∀ (L : List Nat) (a : List Nat), a.length ≤ 1024 → (∀ n, n ∈ L → (st xss n).length ≤ 1024) → (L.foldl (fun a n => mrg orN a (st xss n)) a).length ≤ 1024 := by
    intro L
    induction L with
    | nil => intro a ha _; exact ha
    | cons x L ih =>
      intro a ha h
      refine ih _ ?_ fun n hn => h n (List.mem_cons_of_mem _ hn)
      dsimp only
      have := mrg_le orN a (st xss x)
      have := h x List.mem_cons_self
      omega
  exact this L [] (by simp) h
theorem unionL_ws (xss : List (List Nat)) (L : List Nat) (h : ∀ n, n ∈ L → Ws (st xss n)) : Ws (unionL xss L) := by
  have : ∀ (L : List Nat) (a : List Nat), Ws a → (∀ n, n ∈ L → Ws (st xss n)) → Ws (L.foldl (fun a n => mrg orN a (st xss n)) a) := by
    intro L
    induction L with
    | nil => intro a ha _; exact ha
    | cons x L ih =>
      intro a ha h
      exact ih _ (ws_or ha (h x List.mem_cons_self)) fun n hn => h n (List.mem_cons_of_mem _ hn)
  exact this L [] ws_nil h
theorem unionL_tb (xss : List (List Nat)) (L : List Nat) (k j : Nat) : tb (unionL xss L) k j = L.any fun n => tb (st xss n) k j := by
  have : ∀ (L : List Nat) (a : List Nat), tb (L.foldl (fun a n => mrg orN a (st xss n)) a) k j = (tb a k j || L.any fun n => tb (st xss n) k j) := by
    intro L
    induction L with
    | nil => intro a; simp
    | cons x L ih =>
      intro a
      show tb (L.foldl (fun a n => mrg orN a (st xss n)) (mrg orN a (st xss x))) k j = _
      rw [ih, tb_or, List.any_cons, Bool.or_assoc]
  have h := this L []
  rw [tb_nil, Bool.false_or] at h
  exact h
theorem unionL_noTail (xss : List (List Nat)) (L : List Nat) : NoTail (unionL xss L) := by
  rcases List.eq_nil_or_concat L with rfl | ⟨L', x, rfl⟩
  · exact .inl rfl
  · rw [List.concat_eq_append, unionL_snoc]; exact mrg_noTail _ _ _

theorem rdU_empty (w : World) (B : Nat) : RdU w B none [] := ⟨fun k => by simp [wd], by simp, fun h => by simp at h⟩

set_option maxHeartbeats 1000000 in
theorem union_any (A A2 : Option Addr) (c c2 m : Nat) (xss : List (List Nat)) (hl : xss.length = m) (xs : List Nat) (w : World) (hx : RdUU w w.heap.size A xss) (hs : RdU w w.heap.size A2 xs)
    (hbits : ∀ j, j ∈ mem xs → j < m) (hroom : ∀ k, k < m → (st xss k).length ≤ 1024) (hsl : xs.length ≤ 1024) (hT : Tab w) :
    Calls Tryd.prog 52 #[.slice A m c, .slice A2 xs.length c2] w fun e w' => ∃ A1 c1, e = .returned (.slice A1 (unionL xss (mem xs)).length c1) ∧ RdU w' w'.heap.size A1 (unionL xss (mem xs)) ∧ Below w.heap.size w w' := by
  go_enter Tryd.func52, Tryd.ntmps52
  go_wp2_with fail
  refine (list_any A2 c2 xs _ hs (by omega) hT).mono ?_
  rintro e w1 ⟨A3, c3, rfl, hr, hb1⟩
  rw [show alist xs (64 * xs.length) = toI (mem xs) from rfl] at hr ⊢
  obtain ⟨L, hL⟩ : ∃ L, L = mem xs := ⟨_, rfl⟩
  rw [← hL] at hr hbits ⊢
  have hLl := toI_len L
  have hml : L.length ≤ 65536 := by rw [hL]; exact mem_len xs hsl
  have HL := Lib.hid hL
  have HLl := Lib.hid hLl
  rw [hLl]
  clear hL hLl hs
  have hx1 := hx.step hb1
  clear hx
  go_wp2_with fail
  go_loopw [5, 11] (fun v i wr => ∃ (t : Nat) (A4 : Option Addr) (c4 : Nat), t ≤ L.length ∧ i = .int .i64 t ∧ v = .slice A4 (unionL xss (L.take t)).length c4 ∧ RdU wr wr.heap.size A4 (unionL xss (L.take t)) ∧ Below w1.heap.size w1 wr) (fun _ i _ => L.length - (intOf i).toNat)
  case atStart => exact ⟨0, none, 0, Nat.zero_le _, rfl, rfl, rdU_empty _ _, Below.refl _ _⟩
  case round =>
    obtain ⟨t, A4, c4, ht, rfl, rfl, hu, hbr⟩ := hrel
    by_cases htl : t < L.length
    · obtain ⟨y, hy1, hy2⟩ := zd_toI L t htl
      have hym : y < m := hbits y (by obtain ⟨h1, h2⟩ := List.getElem?_eq_some_iff.1 hy2; rw [← h2]; exact List.getElem_mem h1)
      obtain ⟨b, off, rfl, hb, hc⟩ := hr.rd (by rw [HLl.out]; omega)
      have hc1 := (hbr.cell (p := ⟨b, off + t, none⟩) hb).trans (hc t (by rw [HLl.out]; omega))
      dsimp only at hc1
      rw [hy1] at hc1
      obtain ⟨b2, off2, A5, c5, rfl, hb2, hc2, hs5⟩ := hx1.at_ (k := y) (by omega)
      have hc2' := (hbr.cell (p := ⟨b2, off2 + y, none⟩) hb2).trans hc2
      have hs6 := (hs5.below hbr).more hbr.size
      have hul : (unionL xss (L.take t)).length ≤ 1024 := unionL_len xss _ fun n hn => hroom n (hbits n (List.mem_of_mem_take hn))
      have hsl5 := hroom y hym
      have HT := Lib.hid (take_at L t y hy2)
      have hy0 : (0 : Int) ≤ (y : Int) := Int.natCast_nonneg _
      have hy3 : (y : Int) < (m : Int) := by omega
      clear hc hy1 hy2 hc2 hs5
      go_wp2_with fail
      refine (oporN_any A4 A5 c4 c5 _ _ _ hu hs6 (by omega) (by omega)).mono ?_
      rintro e w2 ⟨A6, c6, rfl, hr6, hb6⟩
      rw [← unionL_snoc, ← HT.out] at hr6 ⊢
      have hb7 := hbr.trans (hb6.mono hbr.size)
      clear hb6 hbr hu hs6
      go_wp2
      go_roundw
      case rel => exact ⟨t + 1, A6, c6, by omega, by go_num, rfl, hr6, hb7⟩
      case measure => simp [intOf]; omega
    · obtain rfl : t = L.length := by omega
      rw [List.take_length] at hu ⊢
      go_wp2
      go_ret
      refine ⟨A4, c4, ?_, ?_, hb1.trans (hbr.mono hb1.size)⟩
      · rw [← HL.out]; rfl
      · rw [← HL.out]; exact hu

/-- a slice of numbers whose block p names -/
structure RdNp (w : World) (p : Nat → Prop) (A : Option Addr) (o : List Nat) : Prop where
  room : o.length ≤ 1048576
  rd : 0 < o.length → ∃ b off, A = some ⟨b, off, none⟩ ∧ p b ∧ ∀ (k x : Nat), o[k]? = some x → w.cell? ⟨b, off + k, none⟩ = some (.int .i64 (x : Int))
theorem RdNp.keeps {w w' : World} {p q : Nat → Prop} {A : Option Addr} {o : List Nat} (h : RdNp w p A o) (hk : Keeps q w w') (hq : ∀ b, p b → q b) : RdNp w' p A o := ⟨h.room, fun hn => by
  obtain ⟨b, off, hA, hp, hc⟩ := h.rd hn
  have hlt : b < w.heap.size := World.block_lt_of_cell? w _ (hc 0 o[0] (by simp [hn]))
  exact ⟨b, off, hA, hp, fun k x hx => (World.cell?_of_block (hk.block b hlt (hq b hp))).trans (hc k x hx)⟩⟩
theorem own_rdNp {w : World} {base : Nat} {e : TypeId} {v : Value} {o : List Nat} (h : w.ownsRow base e 1 v (toI o).length (iVals (toI o))) (hr : o.length ≤ 1048576) : ∃ A c, v = .slice A o.length c ∧ RdNp w (fun b => base ≤ b ∧ b < w.heap.size) A o := by
  rw [toI_len] at h
  obtain ⟨A, c, rfl⟩ := own_any h
  refine ⟨A, c, rfl, hr, fun hn => ?_⟩
  obtain ⟨g, cap, hv, hb, hg⟩ := own_shape h hn
  injection hv with hA _ hc
  subst hA
  subst hc
  refine ⟨g, 0, rfl, ⟨hb, hg⟩, fun k x hx => ?_⟩
  obtain ⟨hk, hkx⟩ := List.getElem?_eq_some_iff.1 hx
  rw [Nat.zero_add, h.cellAt k (by omega), iVals_at _ _ (by rw [toI_len]; exact hk)]
  obtain ⟨y, hy1, hy2⟩ := zd_toI o k hk
  rw [hx] at hy2
  injection hy2 with hy2
  rw [hy1, hy2]

/-- a place and what stands there -/
abbrev Bk (L m : Nat) := { p : Nat × Nat // p.1 < L ∧ p.2 < m }

theorem backward_in (n : Nat) (a : Option Addr) (len cap : Nat) (w : World) :
    CallsIn Fence.wide n Tryd.prog 50 #[.slice a len cap] w fun e w' => e = .returned (.func (.func 83) #[] #[.pointer (some ⟨w.heap.size, 0, none⟩)]) ∧ w' = w.alloc (.cells #[.slice a len cap] 25) := by
  refine callsIn_of_wp Tryd.func50 rfl trivial ?_ rfl
  simp only [Tryd.ntmps50, List.size_toArray, List.length_cons, List.length_nil, Nat.reduceAdd, Nat.reduceSub, Array.replicate_succ, Array.replicate_zero, List.push_toArray, List.append_toArray, List.nil_append, List.cons_append]
  gi_wp2
  go_ret
  exact ⟨rfl, rfl⟩

set_option maxHeartbeats 1000000 in
theorem backward1_in (n : Nat) (hn : 2 ≤ n) (m Bs c : Nat) (p : Nat → Prop) (A : Option Addr) (o : List Nat) (hom : ∀ x, x ∈ o → x < m) (w : World) (hx : RdNp w p A o) (hpl : ∀ b, p b → b < w.heap.size)
    (hc : w.cell? ⟨Bs, 0, none⟩ = some (.slice A o.length c)) (hBs : Bs < w.heap.size) :
    SeqO Fence.wide n Tryd.prog 83 #[.pointer (some ⟨Bs, 0, none⟩)] (fun x : Bk o.length m => #[Value.int .i64 (x.1.1 : Int), .int .i64 (x.1.2 : Int)]) (fun b => p b ∨ b = Bs)
      (fun ys => ys.length = o.length) (fun _ => True) (fun pre x => pre.length < o.length ∧ x.1.1 + pre.length + 1 = o.length ∧ o[x.1.1]? = some x.1.2) w := by
  have h1 : 1 ≤ n := by omega
  intro l J Jx O W hkW hO hJ hJx hY h0
  have hF : ∀ k, (p k ∨ k = Bs) → k < W.heap.size := fun k hk => by
    have := hkW.size
    rcases hk with hk | hk
    · have := hpl k hk; omega
    · omega
  have hcW : W.cell? ⟨Bs, 0, none⟩ = some (.slice A o.length c) := (World.cell?_of_block (hkW.block Bs hBs (.inr rfl))).trans hc
  have hxW := hx.keeps hkW (fun b hb => .inl hb)
  have hroom := hx.room
  clear hx hc hkW
  refine callsIn_of_wp Tryd.func83 rfl trivial ?_ rfl
  simp only [Tryd.ntmps83, List.size_toArray, List.length_cons, List.length_nil, Nat.reduceAdd, Nat.reduceSub, Array.replicate_succ, Array.replicate_zero, List.push_toArray, List.append_toArray, List.nil_append, List.cons_append]
  gi_wp2
  gi_loopw [3] (fun i wr => ∃ (t : Nat) (ys : List (Bk o.length m)) (O2 : Nat → Prop), t ≤ o.length ∧ i = .int .i64 ((o.length : Int) - 1 - t) ∧ ys.length = t ∧ J ys O2 wr ∧ ItInv (fun b => p b ∨ b = Bs) O W O2 wr) (fun i _ => (intOf i + 1).toNat)
  case atStart => exact ⟨0, [], O, Nat.zero_le _, by simp, rfl, h0, ItInv.start hO⟩
  case round =>
    obtain ⟨t, ys, O2, ht, rfl, hyl, hJ2, hI2⟩ := hrel
    have hcB : wr.cell? ⟨Bs, 0, none⟩ = some (.slice A o.length c) := (World.cell?_of_block (hI2.keeps.block Bs (hF Bs (.inr rfl)) (.inr rfl))).trans hcW
    by_cases htl : t < o.length
    · obtain ⟨i, hi⟩ : ∃ i : Nat, i + t + 1 = o.length := ⟨o.length - 1 - t, by omega⟩
      have hil : i < o.length := by omega
      have e1 : (o.length : Int) - 1 - t = (i : Int) := by omega
      obtain ⟨b, off, rfl, hb, hcell⟩ := (hxW.keeps hI2.keeps (fun b hb => .inl hb)).rd (by omega)
      have hoi : o[i]? = some o[i] := by simp [hil]
      obtain ⟨x, hxe⟩ : ∃ x, x = o[i] := ⟨_, rfl⟩
      rw [← hxe] at hoi
      have hxm : x < m := by rw [hxe]; exact hom _ (List.getElem_mem hil)
      have hci := hcell i x hoi
      rw [e1]
      clear e1 hcell hxe
      obtain ⟨fn, tmps, assign, body, hy, hR⟩ := hY ys ⟨(i, x), hil, hxm⟩ O2 wr hJ2 ⟨by omega, by show i + ys.length + 1 = _; omega, hoi⟩
      have hi0 : (0 : Int) ≤ (i : Int) := Int.natCast_nonneg _
      have hi1 : (i : Int) < (o.length : Int) := by omega
      have HYL := Lib.hid hyl
      have HI := Lib.hid hi
      clear hyl hi
      gi_wp2
      refine hR.mono ?_
      rintro e W3 ⟨O3, hs3, (⟨rfl, hJ3⟩ | ⟨rfl, hJx3⟩)⟩
      · have hI3 := hI2.step hO hF hs3
        have e2 : (o.length : Int) - 1 - ((t + 1 : Nat) : Int) = (i : Int) - 1 := by have := HI.out; omega
        gi_wp2
        go_roundw
        case rel => exact ⟨t + 1, _, O3, by omega, by rw [e2], by rw [List.length_append, HYL.out]; simp, hJ3, hI3⟩
        case measure => first | (simp [intOf]; done) | (simp [intOf]; omega)
      · gi_wp2
        refine bodyPost_ret (results_none rfl _ _ _) rfl ?_
        exact ⟨⟨_, rfl⟩, .inr ⟨_, _, trivial, hJx3⟩⟩
    · obtain rfl : t = o.length := by omega
      have e1 : (o.length : Int) - 1 - (o.length : Int) = -1 := by omega
      rw [e1]
      gi_wp2
      first
        | go_end0
        | refine bodyPost_ret (results_none rfl _ _ _) rfl ?_
      exact ⟨⟨_, rfl⟩, .inl ⟨ys, O2, hyl, hJ2⟩⟩
end Go.Proofs.YtaboafkpmgadmaaDoor
