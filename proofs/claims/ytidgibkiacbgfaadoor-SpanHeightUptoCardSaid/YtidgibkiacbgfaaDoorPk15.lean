/-
  Contract of graph.union; slices.Backward over ints.
  The set of the nodes that follow a node: its bits; how it is made of the successors' sets. Plain lemmas.
  Contract of the reference's reach: which node leads to which, by Floyd and Warshall, for every graph in range.
  Contracts of the reference's BWrong and of graph.Wrong: the same answer, for every graph.
-/
import Derived.Test.YtidgibkiacbgfaaDoorPk14
import Derived.Test.YtidgibkiacbgfaaDoorPk10
import Derived.Test.YtidgibkiacbgfaaDoorPk13
import Derived.StillTailTactics
import Derived.BigRegion
namespace Go.Proofs.YtidgibkiacbgfaaDoor
open Go.RowKit Go.Shelf
set_option maxRecDepth 100000

attribute [local go_sem] Oper.semAt_some

/-- the union of those of the sets whose numbers L tells -/
def unionL (xss : List (List Nat)) (L : List Nat) : List Nat := L.foldl (fun a n => mrg orN a (st xss n)) []
theorem unionL_snoc (xss : List (List Nat)) (L : List Nat) (n : Nat) : unionL xss (L ++ [n]) = mrg orN (unionL xss L) (st xss n) := by unfold unionL; rw [List.foldl_append]; rfl
theorem unionL_len (xss : List (List Nat)) (L : List Nat) (h : ∀ n, n ∈ L → (st xss n).length ≤ 1024) : (unionL xss L).length ≤ 1024 := by
  have : ∀ (L : List Nat) (a : List Nat), a.length ≤ 1024 → (∀ n, n ∈ L → (st xss n).length ≤ 1024) → (L.foldl (fun a n => mrg orN a (st xss n)) a).length ≤ 1024 := by
    intro L
    induction L with
    | nil => intro a ha _; exact ha
    | cons x L ih =>
      intro a ha h
      refine ih _ ?_ fun n hn => h n (List.mem_cons_of_mem _ hn)
      dsimp only
      have := mrg_le orN a (st xss x)
      have := h x List.mem_cons_self
      omega
  exact this L [] (by simp) h
theorem unionL_ws (xss : List (List Nat)) (L : List Nat) (h : ∀ n, n ∈ L → Ws (st xss n)) : Ws (unionL xss L) := by
  have : ∀ (L : List Nat) (a : List Nat), Ws a → (∀ n, n ∈ L → Ws (st xss n)) → Ws (L.foldl (fun a n => mrg orN a (st xss n)) a) := by
    intro L
    induction L with
    | nil => intro a ha _; exact ha
    | cons x L ih =>
      intro a ha h
      exact ih _ (ws_or ha (h x List.mem_cons_self)) fun n hn => h n (List.mem_cons_of_mem _ hn)
  exact this L [] ws_nil h
theorem unionL_tb (xss : List (List Nat)) (L : List Nat) (k j : Nat) : tb (unionL xss L) k j = L.any fun n => tb (st xss n) k j := by
  have : ∀ (L : List Nat) (a : List Nat), tb (L.foldl (fun a n => mrg orN a (st xss n)) a) k j = (tb a k j || L.any fun n => tb (st xss n) k j) := by
    intro L
    induction L with
    | nil => intro a; simp
    | cons x L ih =>
      intro a
      show tb (L.foldl (fun a n => mrg orN a (st xss n)) (mrg orN a (st xss x))) k j = _
      rw [ih, tb_or, List.any_cons, Bool.or_assoc]
  have h := this L []
  rw [tb_nil, Bool.false_or] at h
  exact h
theorem unionL_noTail (xss : List (List Nat)) (L : List Nat) : NoTail (unionL xss L) := by
  rcases List.eq_nil_or_concat L with rfl | ⟨L', x, rfl⟩
  · exact .inl rfl
  · rw [List.concat_eq_append, unionL_snoc]; exact mrg_noTail _ _ _

theorem rdU_empty (w : World) (B : Nat) : RdU w B none [] := ⟨fun k => by simp [wd], by simp, fun h => by simp at h⟩

set_option maxHeartbeats 1000000 in
theorem union_any (A A2 : Option Addr) (c c2 m : Nat) (xss : List (List Nat)) (hl : xss.length = m) (xs : List Nat) (w : World) (hx : RdUU w w.heap.size A xss) (hs : RdU w w.heap.size A2 xs)
    (hbits : ∀ j, j ∈ mem xs → j < m) (hroom : ∀ k, k < m → (st xss k).length ≤ 1024) (hsl : xs.length ≤ 1024) (hT : Tab w) :
    Calls Tryd.prog 34 #[.slice A m c, .slice A2 xs.length c2] w fun e w' => ∃ A1 c1, e = .returned (.slice A1 (unionL xss (mem xs)).length c1) ∧ RdU w' w'.heap.size A1 (unionL xss (mem xs)) ∧ Below w.heap.size w w' := by
  go_enter Tryd.func34, Tryd.ntmps34
  go_wp2_with fail
  refine (list_any A2 c2 xs _ hs (by omega) hT).mono ?_
  rintro e w1 ⟨A3, c3, rfl, hr, hb1⟩
  rw [show alist xs (64 * xs.length) = toI (mem xs) from rfl] at hr ⊢
  obtain ⟨L, hL⟩ : ∃ L, L = mem xs := ⟨_, rfl⟩
  rw [← hL] at hr hbits ⊢
  have hLl := toI_len L
  have hml : L.length ≤ 65536 := by rw [hL]; exact mem_len xs hsl
  have HL := Lib.hid hL
  have HLl := Lib.hid hLl
  rw [hLl]
  clear hL hLl hs
  have hx1 := hx.step hb1
  clear hx
  go_wp2_with fail
  go_loopw [5, 11] (fun v i wr => ∃ (t : Nat) (A4 : Option Addr) (c4 : Nat), t ≤ L.length ∧ i = .int .i64 t ∧ v = .slice A4 (unionL xss (L.take t)).length c4 ∧ RdU wr wr.heap.size A4 (unionL xss (L.take t)) ∧ Below w1.heap.size w1 wr) (fun _ i _ => L.length - (intOf i).toNat)
  case atStart => exact ⟨0, none, 0, Nat.zero_le _, rfl, rfl, rdU_empty _ _, Below.refl _ _⟩
  case round =>
    obtain ⟨t, A4, c4, ht, rfl, rfl, hu, hbr⟩ := hrel
    by_cases htl : t < L.length
    · obtain ⟨y, hy1, hy2⟩ := zd_toI L t htl
      have hym : y < m := hbits y (by obtain ⟨h1, h2⟩ := List.getElem?_eq_some_iff.1 hy2; rw [← h2]; exact List.getElem_mem h1)
      obtain ⟨b, off, rfl, hb, hc⟩ := hr.rd (by rw [HLl.out]; omega)
      have hc1 := (hbr.cell (p := ⟨b, off + t, none⟩) hb).trans (hc t (by rw [HLl.out]; omega))
      dsimp only at hc1
      rw [hy1] at hc1
      obtain ⟨b2, off2, A5, c5, rfl, hb2, hc2, hs5⟩ := hx1.at_ (k := y) (by omega)
      have hc2' := (hbr.cell (p := ⟨b2, off2 + y, none⟩) hb2).trans hc2
      have hs6 := (hs5.below hbr).more hbr.size
      have hul : (unionL xss (L.take t)).length ≤ 1024 := unionL_len xss _ fun n hn => hroom n (hbits n (List.mem_of_mem_take hn))
      have hsl5 := hroom y hym
      have HT := Lib.hid (take_at L t y hy2)
      have hy0 : (0 : Int) ≤ (y : Int) := Int.natCast_nonneg _
      have hy3 : (y : Int) < (m : Int) := by omega
      clear hc hy1 hy2 hc2 hs5
      go_wp2_with fail
      refine (oporN_any A4 A5 c4 c5 _ _ _ hu hs6 (by omega) (by omega)).mono ?_
      rintro e w2 ⟨A6, c6, rfl, hr6, hb6⟩
      rw [← unionL_snoc, ← HT.out] at hr6 ⊢
      have hb7 := hbr.trans (hb6.mono hbr.size)
      clear hb6 hbr hu hs6
      go_wp2
      go_roundw
      case rel => exact ⟨t + 1, A6, c6, by omega, by go_num, rfl, hr6, hb7⟩
      case measure => simp [intOf]; omega
    · obtain rfl : t = L.length := by omega
      rw [List.take_length] at hu ⊢
      go_wp2
      go_ret
      refine ⟨A4, c4, ?_, ?_, hb1.trans (hbr.mono hb1.size)⟩
      · rw [← HL.out]; rfl
      · rw [← HL.out]; exact hu

/-- a slice of numbers whose block p names -/
structure RdNp (w : World) (p : Nat → Prop) (A : Option Addr) (o : List Nat) : Prop where
  room : o.length ≤ 1048576
  rd : 0 < o.length → ∃ b off, A = some ⟨b, off, none⟩ ∧ p b ∧ ∀ (k x : Nat), o[k]? = some x → w.cell? ⟨b, off + k, none⟩ = some (.int .i64 (x : Int))
theorem RdNp.keeps {w w' : World} {p q : Nat → Prop} {A : Option Addr} {o : List Nat} (h : RdNp w p A o) (hk : Keeps q w w') (hq : ∀ b, p b → q b) : RdNp w' p A o := ⟨h.room, fun hn => by
  obtain ⟨b, off, hA, hp, hc⟩ := h.rd hn
  have hlt : b < w.heap.size := World.block_lt_of_cell? w _ (hc 0 o[0] (by simp [hn]))
  exact ⟨b, off, hA, hp, fun k x hx => (World.cell?_of_block (hk.block b hlt (hq b hp))).trans (hc k x hx)⟩⟩
theorem own_rdNp {w : World} {base : Nat} {e : TypeId} {v : Value} {o : List Nat} (h : w.ownsRow base e 1 v (toI o).length (iVals (toI o))) (hr : o.length ≤ 1048576) : ∃ A c, v = .slice A o.length c ∧ RdNp w (fun b => base ≤ b ∧ b < w.heap.size) A o := by
  rw [toI_len] at h
  obtain ⟨A, c, rfl⟩ := own_any h
  refine ⟨A, c, rfl, hr, fun hn => ?_⟩
  obtain ⟨g, cap, hv, hb, hg⟩ := own_shape h hn
  injection hv with hA _ hc
  subst hA
  subst hc
  refine ⟨g, 0, rfl, ⟨hb, hg⟩, fun k x hx => ?_⟩
  obtain ⟨hk, hkx⟩ := List.getElem?_eq_some_iff.1 hx
  rw [Nat.zero_add, h.cellAt k (by omega), iVals_at _ _ (by rw [toI_len]; exact hk)]
  obtain ⟨y, hy1, hy2⟩ := zd_toI o k hk
  rw [hx] at hy2
  injection hy2 with hy2
  rw [hy1, hy2]

/-- a place and what stands there -/
abbrev Bk (L m : Nat) := { p : Nat × Nat // p.1 < L ∧ p.2 < m }

theorem backward_in (n : Nat) (a : Option Addr) (len cap : Nat) (w : World) :
    CallsIn Fence.wide n Tryd.prog 32 #[.slice a len cap] w fun e w' => e = .returned (.func (.func 43) #[] #[.pointer (some ⟨w.heap.size, 0, none⟩)]) ∧ w' = w.alloc (.cells #[.slice a len cap] 42) := by
  refine callsIn_of_wp Tryd.func32 rfl trivial ?_ rfl
  simp only [Tryd.ntmps32, List.size_toArray, List.length_cons, List.length_nil, Nat.reduceAdd, Nat.reduceSub, Array.replicate_succ, Array.replicate_zero, List.push_toArray, List.append_toArray, List.nil_append, List.cons_append]
  gi_wp2
  go_ret
  exact ⟨rfl, rfl⟩

set_option maxHeartbeats 1000000 in
theorem backward1_in (n : Nat) (hn : 2 ≤ n) (m Bs c : Nat) (p : Nat → Prop) (A : Option Addr) (o : List Nat) (hom : ∀ x, x ∈ o → x < m) (w : World) (hx : RdNp w p A o) (hpl : ∀ b, p b → b < w.heap.size)
    (hc : w.cell? ⟨Bs, 0, none⟩ = some (.slice A o.length c)) (hBs : Bs < w.heap.size) :
    SeqO Fence.wide n Tryd.prog 43 #[.pointer (some ⟨Bs, 0, none⟩)] (fun x : Bk o.length m => #[Value.int .i64 (x.1.1 : Int), .int .i64 (x.1.2 : Int)]) (fun b => p b ∨ b = Bs)
      (fun ys => ys.length = o.length) (fun _ => True) (fun pre x => pre.length < o.length ∧ x.1.1 + pre.length + 1 = o.length ∧ o[x.1.1]? = some x.1.2) w := by
  have h1 : 1 ≤ n := by omega
  intro l J Jx O W hkW hO hJ hJx hY h0
  have hF : ∀ k, (p k ∨ k = Bs) → k < W.heap.size := fun k hk => by
    have := hkW.size
    rcases hk with hk | hk
    · have := hpl k hk; omega
    · omega
  have hcW : W.cell? ⟨Bs, 0, none⟩ = some (.slice A o.length c) := (World.cell?_of_block (hkW.block Bs hBs (.inr rfl))).trans hc
  have hxW := hx.keeps hkW (fun b hb => .inl hb)
  have hroom := hx.room
  clear hx hc hkW
  refine callsIn_of_wp Tryd.func43 rfl trivial ?_ rfl
  simp only [Tryd.ntmps43, List.size_toArray, List.length_cons, List.length_nil, Nat.reduceAdd, Nat.reduceSub, Array.replicate_succ, Array.replicate_zero, List.push_toArray, List.append_toArray, List.nil_append, List.cons_append]
  gi_wp2
  gi_loopw [3] (fun i wr => ∃ (t : Nat) (ys : List (Bk o.length m)) (O2 : Nat → Prop), t ≤ o.length ∧ i = .int .i64 ((o.length : Int) - 1 - t) ∧ ys.length = t ∧ J ys O2 wr ∧ ItInv (fun b => p b ∨ b = Bs) O W O2 wr) (fun i _ => (intOf i + 1).toNat)
  case atStart => exact ⟨0, [], O, Nat.zero_le _, by simp, rfl, h0, ItInv.start hO⟩
  case round =>
    obtain ⟨t, ys, O2, ht, rfl, hyl, hJ2, hI2⟩ := hrel
    have hcB : wr.cell? ⟨Bs, 0, none⟩ = some (.slice A o.length c) := (World.cell?_of_block (hI2.keeps.block Bs (hF Bs (.inr rfl)) (.inr rfl))).trans hcW
    by_cases htl : t < o.length
    · obtain ⟨i, hi⟩ : ∃ i : Nat, i + t + 1 = o.length := ⟨o.length - 1 - t, by omega⟩
      have hil : i < o.length := by omega
      have e1 : (o.length : Int) - 1 - t = (i : Int) := by omega
      obtain ⟨b, off, rfl, hb, hcell⟩ := (hxW.keeps hI2.keeps (fun b hb => .inl hb)).rd (by omega)
      have hoi : o[i]? = some o[i] := by simp [hil]
      obtain ⟨x, hxe⟩ : ∃ x, x = o[i] := ⟨_, rfl⟩
      rw [← hxe] at hoi
      have hxm : x < m := by rw [hxe]; exact hom _ (List.getElem_mem hil)
      have hci := hcell i x hoi
      rw [e1]
      clear e1 hcell hxe
      obtain ⟨fn, tmps, assign, body, hy, hR⟩ := hY ys ⟨(i, x), hil, hxm⟩ O2 wr hJ2 ⟨by omega, by show i + ys.length + 1 = _; omega, hoi⟩
      have hi0 : (0 : Int) ≤ (i : Int) := Int.natCast_nonneg _
      have hi1 : (i : Int) < (o.length : Int) := by omega
      have HYL := Lib.hid hyl
      have HI := Lib.hid hi
      clear hyl hi
      gi_wp2
      refine hR.mono ?_
      rintro e W3 ⟨O3, hs3, (⟨rfl, hJ3⟩ | ⟨rfl, hJx3⟩)⟩
      · have hI3 := hI2.step hO hF hs3
        have e2 : (o.length : Int) - 1 - ((t + 1 : Nat) : Int) = (i : Int) - 1 := by have := HI.out; omega
        gi_wp2
        go_roundw
        case rel => exact ⟨t + 1, _, O3, by omega, by rw [e2], by rw [List.length_append, HYL.out]; simp, hJ3, hI3⟩
        case measure => first | (simp [intOf]; done) | (simp [intOf]; omega)
      · gi_wp2
        refine bodyPost_ret (results_none rfl _ _ _) rfl ?_
        exact ⟨⟨_, rfl⟩, .inr ⟨_, _, trivial, hJx3⟩⟩
    · obtain rfl : t = o.length := by omega
      have e1 : (o.length : Int) - 1 - (o.length : Int) = -1 := by omega
      rw [e1]
      gi_wp2
      first
        | go_end0
        | refine bodyPost_ret (results_none rfl _ _ _) rfl ?_
      exact ⟨⟨_, rfl⟩, .inl ⟨ys, O2, hyl, hJ2⟩⟩
end Go.Proofs.YtidgibkiacbgfaaDoor

namespace Go.Proofs.YtidgibkiacbgfaaDoor

/-- the set of the nodes that follow n -/
def beh (m : Nat) (es : List (Int × Int)) (n : Nat) : List Nat := ofS (toI ((List.range m).filter (fw (gR es) m n)))
theorem mem_toI (L : List Nat) (n : Nat) : (n : Int) ∈ toI L ↔ n ∈ L := by
  unfold toI
  rw [List.mem_map]
  constructor
  · rintro ⟨k, hk, e⟩
    have : k = n := by omega
    exact this ▸ hk
  · intro h
    exact ⟨n, h, rfl⟩
theorem fw_lt {m : Nat} {es : List (Int × Int)} (h : inR m es = true) {i j : Nat} (hf : fw (gR es) m i j = true) : i < m ∧ j < m := by
  have p := (fw_iff (gR_lt h) i j).1 hf
  exact ⟨p.lt1 (gR_lt h), p.lt2 (gR_lt h)⟩
theorem beh_bit {m : Nat} {es : List (Int × Int)} (h : inR m es = true) (n j : Nat) : bitB (beh m es n) j = fw (gR es) m n j := by
  unfold beh
  rw [ofS_bit, Bool.eq_iff_iff, decide_eq_true_iff, mem_alw, mem_toI, List.mem_filter, List.mem_range]
  constructor
  · exact fun hh => hh.1.2
  · intro hh
    have h1 := fw_lt h hh
    have h2 := okN_of h
    exact ⟨⟨h1.2, hh⟩, by omega⟩
theorem beh_len (m : Nat) (es : List (Int × Int)) (n : Nat) : (beh m es n).length ≤ 1024 := ofS_len _
theorem beh_ws (m : Nat) (es : List (Int × Int)) (n : Nat) : Ws (beh m es n) := ofS_wd _
theorem beh_noTail (m : Nat) (es : List (Int × Int)) (n : Nat) : NoTail (beh m es n) := ofS_noTail _
theorem tb_bit (xs : List Nat) (k j : Nat) (hj : j < 64) : tb xs k j = bitB xs (64 * k + j) := by
  rw [bitB_tb, show (64 * k + j) / 64 = k by omega, show (64 * k + j) % 64 = j by omega]
theorem eq_of_bitB {xs ys : List Nat} (hx : NoTail xs) (hy : NoTail ys) (lx : Ws xs) (ly : Ws ys) (h : ∀ n, bitB xs n = bitB ys n) : xs = ys :=
  same_sets hx hy lx ly fun k j hj => by rw [tb_bit _ _ _ hj, tb_bit _ _ _ hj, h]
theorem or_bit (xs ys : List Nat) (n : Nat) : bitB (mrg orN xs ys) n = (bitB xs n || bitB ys n) := by rw [bitB_tb, bitB_tb, bitB_tb, tb_or]
theorem less_bit (xs ys : List Nat) (hy : Ws ys) (n : Nat) : bitB (mrg lessN xs ys) n = (bitB xs n && !bitB ys n) := by rw [bitB_tb, bitB_tb, bitB_tb, tb_less _ _ hy _ _ (by omega)]
theorem union_bit (xss : List (List Nat)) (L : List Nat) (n : Nat) : bitB (unionL xss L) n = L.any fun x => bitB (st xss x) n := by
  rw [bitB_tb, unionL_tb]; rfl
theorem nxt_ws (es : List (Int × Int)) (n : Nat) : Ws (nxt es n) := ofS_wd _
theorem fw_next {m : Nat} {es : List (Int × Int)} (h : inR m es = true) (n j : Nat) : fw (gR es) m n j = true ↔ gR es n j = true ∨ ∃ c, gR es n c = true ∧ fw (gR es) m c j = true := by
  rw [fw_iff (gR_lt h)]
  constructor
  · intro p
    cases p with
    | one e => exact .inl e
    | step e p => exact .inr ⟨_, e, (fw_iff (gR_lt h) _ _).2 p⟩
  · rintro (e | ⟨c, e, hf⟩)
    · exact .one e
    · exact .step e ((fw_iff (gR_lt h) _ _).1 hf)
/-- what follows n: its successors, and what follows these -/
theorem beh_step {m : Nat} {es : List (Int × Int)} (h : inR m es = true) (n : Nat) (xss : List (List Nat)) (hx : ∀ c, gR es n c = true → st xss c = beh m es c) :
    mrg orN (nxt es n) (unionL xss (mem (nxt es n))) = beh m es n := by
  have hm : ∀ c, c ∈ mem (nxt es n) ↔ gR es n c = true := fun c => by rw [mem_iff, nxt_bit h]
  have hws : Ws (unionL xss (mem (nxt es n))) := unionL_ws _ _ fun c hc => by rw [hx c ((hm c).1 hc)]; exact beh_ws _ _ _
  refine eq_of_bitB (mrg_noTail _ _ _) (beh_noTail _ _ _) (ws_or (nxt_ws _ _) hws) (beh_ws _ _ _) fun j => ?_
  rw [or_bit, nxt_bit h, union_bit, beh_bit h, Bool.eq_iff_iff, fw_next h, Bool.or_eq_true, List.any_eq_true]
  constructor
  · rintro (e | ⟨c, hc, e⟩)
    · exact .inl e
    · rw [hx c ((hm c).1 hc), beh_bit h] at e
      exact .inr ⟨c, (hm c).1 hc, e⟩
  · rintro (e | ⟨c, hc, e⟩)
    · exact .inl e
    · refine .inr ⟨c, (hm c).2 hc, ?_⟩
      rw [hx c hc, beh_bit h]
      exact e
/-- the successors of the node at place i of the order stand behind it -/
theorem succ_behind {m : Nat} {es : List (Int × Int)} (h : inR m es = true) {o : List Nat} (hg : Good (gR es) m o) (hl : o.length = m) {i n c : Nat} (hi : o[i]? = some n) (hR : gR es n c = true) : c ∈ o.drop (i + 1) := by
  have hb := gR_lt h n c hR
  have hc : c ∈ o := hg.all (by omega) hb.2
  obtain ⟨k, hk, e⟩ := List.getElem_of_mem hc
  have hp := hg.pre k c (by rw [List.getElem?_eq_getElem hk, e]) n hb.1 hR
  obtain ⟨i', hi', e'⟩ := List.getElem_of_mem hp
  rw [List.getElem_take] at e'
  have hi2 : i' < k := by simp at hi'; omega
  obtain ⟨hil, hie⟩ := List.getElem?_eq_some_iff.1 hi
  have : i' = i := by
    false_or_by_contra
    rename_i hne
    have hnd := List.pairwise_iff_getElem.1 hg.nodup
    rcases Nat.lt_or_ge i' i with h1 | h1
    · exact hnd i' i (by omega) hil h1 (e'.trans hie.symm)
    · exact hnd i i' hil (by omega) (by omega) (hie.trans e'.symm)
  subst this
  rw [List.mem_iff_getElem]
  exact ⟨k - (i' + 1), by simp; omega, by rw [List.getElem_drop]; rw [← e]; congr 1; omega⟩
theorem drop_step {o : List Nat} {i n : Nat} (hi : o[i]? = some n) (x : Nat) : x ∈ o.drop i ↔ x = n ∨ x ∈ o.drop (i + 1) := by
  obtain ⟨hil, hie⟩ := List.getElem?_eq_some_iff.1 hi
  rw [List.drop_eq_getElem_cons hil, List.mem_cons, hie]
end Go.Proofs.YtidgibkiacbgfaaDoor

namespace Go.Proofs.YtidgibkiacbgfaaDoor
open Go.RowKit
set_option maxRecDepth 100000

theorem Tryd.infoSB : (Tryd.prog.info? 75).map (fun i => (i.zero, i.size, i.bytes)) = some (some (.slice none 0 0), 1, 24) := by kernel_rfl
theorem Tryd.infoB : (Tryd.prog.info? 4).map (fun i => (i.zero, i.size, i.bytes)) = some (some (.bool false), 1, 1) := by kernel_rfl

/-- a matrix of bools: block g holds the rows, row i lies in block g + 1 + i -/
structure BM (T E : TypeId) (w : World) (g m : Nat) (b : Nat → Nat → Bool) : Prop where
  row : w.rowIs g T m (fun i => .slice (some ⟨g + 1 + i, 0, none⟩) m m)
  el : ∀ i, i < m → w.rowIs (g + 1 + i) E m (fun j => .bool (b i j))
theorem BM.alloc {T E : TypeId} {w : World} {g m : Nat} {b : Nat → Nat → Bool} (h : BM T E w g m b) (o : Obj) : BM T E (w.alloc o) g m b := ⟨h.row.alloc o, fun i hi => (h.el i hi).alloc o⟩
theorem BM.drew {T E : TypeId} {w : World} {g m : Nat} {b : Nat → Nat → Bool} (h : BM T E w g m b) : BM T E w.drew g m b := ⟨h.row.drew, fun i hi => (h.el i hi).drew⟩
theorem BM.step {T E : TypeId} {w w' : World} {g m : Nat} {b : Nat → Nat → Bool} (h : BM T E w g m b) (hb : Below w.heap.size w w') : BM T E w' g m b := ⟨rowIs_step h.row hb, fun i hi => rowIs_step (h.el i hi) hb⟩
theorem BM.congr {T E : TypeId} {w : World} {g m : Nat} {b b' : Nat → Nat → Bool} (h : BM T E w g m b) (hb : ∀ i j, i < m → j < m → b i j = b' i j) : BM T E w g m b' := ⟨h.row, fun i hi => (h.el i hi).congr fun j hj => by rw [hb i j hi hj]⟩
theorem BM.set {T E : TypeId} {w : World} {g m : Nat} {b : Nat → Nat → Bool} (h : BM T E w g m b) (i j : Nat) (v : Bool) : BM T E (w.setCell ⟨g + 1 + i, j, none⟩ (.bool v)) g m (fun x y => if x = i ∧ y = j then v else b x y) := by
  refine ⟨h.row.setOther (by simp; omega) _, fun x hx => ?_⟩
  by_cases e : x = i
  · subst e
    refine ((h.el x hx).set j (.bool v)).congr fun y hy => ?_
    by_cases e2 : y = j <;> simp [e2]
  · refine ((h.el x hx).setOther (by simp; omega) _).congr fun y hy => ?_
    simp [e]
theorem BM.c1 {T E : TypeId} {w : World} {g m : Nat} {b : Nat → Nat → Bool} (h : BM T E w g m b) {i : Nat} (hi : i < m) : w.cell? ⟨g, i, none⟩ = some (.slice (some ⟨g + 1 + i, 0, none⟩) m m) := h.row.cell hi
theorem BM.c2 {T E : TypeId} {w : World} {g m : Nat} {b : Nat → Nat → Bool} (h : BM T E w g m b) {i j : Nat} (hi : i < m) (hj : j < m) : w.cell? ⟨g + 1 + i, j, none⟩ = some (.bool (b i j)) := (h.el i hi).cell hj
theorem BM.f2 {T E : TypeId} {w : World} {g m : Nat} {b : Nat → Nat → Bool} (h : BM T E w g m b) {i : Nat} (hi : i < m) (j : Nat) : w.frozen? ⟨g + 1 + i, j, none⟩ = false := (h.el i hi).frozen j
theorem BM.lt {T E : TypeId} {w : World} {g m : Nat} {b : Nat → Nat → Bool} (h : BM T E w g m b) {i : Nat} (hi : i < m) : g + 1 + i < w.heap.size := (h.el i hi).lt

/-- the rows made so far -/
structure BM0 (T E : TypeId) (w : World) (g m k : Nat) : Prop where
  row : w.rowIs g T m (fun i => if i < k then .slice (some ⟨g + 1 + i, 0, none⟩) m m else .slice none 0 0)
  el : ∀ i, i < k → w.rowIs (g + 1 + i) E m (fun _ => .bool false)
  size : w.heap.size = g + 1 + k
theorem BM0.step {T E : TypeId} {w : World} {g m k : Nat} (h : BM0 T E w g m k) : BM0 T E ((w.setCell ⟨g, k, none⟩ (.slice (some ⟨w.heap.size, 0, none⟩) m m)).alloc (.cells (madeCells #[.bool false] m) E)) g m (k + 1) := by
  have hs := h.size
  refine ⟨((h.row.set k _).alloc _).congr fun i hi => ?_, fun i hi => ?_, by simp; omega⟩
  · by_cases e : i = k
    · subst e; rw [if_pos rfl, if_pos (by omega), hs]
    · rw [if_neg e]
      by_cases e2 : i < k
      · rw [if_pos e2, if_pos (by omega)]
      · rw [if_neg e2, if_neg (by omega)]
  · by_cases e : i = k
    · subst e
      have := World.rowIs_made (w.setCell ⟨g, i, none⟩ (.slice (some ⟨w.heap.size, 0, none⟩) m m)) (.bool false) m E
      rw [World.size_setCell, hs] at this
      rw [hs]
      exact this
    · exact ((h.el i (by omega)).setOther (by simp; omega) _).alloc _

theorem BM.fw {T E : TypeId} {w : World} {g m i1 j1 : Nat} {F0 F1 : Nat → Nat → Bool} (h : BM T E w g m (fun x y => if x < i1 ∨ (x = i1 ∧ y < j1) then F1 x y else F0 x y)) {v : Bool} (hv : F1 i1 j1 = v) :
    BM T E (w.setCell ⟨g + 1 + i1, j1, none⟩ (.bool v)).drew g m (fun x y => if x < i1 ∨ (x = i1 ∧ y < j1 + 1) then F1 x y else F0 x y) := (h.set i1 j1 v).drew.congr fun x y _ _ => by
  by_cases e : x = i1 ∧ y = j1
  · obtain ⟨rfl, rfl⟩ := e
    rw [if_pos ⟨rfl, rfl⟩, if_pos (by omega), hv]
  · rw [if_neg e]
    by_cases e2 : x < i1 ∨ (x = i1 ∧ y < j1)
    · rw [if_pos e2, if_pos (by omega)]
    · rw [if_neg e2, if_neg (by omega)]

end Go.Proofs.YtidgibkiacbgfaaDoor

namespace Go.Proofs.YtidgibkiacbgfaaDoor
open Go.RowKit Go.Shelf
set_option maxRecDepth 100000

/-- what is wrong with a graph -/
def errn (N : Int) (es : List (Int × Int)) : Int := if inR N es = true then (if (ordr N.toNat es).length < N.toNat then 3 else 0) else 2
theorem errn_no {N : Int} {es : List (Int × Int)} (h : inR N es = false) : errn N es = 2 := by unfold errn; rw [h]; rfl
theorem errn_loop {m : Nat} {es : List (Int × Int)} (h : inR m es = true) (hl : (ordr m es).length < m) : errn m es = 3 := by unfold errn; rw [h, if_pos rfl, Int.toNat_natCast, if_pos hl]
theorem errn_ok {m : Nat} {es : List (Int × Int)} (h : inR m es = true) (hl : (ordr m es).length = m) : errn m es = 0 := by unfold errn; rw [h, if_pos rfl, Int.toNat_natCast, if_neg (by omega)]
theorem ordr_le (m : Nat) (es : List (Int × Int)) : (ordr m es).length ≤ m := (good_topoN _ _ _).len
theorem loop_iff {m : Nat} {es : List (Int × Int)} (h : inR m es = true) : (ordr m es).length < m ↔ ∃ x, x < m ∧ fw (gR es) m x x = true := by
  have h1 := topo_iff (gR_lt h)
  have h2 := ordr_le m es
  have h3 : (ordr m es).length = m ↔ ∀ x, ¬ Path (gR es) x x := h1
  constructor
  · intro hl
    false_or_by_contra
    rename_i hc
    have : (ordr m es).length = m := h3.2 fun x p => hc ⟨x, p.lt1 (gR_lt h), (fw_iff (gR_lt h) x x).2 p⟩
    omega
  · rintro ⟨x, hx, hf⟩
    rcases Nat.lt_or_ge (ordr m es).length m with h4 | h4
    · exact h4
    · exact absurd ((fw_iff (gR_lt h) x x).1 hf) (h3.1 (by omega) x)

theorem errno_any (A : Option Addr) (c : Nat) (N : Int) (es : List (Int × Int)) (w : World) (he : RdE w w.heap.size A es) (hT : Tab w) :
    Calls Tryd.prog 30 #[.agg #[.int .i64 N, .slice A es.length c]] w fun e w' => ∃ v, e = .returned (.tuple #[v, .int .i64 (errn N es)]) ∧ Below w.heap.size w w' := by
  cases hin : inR N es with
  | false => exact (sort_no A c N es w he hin).mono fun e w' ⟨h1, h2⟩ => ⟨.slice none 0 0, by rw [h1, errn_no hin], h2⟩
  | true =>
    have hm := okN_of hin
    obtain ⟨m, rfl⟩ : ∃ m : Nat, N = (m : Int) := ⟨N.toNat, by omega⟩
    refine (callsIn_wide.1 (sort_in 12 (Nat.le_refl _) A c m es w he hin hT)).mono ?_
    rintro e w' ⟨(⟨hl, v, rfl, _⟩ | ⟨hl, rfl⟩), hb⟩
    · exact ⟨v, by rw [errn_ok hin hl], hb⟩
    · exact ⟨.slice none 0 0, by rw [errn_loop hin hl], hb⟩
end Go.Proofs.YtidgibkiacbgfaaDoor
