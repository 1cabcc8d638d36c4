/-
  The iterator graph.edges: the edges from each node to those of its set, sorted, for every loop body that owns what it writes.
-/
import Derived.Test.YtaboafkpmgadmaaDoorGrB
import Derived.Test.YtaboafkpmgadmaaDoorItO
namespace Go.Proofs.YtaboafkpmgadmaaDoor
open Go.RowKit Go.Shelf
set_option maxRecDepth 100000

attribute [local go_sem] Oper.semAt_some

/-- an edge of a graph of n nodes -/
abbrev Ed (n : Nat) := { p : Nat × Nat // p.1 < n ∧ p.2 < n }
def edVals {n : Nat} (l : List (Ed n)) : List (Nat × Nat) := l.map Subtype.val
theorem edVals_snoc {n : Nat} (l : List (Ed n)) (x : Ed n) : edVals (l ++ [x]) = edVals l ++ [x.1] := by simp [edVals]
theorem edVals_len {n : Nat} (l : List (Ed n)) : (edVals l).length = l.length := by simp [edVals]

/-- the numbers of a set -/
def mem (xs : List Nat) : List Nat := nums xs (64 * xs.length)
/-- the edges from the first k nodes -/
def elist (xss : List (List Nat)) (k : Nat) : List (Nat × Nat) := (List.range k).flatMap fun i => (mem (st xss i)).map fun j => (i, j)
theorem elist_succ (xss : List (List Nat)) (k : Nat) : elist xss (k + 1) = elist xss k ++ (mem (st xss k)).map fun j => (k, j) := by
  unfold elist; rw [List.range_succ, List.flatMap_append]; simp

theorem edges_in (n : Nat) (a : Option Addr) (len cap : Nat) (w : World) :
    CallsIn Fence.wide n Tryd.prog 100 #[.slice a len cap] w fun e w' => e = .returned (.func (.func 116) #[] #[.pointer (some ⟨w.heap.size, 0, none⟩)]) ∧ w' = w.alloc (.cells #[.slice a len cap] 29) := by
  refine callsIn_of_wp Tryd.func100 rfl trivial ?_ rfl
  simp only [Tryd.ntmps100, List.size_toArray, List.length_cons, List.length_nil, Nat.reduceAdd, Nat.reduceSub, Array.replicate_succ, Array.replicate_zero, List.push_toArray, List.append_toArray, List.nil_append, List.cons_append]
  gi_wp2
  go_ret
  exact ⟨rfl, rfl⟩

/-- where an iterator that was entered in W stands: what it reads lies as it lay; what the body owns is the body's or new -/
structure ItInv (Fp O : Nat → Prop) (W : World) (O2 : Nat → Prop) (wr : World) : Prop where
  keeps : Keeps Fp W wr
  own : ∀ b, O2 b → O b ∨ W.heap.size ≤ b
  top : ∀ b, O2 b → b < wr.heap.size
theorem ItInv.start {Fp O : Nat → Prop} {W : World} (h : ∀ k, O k → k < W.heap.size ∧ ¬ Fp k) : ItInv Fp O W O W := ⟨Keeps.refl _ _, fun _ h => .inl h, fun k hk => (h k hk).1⟩
theorem ItInv.not {Fp O O2 : Nat → Prop} {W wr : World} (h : ItInv Fp O W O2 wr) (hO : ∀ k, O k → k < W.heap.size ∧ ¬ Fp k) (hF : ∀ k, Fp k → k < W.heap.size) {b : Nat} (hb : Fp b) : ¬ O2 b := fun h2 => by
  rcases h.own b h2 with h3 | h3
  · exact (hO b h3).2 hb
  · have := hF b hb; omega
theorem ItInv.step {Fp O O2 O3 : Nat → Prop} {W wr W' : World} (h : ItInv Fp O W O2 wr) (hO : ∀ k, O k → k < W.heap.size ∧ ¬ Fp k) (hF : ∀ k, Fp k → k < W.heap.size) (hs : StepO O2 O3 wr W') : ItInv Fp O W O3 W' :=
  ⟨h.keeps.trans (hs.keeps.mono fun k _ hk => h.not hO hF hk), fun b hb => by
    rcases hs.own b hb with h3 | h3
    · exact h.own b h3
    · exact .inr (Nat.le_trans h.keeps.size h3), hs.top⟩
theorem ItInv.below {Fp O O2 : Nat → Prop} {W wr W' : World} (h : ItInv Fp O W O2 wr) (hb : Below wr.heap.size wr W') : ItInv Fp O W O2 W' :=
  ⟨h.keeps.trans (Keeps.of_below hb fun _ hk _ => hk), h.own, fun b hb' => Nat.lt_of_lt_of_le (h.top b hb') hb.size⟩
theorem stable_below {β : Type} {B : Nat} {J : β → (Nat → Prop) → World → Prop} (hJ : Stable B J) {s : β} {O2 : Nat → Prop} {wr W' : World} (h : J s O2 wr) (hb : Below wr.heap.size wr W') : J s O2 W' :=
  hJ s O2 wr W' h (Keeps.of_below hb fun _ hk _ => hk)

theorem Tab.keeps {p : Nat → Prop} {w w' : World} (h : Tab w) (hk : Keeps p w w') (hp : p 0) : Tab w' := fun j hj => (World.cell?_of_block (hk.block _ h.pos hp)).trans (h j hj)
theorem mem_len (xs : List Nat) (h : xs.length ≤ 1024) : (mem xs).length ≤ 65536 := by
  have := nums_len xs (64 * xs.length)
  unfold mem
  omega
theorem elist_len (xss : List (List Nat)) (m : Nat) (h : ∀ k, k < m → (st xss k).length ≤ 1024) (k : Nat) (hk : k ≤ m) : (elist xss k).length ≤ k * 65536 := by
  induction k with
  | zero => simp [elist]
  | succ k ih =>
    rw [elist_succ, List.length_append, List.length_map]
    have h1 := ih (by omega)
    have h2 := mem_len _ (h k (by omega))
    omega
theorem mem_bit {xs : List Nat} {j : Nat} (h : j ∈ mem xs) : bitB xs j = true := by
  unfold mem nums at h; exact (List.mem_filter.1 h).2

theorem list_own (n : Nat) (hn : 3 ≤ n) (A : Option Addr) (c : Nat) (xs : List Nat) (w : World) (hx : RdU w w.heap.size A xs) (hroom : xs.length ≤ 1048576) (hT : Tab w) :
    CallsIn Fence.wide n Tryd.prog 27 #[.slice A xs.length c] w fun e w' => ∃ A1 c1, e = .returned (.slice A1 (mem xs).length c1) ∧ w'.ownsRow w.heap.size 3 1 (.slice A1 (mem xs).length c1) (mem xs).length (iVals (toI (mem xs))) ∧ Below w.heap.size w w' :=
  (list_in n hn A c xs w hx hroom hT).mono fun e w' ⟨v, he, hown, hb⟩ => by
    have e1 : alist xs (64 * xs.length) = toI (mem xs) := rfl
    rw [e1, toI_len] at hown
    obtain ⟨A1, c1, rfl⟩ := own_any hown
    exact ⟨A1, c1, he, hown, hb⟩
theorem zd_toI (L : List Nat) (t : Nat) (h : t < L.length) : ∃ x : Nat, zd (toI L) t = (x : Int) ∧ L[t]? = some x := ⟨L[t], by unfold zd toI; simp [List.getD, h], by simp [h]⟩
theorem take_at (L : List Nat) (t x : Nat) (h : L[t]? = some x) : L.take (t + 1) = L.take t ++ [x] := by
  obtain ⟨h1, h2⟩ := List.getElem?_eq_some_iff.1 h
  rw [List.take_succ_eq_append_getElem h1, h2]

set_option maxHeartbeats 2000000 in
theorem edges1_in (n : Nat) (hn : 4 ≤ n) (m : Nat) (hm : m ≤ 200) (Bs c : Nat) (p : Nat → Prop) (A : Option Addr) (xss : List (List Nat)) (hl : xss.length = m) (w : World) (hx : RdUUp w p A xss) (hpl : ∀ b, p b → b < w.heap.size)
    (hc : w.cell? ⟨Bs, 0, none⟩ = some (.slice A m c)) (hBs : Bs < w.heap.size) (hbits : ∀ k, k < m → ∀ j, bitB (st xss k) j = true → j < m) (hroom : ∀ k, k < m → (st xss k).length ≤ 1024) (hT : Tab w) :
    SeqO Fence.wide n Tryd.prog 116 #[.pointer (some ⟨Bs, 0, none⟩)] (fun x : Ed m => #[Value.agg #[.int .i64 (x.1.1 : Int), .int .i64 (x.1.2 : Int)]]) (fun b => p b ∨ b = Bs ∨ b = 0)
      (fun ys => edVals ys = elist xss m) (fun _ => True) (fun pre _ => pre.length < m * 65536) w := by
  have h1 : 1 ≤ n := by omega
  intro l J Jx O W hkW hO hJ hJx hY h0
  have hTp := hT.pos
  have hF : ∀ k, (p k ∨ k = Bs ∨ k = 0) → k < W.heap.size := fun k hk => by
    have := hkW.size
    rcases hk with hk | hk | hk
    · have := hpl k hk; omega
    · omega
    · omega
  have hcW : W.cell? ⟨Bs, 0, none⟩ = some (.slice A m c) := (World.cell?_of_block (hkW.block Bs hBs (.inr (.inl rfl)))).trans hc
  have hxW := hx.keeps hkW (fun b hb => .inl hb)
  have hTW := hT.keeps hkW (.inr (.inr rfl))
  clear hx hc hT hkW
  refine callsIn_of_wp Tryd.func116 rfl trivial ?_ rfl
  simp only [Tryd.ntmps116, List.size_toArray, List.length_cons, List.length_nil, Nat.reduceAdd, Nat.reduceSub, Array.replicate_succ, Array.replicate_zero, List.push_toArray, List.append_toArray, List.nil_append, List.cons_append]
  gi_wp2
  have HL := Lib.hid hl
  clear hl hcW
  gi_loopw [9] (fun i wr => ∃ k : Nat, k ≤ m ∧ i = .int .i64 k ∧ ∃ ys O2, Hid (edVals ys = elist xss k) ∧ J ys O2 wr ∧ ItInv (fun b => p b ∨ b = Bs ∨ b = 0) O W O2 wr) (fun i _ => m - (intOf i).toNat)
  case atStart => exact ⟨0, Nat.zero_le _, rfl, [], O, Lib.hid rfl, h0, ItInv.start hO⟩
  case round =>
    obtain ⟨k, hk, rfl, ys, O2, hys, hJ2, hI2⟩ := hrel
    by_cases hlt : k < m
    · obtain ⟨b, off, A2, c2, rfl, hb, hcr, hs⟩ := (hxW.keeps hI2.keeps (fun b hb => .inl hb)).at_ (k := k) (by rw [HL.out]; exact hlt)
      have hsr : RdU wr wr.heap.size A2 (st xss k) := hs.toU
      have hTr := hTW.keeps hI2.keeps (.inr (.inr rfl))
      clear hs
      have hbk := fun j hj => hbits k hlt j (mem_bit hj)
      have hmlen := mem_len _ (hroom k hlt)
      have helen := elist_len xss m hroom k hk
      gi_wp2_with (refine ⟨trivial, ?_⟩; refine (list_own (n - 1) (by omega) _ _ _ _ hsr (Nat.le_trans (hroom k hlt) (by omega)) hTr).mono ?_; rintro e wl ⟨A3, c3, rfl, hown, hbl⟩)
      gi_wp2
      obtain ⟨L, hL⟩ : ∃ L, L = mem (st xss k) := ⟨_, rfl⟩
      rw [← hL] at hbk hmlen hown ⊢
      have hJl := stable_below hJ hJ2 hbl
      have hIl := hI2.below hbl
      have hgl : ∀ g, (Value.slice A3 L.length c3).ownBlock = some g → g < wl.heap.size ∧ ¬ O2 g := fun g hg => by
        rcases hown.2 with ⟨h0, _⟩ | ⟨g', cap, cur, h0, hb0, hh, _⟩
        · rw [h0] at hg; simp [Value.ownBlock] at hg
        · rw [h0] at hg
          obtain rfl : g' = g := by simpa [Value.ownBlock] using hg
          exact ⟨(Array.getElem?_eq_some_iff.1 hh).1, fun ho => by have := hI2.top g' ho; omega⟩
      have HLm := Lib.hid hL
      have hysl : Hid (ys.length = (elist xss k).length) := Lib.hid (by have := edVals_len ys; rw [hys.out] at this; exact this.symm)
      clear hcr hsr hTr hL hJ2 hI2 hbl
      gi_loopw [17] (fun i wr2 => ∃ t : Nat, t ≤ L.length ∧ i = .int .i64 t ∧ ∃ ys2 O3, Hid (edVals ys2 = elist xss k ++ (L.take t).map fun j => (k, j)) ∧ J ys2 O3 wr2 ∧ ItInv (fun b => p b ∨ b = Bs ∨ b = 0) O W O3 wr2 ∧
          (∀ g, (Value.slice A3 L.length c3).ownBlock = some g → wr2.heap[g]? = wl.heap[g]? ∧ g < wr2.heap.size ∧ ¬ O3 g)) (fun i _ => L.length - (intOf i).toNat)
      case atStart => exact ⟨0, Nat.zero_le _, rfl, ys, O2, Lib.hid (by rw [hys.out]; simp), hJl, hIl, fun g hg => ⟨rfl, hgl g hg⟩⟩
      case round =>
        clear hJl hIl hgl
        obtain ⟨t, ht, rfl, ys2, O3, hys2, hJ3, hI3, hg3⟩ := hrel
        by_cases htl : t < L.length
        · obtain ⟨g, cap, hA3, _, _⟩ := own_shape hown (by omega)
          obtain ⟨hgs, hgt, hgo⟩ := hg3 g (by rw [hA3]; rfl)
          injection hA3 with hA3 _ hc3
          subst hA3
          subst hc3
          obtain ⟨x, hx1, hx2⟩ := zd_toI L t htl
          have hxm : x < m := hbk x (by obtain ⟨h1, h2⟩ := List.getElem?_eq_some_iff.1 hx2; rw [← h2]; exact List.getElem_mem h1)
          have hcg : wr.cell? ⟨g, t, none⟩ = some (.int .i64 (x : Int)) := by
            rw [World.cell?_of_block hgs, hown.cellAt t (by omega), iVals_at _ _ (by rw [toI_len]; exact htl), hx1]
          have hlen : ys2.length < m * 65536 := by
            have e1 := edVals_len ys2
            rw [hys2.out, List.length_append, List.length_map, List.length_take] at e1
            have e2 : (k + 1) * 65536 ≤ m * 65536 := Nat.mul_le_mul_right _ hlt
            omega
          have HX := Lib.hid hx2
          clear hx1 hx2 hgs
          obtain ⟨fn, tmps, assign, body, hy, hR⟩ := hY ys2 ⟨(k, x), hlt, hxm⟩ O3 wr hJ3 hlen
          gi_wp2
          refine hR.mono ?_
          rintro e W3 ⟨O4, hs4, (⟨rfl, hJ4⟩ | ⟨rfl, hJx4⟩)⟩
          · have hI4 := hI3.step hO hF hs4
            have hg4 : ∀ g', (Value.slice (some ⟨g, 0, none⟩) L.length c3).ownBlock = some g' → W3.heap[g']? = wl.heap[g']? ∧ g' < W3.heap.size ∧ ¬ O4 g' := fun g' hg' => by
              obtain ⟨q1, q2, q3⟩ := hg3 g' hg'
              exact ⟨(hs4.keeps.block g' q2 q3).trans q1, Nat.lt_of_lt_of_le q2 hs4.keeps.size, hs4.not q2 q3⟩
            have hys4 : Hid (edVals (ys2 ++ [⟨(k, x), hlt, hxm⟩]) = elist xss k ++ (L.take (t + 1)).map fun j => (k, j)) := Lib.hid (by rw [edVals_snoc, hys2.out, take_at L t x HX.out]; simp)
            gi_wp2
            go_roundw
            case rel => exact ⟨t + 1, by omega, by simp, _, O4, hys4, hJ4, hI4, hg4⟩
            case measure => simp [intOf]; omega
          · gi_wp2
            refine bodyPost_ret (results_none rfl _ _ _) rfl ?_
            exact ⟨⟨_, rfl⟩, .inr ⟨_, _, trivial, hJx4⟩⟩
        · obtain rfl : t = L.length := by omega
          have hys5 : Hid (edVals ys2 = elist xss (k + 1)) := Lib.hid (by rw [hys2.out, List.take_length, elist_succ, ← HLm.out])
          gi_wp2
          go_roundw
          case rel => exact ⟨k + 1, by omega, by simp, ys2, O3, hys5, hJ3, hI3⟩
          case measure => simp [intOf]; omega
    · obtain rfl : k = m := by omega
      gi_wp2
      go_end0
      exact ⟨⟨_, rfl⟩, .inl ⟨ys, O2, hys.out, hJ2⟩⟩
end Go.Proofs.YtaboafkpmgadmaaDoor
