/-
  A region that draws its order, within a round of a loop over an iterator: what every order gives in a plain frame, it gives in the round. No condition but that nothing is deferred.
  Contract of graph.Behind.
  Contract of graph.fromSets: the graph with an edge from each node to those of its set.
  Contracts of graph.Closure and graph.Core.
-/
import Derived.RangeFuncCalls
import Derived.Deep.RegionHeld3
import Derived.OrdersIn
import Derived.WalkKit
import Derived.Test.YtipihchlhkjdjaaDoorPk08
import Derived.Shelf.RegionOpen
import Derived.Laws.Rows
namespace Go.Proofs.YtipihchlhkjdjaaDoor
open Go.RowKit

theorem operIn_of {l n : Nat} {P : Program} {o : Oper} {a : Act} {w : World} {K : Act → World → Prop} {Q : Exit → Act → World → Prop} (hd : ∀ c, o.op ≠ .defer c) (h : o.wp P a w K Q) : o.wpIn (Fence.wide.inRound l) n P a w K Q := by
  refine ⟨fun _ _ => trivial, ?_⟩
  have he : o.semAt (Fence.wide.inRound l).round a.eval = execOp a.eval o := Oper.semAt_some l a.eval o hd
  rw [he]
  unfold Oper.wp at h
  generalize (execOp a.eval o).run P w = r at *
  cases r with
  | ok x w' =>
    cases x <;> simp only [Oper.upon] at h <;> simp only [Oper.uponIn] <;>
      first
        | exact h
        | exact h.elim
        | exact ⟨(fun hh => (by cases hh)), (callsIn_wide.2 h : CallsIn Fence.wide _ P _ _ _ _)⟩
        | exact ⟨(fun hh => (by cases hh)), fun c cs _ => let ⟨v, w'', r, s⟩ := h c cs; ⟨v, w'', r, stepsIn_wide.2 s⟩⟩
  | halt x w' => cases x <;> simp only [Oper.upon] at h <;> simp only [Oper.uponIn] <;> first | exact h | exact h.elim

theorem opIn_of {l n : Nat} {P : Program} {ops : Array Oper} {Q : Exit → Act → World → Prop} (hd : ∀ (i : Nat) (o : Oper), ops[i]? = some o → ∀ c, o.op ≠ .defer c) (hQ : ¬ LetsOut Q) {i : Nat} {K K' : Act → World → Prop} {a : Act} {w : World} (h : wpOp P ops Q i K a w) (hK : ∀ a w, K a w → K' a w) :
    wpOpIn (Fence.wide.inRound l) n P ops Q i K' a w := by
  unfold wpOp at h
  unfold wpOpIn
  cases ho : ops[i]? with
  | none => simp only [ho] at h ⊢; exact hK _ _ h
  | some o =>
    simp only [ho] at h ⊢
    by_cases hw : Region.wanted o (yielded ops a.tmps) = true
    · simp only [hw, if_true] at h ⊢
      rcases h with h | h
      · exact operIn_of (hd i o ho) (Oper.wp_mono hK h)
      · exact absurd h.2 hQ
    · have hw' : Region.wanted o (yielded ops a.tmps) = false := by simpa using hw
      simp only [hw', Bool.false_eq_true, if_false] at h ⊢
      exact ⟨fun _ _ => trivial, hK _ _ h⟩

theorem anyIn_of {l n : Nat} {P : Program} {md : Region.Mode} {ops : Array Oper} {Q : Exit → Act → World → Prop} (hd : ∀ (i : Nat) (o : Oper), ops[i]? = some o → ∀ c, o.op ≠ .defer c) (hQ : ¬ LetsOut Q) :
    ∀ (fuel : Nat) (listed : Array Bool) (a : Act) (w : World), wpAny P md ops Q fuel listed a w → wpAnyIn (Fence.wide.inRound l) n P md ops Q fuel listed a w
  | 0, _, _, _, h => h
  | fuel + 1, _, _, _, h => ⟨h.1, fun i hi => opIn_of hd hQ (h.2 i hi) fun a' w' h' => anyIn_of hd hQ fuel _ a' w' h'⟩

/-- THE BEGINNING: S holds behind the draw; then the orders of a plain frame, S shown anew behind each operation that is carried out. -/
theorem wpIn_region_round {l n : Nat} {P : Program} {id : Nat} {ops : Array Oper} {Q : Exit → Act → World → Prop} {a : Act} {w : World} {S : World → Prop} (hm : P.follows .mixedOrders = true)
    (hd : ops.all (fun o => match o.op with | .defer _ => false | _ => true) = true) (hQ : ∀ a w, ¬ Q .outgrown a w) (hS : S w.drew) (h : S w.drew → wpAnyH P .any ops Q S ops.size (Array.replicate ops.size false) a w.drew) :
    (Code.region id ops true).wpIn (Fence.wide.inRound l) n P Q a w := by
  refine wpIn_region_any hm (anyIn_of (fun i o ho c hc => ?_) (fun ⟨a', w', h'⟩ => hQ a' w' h') _ _ _ _ (wpAny_of_held _ _ _ _ (h hS)))
  have hi := (Array.getElem?_eq_some_iff.1 ho).1
  have := Array.all_eq_true.1 hd i hi
  rw [(Array.getElem?_eq_some_iff.1 ho).2, hc] at this
  cases this
end Go.Proofs.YtipihchlhkjdjaaDoor

namespace Go.Proofs.YtipihchlhkjdjaaDoor
open Go.RowKit Go.Shelf
set_option maxRecDepth 100000

attribute [local go_sem] Oper.semAt_some

theorem opor_own (A A' : Option Addr) (c c' : Nat) (xs ys : List Nat) (w : World) (hx : RdU w w.heap.size A xs) (hy : RdU w w.heap.size A' ys) (hxl : xs.length ≤ 35184372088832) (hyl : ys.length ≤ 35184372088832) :
    Calls Tryd.prog 55 #[.slice A xs.length c, .slice A' ys.length c'] w fun e w' => ∃ A1 c1, e = .returned (.slice A1 (mrg orN xs ys).length c1) ∧ RdUp w' (fun b => w.heap.size ≤ b ∧ b < w'.heap.size) A1 (mrg orN xs ys) ∧ Below w.heap.size w w' := by
  go_enter Tryd.func55, Tryd.ntmps55
  go_wp2_with fail
  refine (mergeorN_any A A' c c' xs ys _ hx hy hxl hyl).mono ?_
  rintro e w1 ⟨v, rfl, hown, hB⟩
  have hle := mrg_le orN xs ys
  obtain ⟨A1, c1, rfl, hr⟩ := own_rdUp hown (fun k => by rw [mrg_wd rfl]; exact orN_lt _ _ (hx.lt k) (hy.lt k)) (by omega)
  have hr2 := hr.lt'
  clear hown hr
  go_wp2
  go_ret
  exact ⟨_, _, rfl, hr2, hB⟩

theorem behind_no (A : Option Addr) (c : Nat) (N : Int) (es : List (Int × Int)) (w : World) (he : RdE w w.heap.size A es) (hT : Tab w) (hE : errn N es ≠ 0) :
    Calls Tryd.prog 37 #[.agg #[.int .i64 N, .slice A es.length c]] w fun e w' => e = .returned (.tuple #[.slice none 0 0, .int .i64 (errn N es)]) ∧ Below w.heap.size w w' := by
  obtain ⟨E, hEE⟩ : ∃ E, E = errn N es := ⟨_, rfl⟩
  rw [← hEE] at hE
  have hb : (E != 0) = true := by simpa using hE
  have HE := Lib.hid hEE
  clear hE hEE
  go_enter Tryd.func37, Tryd.ntmps37
  go_wp2_with fail
  have hb1 := below_alloc w (.cells #[.int .i64 N, .slice A es.length c] 24)
  obtain ⟨w1, hw1⟩ : ∃ w1, w1 = w.alloc (.cells #[.int .i64 N, .slice A es.length c] 24) := ⟨_, rfl⟩
  rw [← hw1] at hb1 ⊢
  clear hw1
  refine (errno_any A c N es _ (he.step hb1) (hT.step hb1)).mono ?_
  rw [← HE.out]
  rintro e w2 ⟨v, rfl, hb2⟩
  have hbb := hb1.trans (hb2.mono hb1.size)
  clear hb1 hb2
  go_wp2
  go_ret2
  exact ⟨by rw [HE.out]; rfl, hbb⟩

theorem Keeps.trans_lt {p q : Nat → Prop} {A B C : World} (h : Keeps p A B) (k : Keeps q B C) (hq : ∀ i, i < A.heap.size → p i → q i) : Keeps p A C :=
  ⟨k.os.trans h.os, k.tape.trans h.tape, k.output.trans h.output, Nat.le_trans h.size k.size, fun i hi hp => (k.block i (Nat.lt_of_lt_of_le hi h.size) (hq i hi hp)).trans (h.block i hi hp)⟩
/-- a row of sets, in blocks that O names -/
def OwnUO (T : TypeId) (w : World) (O : Nat → Prop) (g n : Nat) (xs : Nat → List Nat) : Prop := O g ∧ ∃ (a : Nat → Option Addr) (c : Nat → Nat), w.rowIs g T n (fun i => .slice (a i) (xs i).length (c i)) ∧ ∀ i, i < n → RdUp w O (a i) (xs i)
theorem OwnUO.new (T : TypeId) (w : World) (O : Nat → Prop) (n : Nat) (hO : O w.heap.size) : OwnUO T (w.alloc (.cells (madeCells #[.slice none 0 0] n) T)) O w.heap.size n (fun _ => []) :=
  ⟨hO, fun _ => none, fun _ => 0, World.rowIs_made _ _ _ _, fun _ _ => rdUp_nil _ _ _⟩
theorem OwnUO.keeps {T : TypeId} {w w' : World} {O p : Nat → Prop} {g n : Nat} {xs : Nat → List Nat} (h : OwnUO T w O g n xs) (hk : Keeps p w w') (hp : ∀ b, O b → p b) : OwnUO T w' O g n xs := by
  obtain ⟨h0, a, c, h1, h2⟩ := h
  exact ⟨h0, a, c, h1.of_block (hk.block g h1.lt (hp g h0)), fun i hi => (h2 i hi).keeps hk hp⟩
theorem OwnUO.imp {T : TypeId} {w : World} {O O' : Nat → Prop} {g n : Nat} {xs : Nat → List Nat} (h : OwnUO T w O g n xs) (ho : ∀ b, O b → O' b) : OwnUO T w O' g n xs := by
  obtain ⟨h0, a, c, h1, h2⟩ := h
  exact ⟨ho g h0, a, c, h1, fun i hi => (h2 i hi).imp ho⟩
theorem OwnUO.set {T : TypeId} {w : World} {O : Nat → Prop} {g n i : Nat} {xs : Nat → List Nat} (h : OwnUO T w O g n xs) {A : Option Addr} {c' : Nat} {l : List Nat} (hl : RdUp w O A l) : OwnUO T (w.setCell ⟨g, i, none⟩ (.slice A l.length c')) O g n (fun j => if j = i then l else xs j) := by
  obtain ⟨h0, a, c, h1, h2⟩ := h
  refine ⟨h0, fun j => if j = i then A else a j, fun j => if j = i then c' else c j, (h1.set i (.slice A l.length c')).congr fun j hj => ?_, fun j hj => ?_⟩
  · by_cases e : j = i
    · simp [e]
    · simp [e]
  · by_cases e : j = i
    · simp only [if_pos e]; exact hl.setRow h1 _
    · simp only [if_neg e]; exact (h2 j hj).setRow h1 _
theorem OwnUO.rd {T : TypeId} {w : World} {O : Nat → Prop} {g n : Nat} {xs : Nat → List Nat} (h : OwnUO T w O g n xs) (hn : n ≤ 1048576) : RdUUp w O (some ⟨g, 0, none⟩) ((List.range n).map xs) := by
  obtain ⟨h0, a, c, h1, h2⟩ := h
  refine ⟨by simpa using hn, a, c, fun hlen => ⟨g, 0, rfl, h0, fun k hk => ?_⟩, fun k hk => ?_⟩
  · simp at hk
    rw [Nat.zero_add, h1.cell hk, st_map xs n k hk]
  · simp at hk
    rw [st_map xs n k hk]
    exact h2 k hk
theorem OwnUO.cell {T : TypeId} {w : World} {O : Nat → Prop} {g n : Nat} {xs : Nat → List Nat} (h : OwnUO T w O g n xs) {i : Nat} (hi : i < n) : ∃ v, w.cell? ⟨g, i, none⟩ = some v ∧ w.frozen? ⟨g, i, none⟩ = false ∧ g < w.heap.size := by
  obtain ⟨h0, a, c, h1, h2⟩ := h
  exact ⟨_, h1.cell hi, h1.frozen i, h1.lt⟩

set_option maxHeartbeats 4000000 in
theorem behind_in (n : Nat) (hn : 14 ≤ n) (A : Option Addr) (c m : Nat) (es : List (Int × Int)) (w : World) (he : RdE w w.heap.size A es) (hin : inR m es = true) (hfull : (ordr m es).length = m) (hT : Tab w) :
    CallsIn Fence.wide n Tryd.prog 37 #[.agg #[.int .i64 (m : Int), .slice A es.length c]] w fun e w' => ∃ A1, e = .returned (.tuple #[.slice A1 m m, .int .i64 0]) ∧ RdUU w' w'.heap.size A1 ((List.range m).map (beh m es)) ∧ Below w.heap.size w w' := by
  have h1 : 1 ≤ n := by omega
  have hm := okN_of hin
  have hm2 : m ≤ 200 := by omega
  have hok := okE_of hin
  have hmk := run_make_row' (P := Tryd.prog) 69 102 (.slice none 0 0) 24 Tryd.underlying69 Tryd.infoSU rfl .i64 .i64 m (by omega) (by omega)
  refine callsIn_of_wp_marks Tryd.func37 rfl trivial ?_ rfl
  simp only [Tryd.ntmps37, List.size_toArray, List.length_cons, List.length_nil, Nat.reduceAdd, Nat.reduceSub, Array.replicate_succ, Array.replicate_zero, List.push_toArray, List.append_toArray, List.nil_append, List.cons_append]
  gi_wp2_with fail
  have hG := GBox.new w m A es.length c 24
  obtain ⟨w1, hw1⟩ : ∃ w1, w1 = w.alloc (.cells #[.int .i64 (m : Int), .slice A es.length c] 24) := ⟨_, rfl⟩
  have hb1 : Below w.heap.size w w1 := by rw [hw1]; exact below_alloc _ _
  have hs1 : w.heap.size < w1.heap.size := by rw [hw1]; simp
  rw [← hw1] at hG ⊢
  have he1 := he.step hb1
  have hT1 := hT.step hb1
  clear hw1 hm
  refine ⟨trivial, ?_⟩
  refine (sort_in (n - 1) (by omega) A c m es _ he1 hin hT1).mono ?_
  rintro e w2 ⟨(⟨_, v, rfl, hown⟩ | ⟨hlt, _⟩), hb2⟩
  · have hG2 := hG.below hb2 hs1
    have hB2 : Below w.heap.size w w2 := hb1.trans (hb2.mono hb1.size)
    have hs2 : w.heap.size < w2.heap.size := Nat.lt_of_lt_of_le hs1 hb2.size
    obtain ⟨o, ho⟩ : ∃ o, o = ordr m es := ⟨_, rfl⟩
    rw [← ho] at hown hfull
    have hgood : Good (gR es) m o := by rw [ho]; exact good_topoN _ _ _
    obtain ⟨Ao, co, rfl, ho2⟩ := own_rdNp hown (by omega)
    have hgn := hG2.n
    have hge := hG2.e
    have he2 := (he1.step hb2)
    have hT2 := hT1.step hb2
    clear hb1 hs1 hb2 hG he1 hT1 hown ho he
    gi_wp2_with fail
    refine ⟨trivial, ?_⟩
    refine (callsIn_wide.2 (successors_any _ _ m es _ he2 hm2 hok)).mono ?_
    rintro e w3 ⟨A4, rfl, hu3, hb3⟩
    have hG3 := hG2.below hb3 hs2
    have hgn' := hG3.n
    have hB3 : Below w.heap.size w w3 := hB2.trans (hb3.mono hB2.size)
    have hs3 : w.heap.size < w3.heap.size := Nat.lt_of_lt_of_le hs2 hb3.size
    have ho3 := ho2.keeps (Keeps.of_below (p := fun b => b < w2.heap.size) hb3 fun _ _ h => h) (fun b hb => hb.2)
    have hT3 := hT2.step hb3
    clear hgn hge hG2 ho2 hT2 hB2 he2
    gi_wp2_with (refine ⟨trivial, ?_⟩; refine (backward_in (n - 1) _ _ _ _).mono ?_; rintro e w' ⟨rfl, rfl⟩)
    have hh6 := ((Boxed.new w3 69 (.slice A4 m m)).alloc (.cells (madeCells #[.slice none 0 0] m) 102)).alloc (.cells #[.slice (some ⟨w3.heap.size + 1, 0, none⟩) m m] 69) |>.alloc (.cells #[.slice Ao m co] 34)
    have hU0 := OwnUO.new 102 (w3.alloc (.cells #[.slice A4 m m] 69)) (fun b => b = w3.heap.size + 1) m (by simp)
    have hk0 : Keeps (fun _ => True) ((w3.alloc (.cells #[.slice A4 m m] 69)).alloc (.cells (madeCells #[.slice none 0 0] m) 102)) ((((w3.alloc (.cells #[.slice A4 m m] 69)).alloc (.cells (madeCells #[.slice none 0 0] m) 102)).alloc (.cells #[.slice (some ⟨w3.heap.size + 1, 0, none⟩) m m] 69)).alloc (.cells #[.slice Ao m co] 34)) := ((Keeps.refl _ _).alloc _).alloc _
    have hU1 := hU0.keeps hk0 (fun _ _ => trivial)
    have hh7 := (Boxed.new ((w3.alloc (.cells #[.slice A4 m m] 69)).alloc (.cells (madeCells #[.slice none 0 0] m) 102)) 69 (.slice (some ⟨w3.heap.size + 1, 0, none⟩) m m)).alloc (.cells #[.slice Ao m co] 34)
    have hh8 := Boxed.new (((w3.alloc (.cells #[.slice A4 m m] 69)).alloc (.cells (madeCells #[.slice none 0 0] m) 102)).alloc (.cells #[.slice (some ⟨w3.heap.size + 1, 0, none⟩) m m] 69)) 34 (.slice Ao m co)
    simp only [World.size_alloc] at hU1 hh7 hh8
    obtain ⟨w4, hw4⟩ : ∃ w4, w4 = (((w3.alloc (.cells #[.slice A4 m m] 69)).alloc (.cells (madeCells #[.slice none 0 0] m) 102)).alloc (.cells #[.slice (some ⟨w3.heap.size + 1, 0, none⟩) m m] 69)).alloc (.cells #[.slice Ao m co] 34) := ⟨_, rfl⟩
    have hb4 : Below w3.heap.size w3 w4 := by rw [hw4]; exact ((((Below.refl _ w3).alloc (Nat.le_refl _) _).alloc (by simp) _).alloc (by simp; omega) _).alloc (by simp; omega) _
    have hs4 : w4.heap.size = w3.heap.size + 4 := by rw [hw4]; simp
    rw [← hw4] at hh6 hU1 hh7 hh8 ⊢
    have hB4 : Below w.heap.size w w4 := hB3.trans (hb4.mono hB3.size)
    have ho4 := ho3.keeps (Keeps.of_below (p := fun b => b < w3.heap.size) hb4 fun _ _ h => h) (fun b hb => Nat.lt_of_lt_of_le hb.2 hb3.size)
    have hu4 := hu3.lt'.keeps (Keeps.of_below (p := fun b => b < w3.heap.size) hb4 fun _ _ h => h) (fun b hb => hb.2)
    have hT4 := hT3.step hb4
    have hTn : 0 < w3.heap.size := hT3.pos
    have hbs : w2.heap.size ≤ w3.heap.size := hb3.size
    clear hw4 hU0 hk0 hG3 hgn' ho3 hT3 hB3 hb4 hu3 hb3 hmk
    obtain ⟨g6, hg6⟩ : ∃ g6, g6 = w3.heap.size := ⟨_, rfl⟩
    rw [← hg6] at hh6 hh7 hh8 hU1 hs4 hs3 hu4 hTn hbs ⊢
    have hs4' : g6 + 3 < w4.heap.size := by omega
    have HS4 := Lib.hid hs4
    clear hg6 hs4
    have hom : ∀ x, x ∈ o → x < m := hgood.lt
    have hmo : Tryd.prog.follows .mixedOrders = true := by kernel_rfl
    refine wpIn_rangeFunc_O rfl h1 (gf := 66) (lb := #[.pointer (some ⟨g6 + 1 + 1 + 1, 0, none⟩)]) rfl trivial (enters_of Tryd.func66 (by kernel_rfl) rfl)
      (backward1_in (n - 1) (by omega) m (g6 + 1 + 1 + 1) co _ Ao o hom w4 ho4 (fun b hb => by omega) (by rw [hfull]; exact hh8.cell) (by omega)) (Keeps.refl _ _) (fun _ => rfl)
      (fun ys O W => (∀ b, O b → b = g6 + 1 ∨ w4.heap.size ≤ b) ∧ OwnUO 102 W O (g6 + 1) m (fun x => if x ∈ o.drop (m - ys.length) then beh m es x else []) ∧ Keeps (fun b => b ≠ g6 + 1) w4 W) (fun _ _ _ _ => False)
      ?stab (fun _ _ _ _ _ h _ => h.elim) (fun k => k = g6 + 1) ?own (fun k hk => by rcases hk with h | h <;> omega) ?start
      (fun pre x a' O W => ((∀ b, O b → b = g6 + 1 ∨ w4.heap.size ≤ b) ∧ OwnUO 102 W O (g6 + 1) m (fun x => if x ∈ o.drop (m - pre.length) then beh m es x else []) ∧ Keeps (fun b => b ≠ g6 + 1) w4 W) ∧ a' = { tmps := #[.agg #[.int .i64 (m : Int), .slice A es.length c], .pointer (some ⟨w.heap.size, 0, none⟩), .slice none 0 0, .int .i64 0, .slice Ao m co, .int .i64 0, .pointer (some ⟨g6, 0, none⟩), .pointer (some ⟨g6 + 1 + 1, 0, none⟩), undef, .int .i64 (x.1.2 : Int), .tuple #[.slice Ao m co, .int .i64 0], .agg #[.int .i64 (m : Int), .slice A es.length c], .tuple #[.slice Ao m co, .int .i64 0], .slice Ao m co, .int .i64 0, .int .i64 0, .bool false, undef, .agg #[.int .i64 (m : Int), .slice A es.length c], .slice A4 m m, .pointer (some ⟨w.heap.size, 0, none⟩), .int .i64 (m : Int), .slice (some ⟨g6 + 1, 0, none⟩) m m, .slice Ao m co, .func (.func 66) #[] #[.pointer (some ⟨g6 + 1 + 1 + 1, 0, none⟩)], .int .i64 (x.1.1 : Int), .int .i64 (x.1.2 : Int), undef, undef, undef, undef, undef, undef, undef, undef, undef, undef, undef, undef, undef, undef, undef], defers := [] })
      ?stabx ?assign ?body ?done ?stop
    case own =>
      intro k hk
      subst hk
      exact ⟨by omega, fun h => by rcases h with h | h <;> omega⟩
    case start =>
      refine ⟨fun b hb => .inl hb, ?_, Keeps.refl _ _⟩
      have e : (fun x => if x ∈ o.drop (m - ([] : List (Bk o.length m)).length) then beh m es x else []) = fun _ => [] := by
        funext x
        rw [if_neg]
        rw [List.drop_eq_nil_of_le (by simp; omega)]
        simp
      rw [e]
      exact hU1
    case stab =>
      rintro s O W W' ⟨h0, h, hb⟩ hk
      exact ⟨h0, h.keeps hk fun b hb => .inr hb, hb.trans_lt hk fun k hk1 _ => .inl hk1⟩
    case stabx =>
      rintro pre x a' s O W W' ⟨⟨h0, h, hb⟩, ha⟩ hk
      exact ⟨⟨h0, h.keeps hk fun b hb => .inr hb, hb.trans_lt hk fun k hk1 _ => .inl hk1⟩, ha⟩
    case assign =>
      intro l pre x O W K hI hlen hsz htop hK
      gi_wp2
      exact hK _ _ _ (StepO.refl htop) ⟨hI, rfl⟩
    case body =>
      rintro l pre x a' O W ⟨⟨hO1, hU, hkW⟩, rfl⟩ ⟨hl1, hl2, hoi⟩ hsz htop
      have h2n : 1 ≤ n - 1 - 1 := by omega
      obtain ⟨⟨i, nn⟩, hi1, hnm⟩ := x
      dsimp only at hl2 hoi hi1 hnm ⊢
      have e1 : m - pre.length = i + 1 := by omega
      rw [e1] at hU
      obtain ⟨f0, hf0⟩ : ∃ f0, f0 = fun x => if x ∈ o.drop (i + 1) then beh m es x else [] := ⟨_, rfl⟩
      rw [← hf0] at hU
      have hxx := (hU.rd (by omega)).toUU
      have hfl : ∀ k, (f0 k).length ≤ 1024 := fun k => by
        rw [hf0]
        dsimp only
        by_cases e : k ∈ o.drop (i + 1)
        · rw [if_pos e]; exact beh_len _ _ _
        · rw [if_neg e]; simp
      have hroom : ∀ k, k < m → (st ((List.range m).map f0) k).length ≤ 1024 := fun k hk => by rw [st_map _ _ _ hk]; exact hfl k
      have hbeh : mrg orN (nxt es nn) (unionL ((List.range m).map f0) (mem (nxt es nn))) = beh m es nn := beh_step hin nn _ fun c hc => by
        rw [st_map _ _ _ (gR_lt hin nn c hc).2, hf0]
        exact if_pos (succ_behind hin hgood hfull hoi hc)
      have hbits : ∀ j, j ∈ mem (nxt es nn) → j < m := fun j hj => by
        rw [mem_iff, nxt_bit hin] at hj
        exact (gR_lt hin nn j hj).2
      obtain ⟨b6, off6, A2, c2, rfl, hb6, hc6, hs6⟩ := (hu4.keeps hkW (fun b hb => by omega)).at_ (k := nn) (by simpa using hnm)
      rw [st_map _ _ _ hnm] at hc6 hs6
      have hs6' := hs6.toU
      have hb6l : b6 < W.heap.size := World.block_lt_of_cell? W _ hc6
      have hnl : (nxt es nn).length ≤ 1024 := ofS_len _
      have hUl : (unionL ((List.range m).map f0) (mem (nxt es nn))).length ≤ 1024 := unionL_len _ _ fun k hk => hroom k (hbits k hk)
      have hc7 : W.cell? ⟨g6, 0, none⟩ = some (.slice (some ⟨b6, off6, none⟩) m m) := (World.cell?_of_block (hkW.block g6 (by omega) (by omega))).trans hh6.cell
      have hc8 : W.cell? ⟨g6 + 1 + 1, 0, none⟩ = some (.slice (some ⟨g6 + 1, 0, none⟩) m m) := (World.cell?_of_block (hkW.block (g6 + 1 + 1) (by omega) (by omega))).trans hh7.cell
      have hTW := hT4.keeps hkW (by omega)
      obtain ⟨vo, hrc, hrf, hgW⟩ := hU.cell hnm
      have hg6W : g6 < W.heap.size := by omega
      have hg8W : g6 + 1 + 1 < W.heap.size := by omega
      have hx0 : (0 : Int) ≤ (nn : Int) := Int.natCast_nonneg _
      have hx1 : (nn : Int) < (m : Int) := by omega
      have HLX : ((List.range m).map f0).length = m := by simp
      obtain ⟨xss, hxss⟩ : ∃ xss, xss = (List.range m).map f0 := ⟨_, rfl⟩
      rw [← hxss] at hxx hroom hbeh hUl HLX
      obtain ⟨ns, hns⟩ : ∃ ns, ns = nxt es nn := ⟨_, rfl⟩
      rw [← hns] at hbeh hbits hc6 hs6' hnl hUl
      obtain ⟨U, hUU⟩ : ∃ U, U = unionL xss (mem ns) := ⟨_, rfl⟩
      rw [← hUU] at hbeh hUl
      have C1 : ∀ W', Below W.heap.size W W' → Calls Tryd.prog 56 #[.slice (some ⟨g6 + 1, 0, none⟩) m m, .slice A2 ns.length c2] W' fun e w' => ∃ A1 c1, e = .returned (.slice A1 U.length c1) ∧ RdU w' w'.heap.size A1 U ∧ Below W.heap.size W w' := fun W' hb => by
        rw [hUU]
        exact (union_any _ A2 m c2 m xss HLX ns W' ((hxx.below hb).more hb.size) ((hs6'.below hb).more hb.size) hbits hroom hnl (hTW.step hb)).mono fun e w' ⟨A1, c1, q1, q2, q3⟩ => ⟨A1, c1, q1, q2, hb.trans (q3.mono hb.size)⟩
      have H1 := Lib.hid C1
      have HB := Lib.hid hbeh
      have HF := Lib.hid hf0
      have HNS := Lib.hid hns
      have HU := Lib.hid hU
      have HLXX := Lib.hid HLX
      clear C1 hbeh hf0 hns hU hUU hxss HLX hxx hroom hbits hs6 hh6 hh7 hh8 hU1 hu4 ho4 e1
      have hrefl : Below W.heap.size W W.drew := (Below.refl _ _).drew
      gi_wp2
      refine wpIn_region_round (S := fun w' => w'.cell? ⟨g6, 0, none⟩ = some (.slice (some ⟨b6, off6, none⟩) m m) ∧ w'.cell? ⟨g6 + 1 + 1, 0, none⟩ = some (.slice (some ⟨g6 + 1, 0, none⟩) m m) ∧ w'.cell? ⟨b6, off6 + nn, none⟩ = some (.slice A2 ns.length c2)) hmo (by kernel_rfl) (fun _ _ h => h) ⟨hc7, hc8, hc6⟩ (fun hHeld => ?_)
      refine wpAnyH_take (i := 0) (v := ?_) rfl (by kernel_rfl) (by kernel_rfl) (by kernel_rfl) (fun _ _ _ h => h) (Or.inl ⟨by rfl, ?_⟩) (by assumption) ?_
      rotate_left
      · intro w hSw; (try dsimp only at hSw); go_simp; (try with_reducible rfl)
      (try simp only [Act.put, List.setIfInBounds_toArray])
      refine wpAnyH_take (i := 1) (v := ?_) rfl (by kernel_rfl) (by kernel_rfl) (by kernel_rfl) (fun _ _ _ h => h) (Or.inl ⟨by rfl, ?_⟩) (by assumption) ?_
      rotate_left
      · intro w hSw; (try dsimp only at hSw); go_simp; (try with_reducible rfl)
      (try simp only [Act.put])
      refine wpAnyH_take (i := 2) (v := ?_) rfl (by kernel_rfl) (by kernel_rfl) (by kernel_rfl) (fun _ _ _ h => h) (Or.inl ⟨by rfl, ?_⟩) (by assumption) ?_
      rotate_left
      · intro w hSw; (try dsimp only at hSw); go_simp; (try with_reducible rfl)
      (try simp only [Act.put])
      refine wpAnyH_take (i := 3) (v := ?_) rfl (by kernel_rfl) (by kernel_rfl) (by kernel_rfl) (fun _ _ _ h => h) (Or.inl ⟨by rfl, ?_⟩) (by assumption) ?_
      rotate_left
      · intro w hSw; (try dsimp only at hSw); go_simp; (try with_reducible rfl)
      (try simp only [Act.put])
      refine wpAnyH_take (i := 4) (v := ?_) rfl (by kernel_rfl) (by kernel_rfl) (by kernel_rfl) (fun _ _ _ h => h) (Or.inl ⟨by rfl, ?_⟩) (by assumption) ?_
      rotate_left
      · intro w hSw; (try dsimp only at hSw); go_simp; (try with_reducible rfl)
      (try simp only [Act.put])
      refine wpAnyH_take (i := 5) (v := ?_) rfl (by kernel_rfl) (by kernel_rfl) (by kernel_rfl) (fun _ _ _ h => h) (Or.inl ⟨by rfl, ?_⟩) (by assumption) ?_
      rotate_left
      · intro w hSw; (try dsimp only at hSw); go_simp; (try with_reducible rfl)
      (try simp only [Act.put])
      refine wpAnyH_take (i := 6) (v := ?_) rfl (by kernel_rfl) (by kernel_rfl) (by kernel_rfl) (fun _ _ _ h => h) (Or.inl ⟨by rfl, ?_⟩) (by assumption) ?_
      rotate_left
      · intro w hSw; (try dsimp only at hSw); go_simp; (try with_reducible rfl)
      (try simp only [Act.put])
      refine wpAnyH_take (i := 7) (v := ?_) rfl (by kernel_rfl) (by kernel_rfl) (by kernel_rfl) (fun _ _ _ h => h) (Or.inl ⟨by rfl, ?_⟩) (by assumption) ?_
      rotate_left
      · intro w hSw; (try dsimp only at hSw); go_simp; (try with_reducible rfl)
      (try simp only [Act.put])
      refine wpAnyH_take (i := 8) (v := ?_) rfl (by kernel_rfl) (by kernel_rfl) (by kernel_rfl) (fun _ _ _ h => h) (Or.inl ⟨by rfl, ?_⟩) (by assumption) ?_
      rotate_left
      · intro w hSw; (try dsimp only at hSw); go_simp; (try with_reducible rfl)
      (try simp only [Act.put])
      refine wpAnyH_take (i := 9) (v := ?_) rfl (by kernel_rfl) (by kernel_rfl) (by kernel_rfl) (fun _ _ _ h => h) (Or.inl ⟨by rfl, ?_⟩) (by assumption) ?_
      rotate_left
      · intro w hSw; (try dsimp only at hSw); go_simp; (try with_reducible rfl)
      (try simp only [Act.put])
      refine wpAnyH_take (i := 10) (v := ?_) rfl (by kernel_rfl) (by kernel_rfl) (by kernel_rfl) (fun _ _ _ h => h) (Or.inl ⟨by rfl, ?_⟩) (by assumption) ?_
      rotate_left
      · intro w hSw; (try dsimp only at hSw); go_simp; (try with_reducible rfl)
      (try simp only [Act.put])
      refine wpAnyH_ready (rs := [11]) (by kernel_rfl) (by simp) ?_
      refine AllReadyH.cons rfl (fun K hK => ?_) AllReadyH.nil
      go_simp
      refine (H1.out _ hrefl).mono ?_
      rintro e w7 ⟨A7, c7, rfl, hr7, hb7⟩
      have q1 : w7.cell? ⟨g6, 0, none⟩ = some (.slice (some ⟨b6, off6, none⟩) m m) := (World.cell?_of_block (hb7.block g6 hg6W)).trans hc7
      have q2 : w7.cell? ⟨g6 + 1 + 1, 0, none⟩ = some (.slice (some ⟨g6 + 1, 0, none⟩) m m) := (World.cell?_of_block (hb7.block (g6 + 1 + 1) hg8W)).trans hc8
      have q3 : w7.cell? ⟨b6, off6 + nn, none⟩ = some (.slice A2 ns.length c2) := (World.cell?_of_block (hb7.block b6 hb6l)).trans hc6
      dsimp only
      refine hK.out _ _ ⟨q1, q2, q3⟩ (fun hHeld => ?_)
      clear hK K
      (try simp only [Act.put, List.setIfInBounds_toArray, List.set])
      refine wpAnyH_ready (rs := [12]) (by kernel_rfl) (by simp) ?_
      refine AllReadyH.cons rfl (fun K hK => ?_) AllReadyH.nil
      go_simp
      refine (opor_own A2 A7 c2 c7 ns U w7 (hs6'.step hb7) hr7 (by omega) (by omega)).mono ?_
      rintro e w8 ⟨A8, c8, rfl, hr8, hb8⟩
      have hb78 : Below W.heap.size W w8 := hb7.trans (hb8.mono hb7.size)
      rw [HB.out] at hr8
      have q4 : w8.cell? ⟨g6, 0, none⟩ = some (.slice (some ⟨b6, off6, none⟩) m m) := (World.cell?_of_block (hb78.block g6 hg6W)).trans hc7
      have q5 : w8.cell? ⟨g6 + 1 + 1, 0, none⟩ = some (.slice (some ⟨g6 + 1, 0, none⟩) m m) := (World.cell?_of_block (hb78.block (g6 + 1 + 1) hg8W)).trans hc8
      have q6 : w8.cell? ⟨b6, off6 + nn, none⟩ = some (.slice A2 ns.length c2) := (World.cell?_of_block (hb78.block b6 hb6l)).trans hc6
      have q7 : w8.cell? ⟨g6 + 1, nn, none⟩ = some vo := (World.cell?_of_block (hb78.block (g6 + 1) hgW)).trans hrc
      have q8 : w8.frozen? ⟨g6 + 1, nn, none⟩ = false := (World.frozen?_of_block (hb78.block (g6 + 1) hgW)).trans hrf
      dsimp only
      rw [HB.out]
      refine hK.out _ _ ⟨q4, q5, q6⟩ (fun hHeld => ?_)
      clear hK K
      (try simp only [Act.put, List.setIfInBounds_toArray, List.set])
      refine wpAnyH_take (i := 13) (v := ?_) rfl (by kernel_rfl) (by kernel_rfl) (by kernel_rfl) (fun _ _ _ h => h) (Or.inl ⟨by rfl, ?_⟩) (by assumption) ?_
      rotate_left
      · intro w hSw; (try dsimp only at hSw); go_simp; (try with_reducible rfl)
      (try simp only [Act.put, List.setIfInBounds_toArray])
      refine wpAnyH_ready (rs := [14]) (by kernel_rfl) (by simp) ?_
      refine AllReadyH.cons rfl (fun K hK => ?_) AllReadyH.nil
      go_simp
      refine hK.out _ _ ⟨(World.cell?_setCell_far _ _ _ _ (by simp)).trans q4, (World.cell?_setCell_far _ _ _ _ (by simp)).trans q5, (World.cell?_setCell_far _ _ _ _ (by simp; omega)).trans q6⟩ (fun hHeld => ?_)
      clear hK K
      refine wpAnyH_done (by kernel_rfl) ?_ _
      have hU8 := (HU.out.keeps (p := fun b => b < W.heap.size) (Keeps.of_below hb78 fun _ _ h => h) htop)
      have hkS : ∀ v, Keeps (fun b => b ≠ g6 + 1) W (w8.setCell ⟨g6 + 1, nn, none⟩ v) := fun v => (Keeps.of_below hb78 fun k hk _ => hk).setCell (fun _ h => h rfl) v
      have hkO : ∀ v, Keeps (fun b => ¬ O b) W (w8.setCell ⟨g6 + 1, nn, none⟩ v) := fun v => (Keeps.of_below hb78 fun k hk _ => hk).setCell (fun _ h => h HU.out.1) v
      have hle : ∀ x : Bk o.length m, m - (pre ++ [x]).length = i := fun x => by simp; omega
      have hfe : (fun x => if x ∈ o.drop i then beh m es x else []) = fun j => if j = nn then beh m es nn else f0 j := by
        funext x
        rw [HF.out]
        dsimp only
        by_cases e : x = nn
        · subst e
          rw [if_pos ((drop_step hoi _).2 (.inl rfl)), if_pos rfl]
        · rw [if_neg e]
          by_cases e2 : x ∈ o.drop (i + 1)
          · rw [if_pos ((drop_step hoi _).2 (.inr e2)), if_pos e2]
          · rw [if_neg (fun h => ((drop_step hoi _).1 h).elim e e2), if_neg e2]
      have hset := OwnUO.set (hU8.imp (O' := fun b => O b ∨ (W.heap.size ≤ b ∧ b < w8.heap.size)) fun b h => .inl h) (i := nn) (c' := c8) (hr8.imp fun b h => .inr ⟨Nat.le_trans hb7.size h.1, h.2⟩)
      rw [← hfe] at hset
      refine ⟨fun b => O b ∨ (W.heap.size ≤ b ∧ b < w8.heap.size), ⟨hkO _, fun k h => h.imp id (·.1), fun k h => ?_⟩, fun b hb => ?_, ?_, hkW.trans (hkS _)⟩
      · rw [World.size_setCell]
        rcases h with h | h
        · exact Nat.lt_of_lt_of_le (htop k h) hb78.size
        · exact h.2
      · rcases hb with h | h
        · exact hO1 b h
        · exact .inr (by omega)
      · rw [hle]
        exact hset
    case done =>
      rintro D O xs W hD hOD hxs ⟨hO1, hU, hkW⟩ hK
      have hxl : xs.length = o.length := hxs
      have hl0 : m - xs.length = 0 := by omega
      have hfe : (fun x => if x ∈ o.drop (m - xs.length) then beh m es x else []) = fun x => if x ∈ o then beh m es x else [] := by rw [hl0]; rfl
      rw [hfe] at hU
      have hg8W : g6 + 1 + 1 < W.heap.size := by have := hkW.size; omega
      have hc8 : W.cell? ⟨g6 + 1 + 1, 0, none⟩ = some (.slice (some ⟨g6 + 1, 0, none⟩) m m) := (World.cell?_of_block (hkW.block (g6 + 1 + 1) (by omega) (by omega))).trans hh7.cell
      have hall : (List.range m).map (fun x => if x ∈ o then beh m es x else []) = (List.range m).map (beh m es) := List.map_congr_left fun x hx => by
        rw [if_pos (hgood.all (by omega) (by simpa using hx))]
      have hrd := hU.rd (by omega)
      rw [hall] at hrd
      have hBf : Below w.heap.size w W := hB4.trans (hkW.below (by have := hB4.size; omega) fun k hk => by omega)
      clear hU hkW hh6 hh7 hh8 hU1 hu4 ho4
      gi_wp2
      refine ⟨by simp, .inl ⟨_, _, rfl, run_takeDeferred hK, ?_⟩⟩
      refine ⟨_, results_tmp2 rfl _ _ _, ?_⟩
      exact ⟨_, rfl, (hrd.keeps (q := fun b => b ≠ D) ((Keeps.refl _ W).putObj (fun _ h => h rfl) _) (fun b hb e => hOD (e ▸ hb))).toUU, hBf.trans (belowK_b (w := w) (Nat.le_refl _) W D _ _ (by omega) hK rfl rfl)⟩
    case stop =>
      rintro D c' O pre W _ _ _ h _
      exact h.elim
  · omega
end Go.Proofs.YtipihchlhkjdjaaDoor

namespace Go.Proofs.YtipihchlhkjdjaaDoor
open Go.RowKit Go.Shelf
set_option maxRecDepth 100000

attribute [local go_sem] Oper.semAt_some

theorem Tryd.infoEd : (Tryd.prog.info? 36).map (fun i => (i.zero, i.size, i.bytes)) = some (some (.agg #[.int .i64 0, .int .i64 0]), 2, 16) := by kernel_rfl
theorem Tryd.infoGr : (Tryd.prog.info? 24).map (·.size) = some 2 := by kernel_rfl

/-- an edge list's cells -/
def eVals (l : List (Int × Int)) : List Value := l.flatMap fun e => [.int .i64 e.1, .int .i64 e.2]
theorem eVals_snoc (l : List (Int × Int)) (x y : Int) : eVals (l ++ [(x, y)]) = eVals l ++ [.int .i64 x, .int .i64 y] := by simp [eVals]
theorem eVals_len (l : List (Int × Int)) : (eVals l).length = l.length * 2 := by
  induction l with
  | nil => rfl
  | cons a l ih => simp only [eVals, List.flatMap_cons, List.length_append, List.length_cons, List.length_nil] at ih ⊢; omega
theorem eVals_at (l : List (Int × Int)) (k : Nat) (hk : k < l.length) : (eVals l)[k * 2]? = some (.int .i64 (ed l k).1) ∧ (eVals l)[k * 2 + 1]? = some (.int .i64 (ed l k).2) := by
  induction l generalizing k with
  | nil => simp at hk
  | cons a l ih =>
    cases k with
    | zero => exact ⟨rfl, rfl⟩
    | succ k =>
      have h := ih k (by simpa using hk)
      have e1 : (k + 1) * 2 = k * 2 + 1 + 1 := by omega
      rw [e1]
      exact ⟨h.1, h.2⟩
def elI (l : List (Nat × Nat)) : List (Int × Int) := l.map fun e => ((e.1 : Int), (e.2 : Int))
theorem elI_snoc (l : List (Nat × Nat)) (x : Nat × Nat) : elI (l ++ [x]) = elI l ++ [((x.1 : Int), (x.2 : Int))] := by simp [elI]
theorem elI_len (l : List (Nat × Nat)) : (elI l).length = l.length := by simp [elI]

/-- block B holds a graph -/
def GB (T : TypeId) (W : World) (B : Nat) (x : Int) (v : Value) : Prop := W.heap[B]? = some (.cells #[.int .i64 x, v] T (0, 0))
section
variable {T : TypeId} {W W' : World} {B : Nat} {x : Int} {v : Value}
theorem GB.lt (h : GB T W B x v) : B < W.heap.size := (Array.getElem?_eq_some_iff.1 h).1
theorem GB.n (h : GB T W B x v) : W.cell? ⟨B, 0, none⟩ = some (.int .i64 x) := by simp [World.cell?, show W.heap[B]? = _ from h]
theorem GB.e (h : GB T W B x v) : W.cell? ⟨B, 1, none⟩ = some v := by simp [World.cell?, show W.heap[B]? = _ from h]
theorem GB.frozen (h : GB T W B x v) (o : Nat) : W.frozen? ⟨B, o, none⟩ = false := by simp [World.frozen?, show W.heap[B]? = _ from h]
theorem GB.new (W : World) (T : TypeId) (x : Int) (v : Value) : GB T (W.alloc (.cells #[.int .i64 x, v] T)) W.heap.size x v := World.alloc_heap_new W _
theorem GB.kept {row : Option Nat} (h : GB T W B x v) (hg : W.grownBy W' row) (hne : some B ≠ row) : GB T W' B x v := (hg.block B h.lt hne).trans h
theorem GB.alloc (h : GB T W B x v) (o : Obj) : GB T (W.alloc o) B x v := h.kept (World.grownBy_alloc W o none) (by simp)
theorem GB.set (v' : Value) (h : GB T W B x v) : GB T (W.setCell ⟨B, 1, none⟩ v') B x v' := by
  obtain ⟨hlt, hk⟩ := Array.getElem?_eq_some_iff.1 h
  show (W.heap.modify B _)[B]? = _
  rw [Array.getElem?_eq_getElem (by rw [Array.size_modify]; exact hlt), Array.getElem_modify_self, hk]
  rfl
theorem GB.set0 (x' : Int) (h : GB T W B x v) : GB T (W.setCell ⟨B, 0, none⟩ (.int .i64 x')) B x' v := by
  obtain ⟨hlt, hk⟩ := Array.getElem?_eq_some_iff.1 h
  show (W.heap.modify B _)[B]? = _
  rw [Array.getElem?_eq_getElem (by rw [Array.size_modify]; exact hlt), Array.getElem_modify_self, hk]
  rfl
theorem GB.putObj (h : GB T W B x v) {D : Nat} (hne : B ≠ D) (o : Obj) : GB T (W.putObj D o) B x v := (World.putObj_heap_other hne).trans h
theorem GB.not_row (h : GB T W B x v) {e : TypeId} (hte : T ≠ e) {base size k : Nat} {u : Value} {xs : List Value} (hr : W.ownsRow base e size u k xs) : some B ≠ u.ownBlock := by
  rcases hr.2 with ⟨rfl, _⟩ | ⟨g, cap, cur, rfl, _, hgb, _⟩
  · simp [Value.ownBlock]
  · intro e'
    obtain rfl : B = g := by simpa [Value.ownBlock] using e'
    have := (show W.heap[B]? = _ from h).symm.trans hgb
    simp at this
    exact hte this.2
end

/-- the box Bg holds a graph whose edges are owned; both are the body's -/
def CollG (T E : TypeId) (n₀ Bg : Nat) (x : Int) (k : Nat) (xs : List Value) (O : Nat → Prop) (W : World) : Prop :=
  ∃ v, GB T W Bg x v ∧ W.ownsRow n₀ E 2 v k xs ∧ O Bg ∧ ∀ b, v.ownBlock = some b → O b
theorem CollG.keeps {T E : TypeId} {n₀ Bg k : Nat} {x : Int} {xs : List Value} {O p : Nat → Prop} {W W' : World} (h : CollG T E n₀ Bg x k xs O W) (hk : Keeps p W W') (hp : ∀ b, O b → p b) : CollG T E n₀ Bg x k xs O W' := by
  obtain ⟨v, h1, h2, h3, h4⟩ := h
  exact ⟨v, (hk.block Bg h1.lt (hp Bg h3)).trans h1, ownsRow_keeps h2 hk fun b hb => hp b (h4 b hb), h3, h4⟩
theorem CollG.mono {T E : TypeId} {n₀ Bg k : Nat} {x : Int} {xs : List Value} {O O' : Nat → Prop} {W : World} (h : CollG T E n₀ Bg x k xs O W) (hp : ∀ b, O b → O' b) : CollG T E n₀ Bg x k xs O' W := by
  obtain ⟨v, h1, h2, h3, h4⟩ := h
  exact ⟨v, h1, h2, hp _ h3, fun b hb => hp b (h4 b hb)⟩
/-- behind an append and the store of its answer -/
theorem CollG.step {T E : TypeId} {n₀ Bg k m : Nat} {x : Int} {xs ys : List Value} {O : Nat → Prop} {W w1 : World} {v v' : Value} {tmp : Obj}
    (hv : GB T W Bg x v) (hTE : T ≠ E) (hrow : W.ownsRow n₀ E 2 v k xs) (hn₀ : n₀ ≤ W.heap.size) (hB : n₀ ≤ Bg) (hO : O Bg) (hOv : ∀ b, v.ownBlock = some b → O b)
    (hown' : w1.ownsRow n₀ E 2 v' m ys) (hgrow : (W.alloc tmp).grownBy w1 v.ownBlock) (hat : v'.ownBlock = v.ownBlock ∨ v'.ownBlock = some (W.alloc tmp).heap.size) :
    CollG T E n₀ Bg x m ys (fun b => b = Bg ∨ v'.ownBlock = some b) (w1.setCell ⟨Bg, 1, none⟩ v') ∧ StepO O (fun b => b = Bg ∨ v'.ownBlock = some b) W (w1.setCell ⟨Bg, 1, none⟩ v') ∧ Below n₀ W (w1.setCell ⟨Bg, 1, none⟩ v') := by
  have hv1 : GB T w1 Bg x v := (hv.alloc tmp).kept hgrow (hv.not_row hTE hrow)
  have h2 := hv1.set v'
  have h3 := hown'.kept (grownBy_setCell w1 ⟨Bg, 1, none⟩ v') (.inr (hv1.not_row hTE hown').symm)
  refine ⟨⟨v', h2, h3, .inl rfl, fun b hb => .inr hb⟩, ⟨?_, fun b hb => ?_, fun b hb => ?_⟩, ?_⟩
  · exact (((Keeps.refl _ W).alloc tmp).grown hgrow (fun r hr _ h => h (hOv r hr))).setCell (q := ⟨Bg, 1, none⟩) (fun _ h => h hO) v'
  · rcases hb with rfl | hb
    · exact .inl hO
    · rcases hat with h | h
      · exact .inl (hOv b (h ▸ hb))
      · rw [h] at hb
        injection hb with hb
        exact .inr (by rw [← hb]; simp)
  · rcases hb with rfl | hb
    · exact h2.lt
    · exact own_block_lt h3 b hb
  · exact (((Below.refl n₀ W).alloc hn₀ tmp).grown hgrow (by simp; omega) fun j ej => own_base' hrow j ej).setCell (p := ⟨Bg, 1, none⟩) hB v'

theorem cell_two_new (w : World) (x y : Value) (t : TypeId) : ∀ j u, [x, y][j]? = some u → (w.alloc (.cells #[x, y] t)).cell? ((⟨w.heap.size, 0, none⟩ : Addr).add j) = some u := by
  intro j u hj
  match j, hj with
  | 0, hj => simp at hj; subst hj; simp [Addr.add]
  | 1, hj => simp at hj; subst hj; simp [Addr.add]

theorem own_any2 {w : World} {base n : Nat} {e : TypeId} {v : Value} {xs : List Value} (h : w.ownsRow base e 2 v n xs) : ∃ A cap, v = .slice A n cap := by
  rcases h.2 with ⟨rfl, rfl⟩ | ⟨g, cap, cur, hv, _⟩
  · exact ⟨_, _, rfl⟩
  · exact ⟨_, _, hv⟩
theorem own_rdE {w : World} {base c : Nat} {e : TypeId} {A : Option Addr} {es : List (Int × Int)} (h : w.ownsRow base e 2 (.slice A es.length c) es.length (eVals es))
    (hlo1 : ∀ k, -9223372036854775808 ≤ (ed es k).1) (hhi1 : ∀ k, (ed es k).1 ≤ 9223372036854775807) (hlo2 : ∀ k, -9223372036854775808 ≤ (ed es k).2) (hhi2 : ∀ k, (ed es k).2 ≤ 9223372036854775807) (hroom : es.length ≤ 1099511627776) : RdE w w.heap.size A es := by
  refine ⟨hlo1, hhi1, hlo2, hhi2, hroom, fun hn => ?_⟩
  rcases h.2 with ⟨_, h0⟩ | ⟨g, cap, cur, hv, hb, hg, _⟩
  · omega
  · injection hv with hA _ hc
    subst hA
    subst hc
    refine ⟨g, 0, rfl, (Array.getElem?_eq_some_iff.1 hg).1, fun k hk => ?_⟩
    rw [Nat.zero_add, h.cellAt (k * 2) (by omega), h.cellAt (k * 2 + 1) (by omega)]
    exact eVals_at es k hk
theorem elI_ed (l : List (Nat × Nat)) (m : Nat) (hm : m ≤ 200) (h : ∀ e ∈ l, e.1 < m ∧ e.2 < m) (k : Nat) : (0 ≤ (ed (elI l) k).1 ∧ (ed (elI l) k).1 ≤ 200) ∧ 0 ≤ (ed (elI l) k).2 ∧ (ed (elI l) k).2 ≤ 200 := by
  unfold ed elI
  rw [List.getD_eq_getElem?_getD, List.getElem?_map]
  cases he : l[k]? with
  | none => simp
  | some e =>
    have hmem := h e (List.mem_of_getElem? he)
    simp
    omega
theorem edVals_lt {m : Nat} (ys : List (Ed m)) : ∀ e ∈ edVals ys, e.1 < m ∧ e.2 < m := by
  intro e he
  unfold edVals at he
  obtain ⟨y, _, rfl⟩ := List.mem_map.1 he
  exact y.2

end Go.Proofs.YtipihchlhkjdjaaDoor

namespace Go.Proofs.YtipihchlhkjdjaaDoor
open Go.RowKit Go.Shelf
set_option maxRecDepth 100000

theorem results_row_tmp {P : Program} {fn : Func} {p u : Tmp} {ty : TypeId} (h : fn.results = #[.cell p ty, .tmp u]) (tmps : Array Value) (w : World) (g : Nat) (t : TypeId) (cs : Array Value) (fr : Nat × Nat) (d : TypeDesc)
    (hp : tmps.getD p undef = .pointer (some ⟨g, 0, none⟩)) (hg : w.heap[g]? = some (.cells cs t fr))
    (hu : P.underlying ty = some d) (hd : (match d with | .struct _ | .array _ _ => true | _ => false) = true) (hi : (P.info? ty).map (·.size) = some cs.size) :
    (results fn tmps).run P w = .ok (.tuple #[.agg cs, tmps.getD u undef]) w := by
  have hp' : tmps[p]?.getD undef = .pointer (some ⟨g, 0, none⟩) := by simpa using hp
  simp [results, h, hp', asAddr, run_loadVar_row w g t ty cs fr d hg hu hd hi]

theorem errn_split {N : Int} {es : List (Int × Int)} (h : errn N es = 0) : ∃ m : Nat, N = (m : Int) ∧ inR m es = true ∧ (ordr m es).length = m := by
  unfold errn at h
  split at h
  · rename_i hin
    have hm := okN_of hin
    obtain ⟨m, rfl⟩ : ∃ m : Nat, N = (m : Int) := ⟨N.toNat, by omega⟩
    rw [Int.toNat_natCast] at h
    have := ordr_le m es
    refine ⟨m, rfl, hin, ?_⟩
    split at h
    · omega
    · omega
  · omega

theorem rdE_nil (w : World) (B : Nat) (A : Option Addr) : RdE w B A [] := ⟨by simp [ed], by simp [ed], by simp [ed], by simp [ed], by simp, fun h => by simp at h⟩
theorem rdUU_nil (w : World) (B : Nat) (A : Option Addr) : RdUU w B A [] := ⟨by simp, fun _ => none, fun _ => 0, fun h => by simp at h, fun k h => by simp at h⟩

theorem RdE.set {w : World} {B n c : Nat} {A : Option Addr} {es : List (Int × Int)} (h : RdE w B A es) {p : Addr} (hp : (Value.slice A n c).ownBlock ≠ some p.block) (v : Value) : RdE (w.setCell p v) B A es :=
  ⟨h.lo1, h.hi1, h.lo2, h.hi2, h.room, fun hn => by
    obtain ⟨b, off, hA, hb, hc⟩ := h.rd hn
    have hne : p.block ≠ b := fun e => hp (by rw [hA, e]; rfl)
    exact ⟨b, off, hA, hb, fun k hk => ⟨(World.cell?_setCell_far w p _ v hne).trans (hc k hk).1, (World.cell?_setCell_far w p _ v hne).trans (hc k hk).2⟩⟩⟩

/-- what follows each node -/
def behs (m : Nat) (es : List (Int × Int)) : List (List Nat) := (List.range m).map (beh m es)
theorem behs_len (m : Nat) (es : List (Int × Int)) : (behs m es).length = m := by simp [behs]
theorem st_behs {m k : Nat} (es : List (Int × Int)) (h : k < m) : st (behs m es) k = beh m es k := st_map _ _ _ h
theorem behs_bits {m : Nat} {es : List (Int × Int)} (h : inR m es = true) : ∀ k, k < m → ∀ j, bitB (st (behs m es) k) j = true → j < m := fun k hk j hj => by
  rw [st_behs _ hk, beh_bit h] at hj
  exact (fw_lt h hj).2
theorem behs_room (m : Nat) (es : List (Int × Int)) : ∀ k, k < m → (st (behs m es) k).length ≤ 1024 := fun k hk => by rw [st_behs _ hk]; exact beh_len _ _ _
theorem mem_beh_lt {m : Nat} {es : List (Int × Int)} (h : inR m es = true) (k : Nat) : ∀ j, j ∈ mem (beh m es k) → j < m := fun j hj => by
  rw [mem_iff, beh_bit h] at hj
  exact (fw_lt h hj).2
/-- what follows a node at once -/
def corS (m : Nat) (es : List (Int × Int)) (k : Nat) : List Nat := mrg lessN (beh m es k) (unionL (behs m es) (mem (beh m es k)))
def cors (m : Nat) (es : List (Int × Int)) : List (List Nat) := (List.range m).map (corS m es)
theorem cors_len (m : Nat) (es : List (Int × Int)) : (cors m es).length = m := by simp [cors]
theorem st_cors {m k : Nat} (es : List (Int × Int)) (h : k < m) : st (cors m es) k = corS m es k := st_map _ _ _ h
theorem behU_len {m : Nat} {es : List (Int × Int)} (h : inR m es = true) (k : Nat) : (unionL (behs m es) (mem (beh m es k))).length ≤ 1024 := unionL_len _ _ fun j hj => behs_room m es j (mem_beh_lt h k j hj)
theorem corS_len {m : Nat} {es : List (Int × Int)} (h : inR m es = true) (k : Nat) : (corS m es k).length ≤ 1024 := by
  have h1 := mrg_le lessN (beh m es k) (unionL (behs m es) (mem (beh m es k)))
  have h2 := beh_len m es k
  have h3 := behU_len h k
  unfold corS
  omega
theorem corS_bit {m : Nat} {es : List (Int × Int)} (h : inR m es = true) (k j : Nat) : bitB (corS m es k) j = (fw (gR es) m k j && !((List.range m).any fun c => fw (gR es) m k c && fw (gR es) m c j)) := by
  unfold corS
  rw [less_bit _ _ (unionL_ws _ _ fun c hc => by rw [st_behs _ (mem_beh_lt h k c hc)]; exact beh_ws _ _ _), beh_bit h, union_bit]
  congr 2
  rw [Bool.eq_iff_iff, List.any_eq_true, List.any_eq_true]
  constructor
  · rintro ⟨c, hc, e⟩
    have hlt := mem_beh_lt h k c hc
    rw [st_behs _ hlt, beh_bit h] at e
    rw [mem_iff, beh_bit h] at hc
    exact ⟨c, List.mem_range.2 hlt, by rw [hc, e]; rfl⟩
  · rintro ⟨c, hc, e⟩
    rw [Bool.and_eq_true] at e
    refine ⟨c, by rw [mem_iff, beh_bit h]; exact e.1, ?_⟩
    rw [st_behs _ (List.mem_range.1 hc), beh_bit h]
    exact e.2
theorem cors_bits {m : Nat} {es : List (Int × Int)} (h : inR m es = true) : ∀ k, k < m → ∀ j, bitB (st (cors m es) k) j = true → j < m := fun k hk j hj => by
  rw [st_cors _ hk, corS_bit h, Bool.and_eq_true] at hj
  exact (fw_lt h hj.1).2
theorem cors_room {m : Nat} {es : List (Int × Int)} (h : inR m es = true) : ∀ k, k < m → (st (cors m es) k).length ≤ 1024 := fun k hk => by rw [st_cors _ hk]; exact corS_len h k

/-- the graph of the answer: its nodes, and its edges -/
def nG (N : Int) (es : List (Int × Int)) : Int := if errn N es = 0 then N else 0
def behG (N : Int) (es : List (Int × Int)) : List (List Nat) := if errn N es = 0 then behs N.toNat es else []
def clsG (N : Int) (es : List (Int × Int)) : List (Int × Int) := if errn N es = 0 then elI (elist (behs N.toNat es) N.toNat) else []
def corG (N : Int) (es : List (Int × Int)) : List (Int × Int) := if errn N es = 0 then elI (elist (cors N.toNat es) N.toNat) else []

theorem behind_any (A : Option Addr) (c : Nat) (N : Int) (es : List (Int × Int)) (w : World) (he : RdE w w.heap.size A es) (hT : Tab w) :
    Calls Tryd.prog 37 #[.agg #[.int .i64 N, .slice A es.length c]] w fun e w' => ∃ A1 c1, e = .returned (.tuple #[.slice A1 (behG N es).length c1, .int .i64 (errn N es)]) ∧ RdUU w' w'.heap.size A1 (behG N es) ∧ Below w.heap.size w w' := by
  by_cases hE : errn N es = 0
  · obtain ⟨m, rfl, hin, hfull⟩ := errn_split hE
    refine (callsIn_wide.1 (behind_in 14 (Nat.le_refl _) A c m es w he hin hfull hT)).mono ?_
    rintro e w' ⟨A1, rfl, h1, h2⟩
    have hb : behG m es = behs m es := by unfold behG; rw [if_pos hE, Int.toNat_natCast]
    rw [hb, hE, behs_len]
    exact ⟨A1, m, rfl, h1, h2⟩
  · refine (behind_no A c N es w he hT hE).mono ?_
    rintro e w' ⟨rfl, h2⟩
    have hb : behG N es = [] := by unfold behG; rw [if_neg hE]
    rw [hb]
    exact ⟨none, 0, rfl, rdUU_nil _ _ _, h2⟩
end Go.Proofs.YtipihchlhkjdjaaDoor
