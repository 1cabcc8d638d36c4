/-
  Contract of the reference's reach: which node leads to which, by Floyd and Warshall, for every graph in range.
  Contracts of the reference's BWrong and of graph.Wrong: the same answer, for every graph.
  A region that draws its order, within a round of a loop over an iterator: what every order gives in a plain frame, it gives in the round. No condition but that nothing is deferred.
  Contract of graph.Behind.
-/
import Derived.Test.YtafdpimkfkddaaaDoorPk01
import Derived.Test.YtafdpimkfkddaaaDoorPk04
import Derived.StillTailTactics
import Derived.BigRegion
import Derived.Test.YtafdpimkfkddaaaDoorPk06
import Derived.RangeFuncCalls
import Derived.Deep.RegionHeld3
import Derived.OrdersIn
import Derived.WalkKit
import Derived.Shelf.RegionOpen
namespace Go.Proofs.YtafdpimkfkddaaaDoor
open Go.RowKit
set_option maxRecDepth 100000

theorem Tryd.infoSB : (Tryd.prog.info? 58).map (fun i => (i.zero, i.size, i.bytes)) = some (some (.slice none 0 0), 1, 24) := by kernel_rfl
theorem Tryd.infoB : (Tryd.prog.info? 4).map (fun i => (i.zero, i.size, i.bytes)) = some (some (.bool false), 1, 1) := by kernel_rfl

/-- a matrix of bools: block g holds the rows, row i lies in block g + 1 + i -/
structure BM (T E : TypeId) (w : World) (g m : Nat) (b : Nat → Nat → Bool) : Prop where
  row : w.rowIs g T m (fun i => .slice (some ⟨g + 1 + i, 0, none⟩) m m)
  el : ∀ i, i < m → w.rowIs (g + 1 + i) E m (fun j => .bool (b i j))
theorem BM.alloc {T E : TypeId} {w : World} {g m : Nat} {b : Nat → Nat → Bool} (h : BM T E w g m b) (o : Obj) : BM T E (w.alloc o) g m b := ⟨h.row.alloc o, fun i hi => (h.el i hi).alloc o⟩
theorem BM.drew {T E : TypeId} {w : World} {g m : Nat} {b : Nat → Nat → Bool} (h : BM T E w g m b) : BM T E w.drew g m b := ⟨h.row.drew, fun i hi => (h.el i hi).drew⟩
theorem BM.step {T E : TypeId} {w w' : World} {g m : Nat} {b : Nat → Nat → Bool} (h : BM T E w g m b) (hb : Below w.heap.size w w') : BM T E w' g m b := ⟨rowIs_step h.row hb, fun i hi => rowIs_step (h.el i hi) hb⟩
theorem BM.congr {T E : TypeId} {w : World} {g m : Nat} {b b' : Nat → Nat → Bool} (h : BM T E w g m b) (hb : ∀ i j, i < m → j < m → b i j = b' i j) : BM T E w g m b' := ⟨h.row, fun i hi => (h.el i hi).congr fun j hj => by rw [hb i j hi hj]⟩
theorem BM.set {T E : TypeId} {w : World} {g m : Nat} {b : Nat → Nat → Bool} (h : BM T E w g m b) (i j : Nat) (v : Bool) : BM T E (w.setCell ⟨g + 1 + i, j, none⟩ (.bool v)) g m (fun x y => if x = i ∧ y = j then v else b x y) := by
  refine ⟨h.row.setOther (by simp; omega) _, fun x hx => ?_⟩
  by_cases e : x = i
  · subst e
    refine ((h.el x hx).set j (.bool v)).congr fun y hy => ?_
    by_cases e2 : y = j <;> simp [e2]
  · refine ((h.el x hx).setOther (by simp; omega) _).congr fun y hy => ?_
    simp [e]
theorem BM.c1 {T E : TypeId} {w : World} {g m : Nat} {b : Nat → Nat → Bool} (h : BM T E w g m b) {i : Nat} (hi : i < m) : w.cell? ⟨g, i, none⟩ = some (.slice (some ⟨g + 1 + i, 0, none⟩) m m) := h.row.cell hi
theorem BM.c2 {T E : TypeId} {w : World} {g m : Nat} {b : Nat → Nat → Bool} (h : BM T E w g m b) {i j : Nat} (hi : i < m) (hj : j < m) : w.cell? ⟨g + 1 + i, j, none⟩ = some (.bool (b i j)) := (h.el i hi).cell hj
theorem BM.f2 {T E : TypeId} {w : World} {g m : Nat} {b : Nat → Nat → Bool} (h : BM T E w g m b) {i : Nat} (hi : i < m) (j : Nat) : w.frozen? ⟨g + 1 + i, j, none⟩ = false := (h.el i hi).frozen j
theorem BM.lt {T E : TypeId} {w : World} {g m : Nat} {b : Nat → Nat → Bool} (h : BM T E w g m b) {i : Nat} (hi : i < m) : g + 1 + i < w.heap.size := (h.el i hi).lt

/-- the rows made so far -/
structure BM0 (T E : TypeId) (w : World) (g m k : Nat) : Prop where
  row : w.rowIs g T m (fun i => if i < k then .slice (some ⟨g + 1 + i, 0, none⟩) m m else .slice none 0 0)
  el : ∀ i, i < k → w.rowIs (g + 1 + i) E m (fun _ => .bool false)
  size : w.heap.size = g + 1 + k
theorem BM0.step {T E : TypeId} {w : World} {g m k : Nat} (h : BM0 T E w g m k) : BM0 T E ((w.setCell ⟨g, k, none⟩ (.slice (some ⟨w.heap.size, 0, none⟩) m m)).alloc (.cells (madeCells #[.bool false] m) E)) g m (k + 1) := by
  have hs := h.size
  refine ⟨((h.row.set k _).alloc _).congr fun i hi => ?_, fun i hi => ?_, by simp; omega⟩
  · by_cases e : i = k
    · subst e; rw [if_pos rfl, if_pos (by omega), hs]
    · rw [if_neg e]
      by_cases e2 : i < k
      · rw [if_pos e2, if_pos (by omega)]
      · rw [if_neg e2, if_neg (by omega)]
  · by_cases e : i = k
    · subst e
      have := World.rowIs_made (w.setCell ⟨g, i, none⟩ (.slice (some ⟨w.heap.size, 0, none⟩) m m)) (.bool false) m E
      rw [World.size_setCell, hs] at this
      rw [hs]
      exact this
    · exact ((h.el i (by omega)).setOther (by simp; omega) _).alloc _

theorem BM.fw {T E : TypeId} {w : World} {g m i1 j1 : Nat} {F0 F1 : Nat → Nat → Bool} (h : BM T E w g m (fun x y => if x < i1 ∨ (x = i1 ∧ y < j1) then F1 x y else F0 x y)) {v : Bool} (hv : F1 i1 j1 = v) :
    BM T E (w.setCell ⟨g + 1 + i1, j1, none⟩ (.bool v)).drew g m (fun x y => if x < i1 ∨ (x = i1 ∧ y < j1 + 1) then F1 x y else F0 x y) := (h.set i1 j1 v).drew.congr fun x y _ _ => by
  by_cases e : x = i1 ∧ y = j1
  · obtain ⟨rfl, rfl⟩ := e
    rw [if_pos ⟨rfl, rfl⟩, if_pos (by omega), hv]
  · rw [if_neg e]
    by_cases e2 : x < i1 ∨ (x = i1 ∧ y < j1)
    · rw [if_pos e2, if_pos (by omega)]
    · rw [if_neg e2, if_neg (by omega)]

end Go.Proofs.YtafdpimkfkddaaaDoor

namespace Go.Proofs.YtafdpimkfkddaaaDoor
open Go.RowKit Go.Shelf
set_option maxRecDepth 100000

/-- what is wrong with a graph -/
def errn (N : Int) (es : List (Int × Int)) : Int := if inR N es = true then (if (ordr N.toNat es).length < N.toNat then 3 else 0) else 2
theorem errn_no {N : Int} {es : List (Int × Int)} (h : inR N es = false) : errn N es = 2 := by unfold errn; rw [h]; rfl
theorem errn_loop {m : Nat} {es : List (Int × Int)} (h : inR m es = true) (hl : (ordr m es).length < m) : errn m es = 3 := by unfold errn; rw [h, if_pos rfl, Int.toNat_natCast, if_pos hl]
theorem errn_ok {m : Nat} {es : List (Int × Int)} (h : inR m es = true) (hl : (ordr m es).length = m) : errn m es = 0 := by unfold errn; rw [h, if_pos rfl, Int.toNat_natCast, if_neg (by omega)]
theorem ordr_le (m : Nat) (es : List (Int × Int)) : (ordr m es).length ≤ m := (good_topoN _ _ _).len
theorem loop_iff {m : Nat} {es : List (Int × Int)} (h : inR m es = true) : (ordr m es).length < m ↔ ∃ x, x < m ∧ fw (gR es) m x x = true := by
  have h1 := topo_iff (gR_lt h)
  have h2 := ordr_le m es
  have h3 : (ordr m es).length = m ↔ ∀ x, ¬ Path (gR es) x x := h1
  constructor
  · intro hl
    false_or_by_contra
    rename_i hc
    have : (ordr m es).length = m := h3.2 fun x p => hc ⟨x, p.lt1 (gR_lt h), (fw_iff (gR_lt h) x x).2 p⟩
    omega
  · rintro ⟨x, hx, hf⟩
    rcases Nat.lt_or_ge (ordr m es).length m with h4 | h4
    · exact h4
    · exact absurd ((fw_iff (gR_lt h) x x).1 hf) (h3.1 (by omega) x)


theorem errno_any (A : Option Addr) (c : Nat) (N : Int) (es : List (Int × Int)) (w : World) (he : RdE w w.heap.size A es) (hT : Tab w) :
    Calls Tryd.prog 31 #[.agg #[.int .i64 N, .slice A es.length c]] w fun e w' => ∃ v, e = .returned (.tuple #[v, .int .i64 (errn N es)]) ∧ Below w.heap.size w w' := by
  cases hin : inR N es with
  | false => exact (sort_no A c N es w he hin).mono fun e w' ⟨h1, h2⟩ => ⟨.slice none 0 0, by rw [h1, errn_no hin], h2⟩
  | true =>
    have hm := okN_of hin
    obtain ⟨m, rfl⟩ : ∃ m : Nat, N = (m : Int) := ⟨N.toNat, by omega⟩
    refine (callsIn_wide.1 (sort_in 12 (Nat.le_refl _) A c m es w he hin hT)).mono ?_
    rintro e w' ⟨(⟨hl, v, rfl, _⟩ | ⟨hl, rfl⟩), hb⟩
    · exact ⟨v, by rw [errn_ok hin hl], hb⟩
    · exact ⟨.slice none 0 0, by rw [errn_loop hin hl], hb⟩
end Go.Proofs.YtafdpimkfkddaaaDoor

namespace Go.Proofs.YtafdpimkfkddaaaDoor
open Go.RowKit

theorem operIn_of {l n : Nat} {P : Program} {o : Oper} {a : Act} {w : World} {K : Act → World → Prop} {Q : Exit → Act → World → Prop} (hd : ∀ c, o.op ≠ .defer c) (h : o.wp P a w K Q) : o.wpIn (Fence.wide.inRound l) n P a w K Q := by
  refine ⟨fun _ _ => trivial, ?_⟩
  have he : o.semAt (Fence.wide.inRound l).round a.eval = execOp a.eval o := Oper.semAt_some l a.eval o hd
  rw [he]
  unfold Oper.wp at h
  generalize (execOp a.eval o).run P w = r at *
  cases r with
  | ok x w' =>
    cases x <;> simp only [Oper.upon] at h <;> simp only [Oper.uponIn] <;>
      first
        | exact h
        | exact h.elim
        | exact ⟨(fun hh => (by cases hh)), (callsIn_wide.2 h : CallsIn Fence.wide _ P _ _ _ _)⟩
        | exact ⟨(fun hh => (by cases hh)), fun c cs _ => let ⟨v, w'', r, s⟩ := h c cs; ⟨v, w'', r, stepsIn_wide.2 s⟩⟩
  | halt x w' => cases x <;> simp only [Oper.upon] at h <;> simp only [Oper.uponIn] <;> first | exact h | exact h.elim

theorem opIn_of {l n : Nat} {P : Program} {ops : Array Oper} {Q : Exit → Act → World → Prop} (hd : ∀ (i : Nat) (o : Oper), ops[i]? = some o → ∀ c, o.op ≠ .defer c) (hQ : ¬ LetsOut Q) {i : Nat} {K K' : Act → World → Prop} {a : Act} {w : World} (h : wpOp P ops Q i K a w) (hK : ∀ a w, K a w → K' a w) :
    wpOpIn (Fence.wide.inRound l) n P ops Q i K' a w := by
  unfold wpOp at h
  unfold wpOpIn
  cases ho : ops[i]? with
  | none => simp only [ho] at h ⊢; exact hK _ _ h
  | some o =>
    simp only [ho] at h ⊢
    by_cases hw : Region.wanted o (yielded ops a.tmps) = true
    · simp only [hw, if_true] at h ⊢
      rcases h with h | h
      · exact operIn_of (hd i o ho) (Oper.wp_mono hK h)
      · exact absurd h.2 hQ
    · have hw' : Region.wanted o (yielded ops a.tmps) = false := by simpa using hw
      simp only [hw', Bool.false_eq_true, if_false] at h ⊢
      exact ⟨fun _ _ => trivial, hK _ _ h⟩

theorem anyIn_of {l n : Nat} {P : Program} {md : Region.Mode} {ops : Array Oper} {Q : Exit → Act → World → Prop} (hd : ∀ (i : Nat) (o : Oper), ops[i]? = some o → ∀ c, o.op ≠ .defer c) (hQ : ¬ LetsOut Q) :
    ∀ (fuel : Nat) (listed : Array Bool) (a : Act) (w : World), wpAny P md ops Q fuel listed a w → wpAnyIn (Fence.wide.inRound l) n P md ops Q fuel listed a w
  | 0, _, _, _, h => h
  | fuel + 1, _, _, _, h => ⟨h.1, fun i hi => opIn_of hd hQ (h.2 i hi) fun a' w' h' => anyIn_of hd hQ fuel _ a' w' h'⟩

/-- THE BEGINNING: S holds behind the draw; then the orders of a plain frame, S shown anew behind each operation that is carried out. -/
theorem wpIn_region_round {l n : Nat} {P : Program} {id : Nat} {ops : Array Oper} {Q : Exit → Act → World → Prop} {a : Act} {w : World} {S : World → Prop} (hm : P.follows .mixedOrders = true)
    (hd : ops.all (fun o => match o.op with | .defer _ => false | _ => true) = true) (hQ : ∀ a w, ¬ Q .outgrown a w) (hS : S w.drew) (h : S w.drew → wpAnyH P .any ops Q S ops.size (Array.replicate ops.size false) a w.drew) :
    (Code.region id ops true).wpIn (Fence.wide.inRound l) n P Q a w := by
  refine wpIn_region_any hm (anyIn_of (fun i o ho c hc => ?_) (fun ⟨a', w', h'⟩ => hQ a' w' h') _ _ _ _ (wpAny_of_held _ _ _ _ (h hS)))
  have hi := (Array.getElem?_eq_some_iff.1 ho).1
  have := Array.all_eq_true.1 hd i hi
  rw [(Array.getElem?_eq_some_iff.1 ho).2, hc] at this
  cases this
end Go.Proofs.YtafdpimkfkddaaaDoor

namespace Go.Proofs.YtafdpimkfkddaaaDoor
open Go.RowKit Go.Shelf
set_option maxRecDepth 100000

attribute [local go_sem] Oper.semAt_some

theorem opor_own (A A' : Option Addr) (c c' : Nat) (xs ys : List Nat) (w : World) (hx : RdU w w.heap.size A xs) (hy : RdU w w.heap.size A' ys) (hxl : xs.length ≤ 35184372088832) (hyl : ys.length ≤ 35184372088832) :
    Calls Tryd.prog 34 #[.slice A xs.length c, .slice A' ys.length c'] w fun e w' => ∃ A1 c1, e = .returned (.slice A1 (mrg orN xs ys).length c1) ∧ RdUp w' (fun b => w.heap.size ≤ b ∧ b < w'.heap.size) A1 (mrg orN xs ys) ∧ Below w.heap.size w w' := by
  go_enter Tryd.func34, Tryd.ntmps34
  go_wp2_with fail
  refine (mergeorN_any A A' c c' xs ys _ hx hy hxl hyl).mono ?_
  rintro e w1 ⟨v, rfl, hown, hB⟩
  have hle := mrg_le orN xs ys
  obtain ⟨A1, c1, rfl, hr⟩ := own_rdUp hown (fun k => by rw [mrg_wd rfl]; exact orN_lt _ _ (hx.lt k) (hy.lt k)) (by omega)
  have hr2 := hr.lt'
  clear hown hr
  go_wp2
  go_ret
  exact ⟨_, _, rfl, hr2, hB⟩

theorem behind_no (A : Option Addr) (c : Nat) (N : Int) (es : List (Int × Int)) (w : World) (he : RdE w w.heap.size A es) (hT : Tab w) (hE : errn N es ≠ 0) :
    Calls Tryd.prog 25 #[.agg #[.int .i64 N, .slice A es.length c]] w fun e w' => e = .returned (.tuple #[.slice none 0 0, .int .i64 (errn N es)]) ∧ Below w.heap.size w w' := by
  obtain ⟨E, hEE⟩ : ∃ E, E = errn N es := ⟨_, rfl⟩
  rw [← hEE] at hE
  have hb : (E != 0) = true := by simpa using hE
  have HE := Lib.hid hEE
  clear hE hEE
  go_enter Tryd.func25, Tryd.ntmps25
  go_wp2_with fail
  have hb1 := below_alloc w (.cells #[.int .i64 N, .slice A es.length c] 29)
  obtain ⟨w1, hw1⟩ : ∃ w1, w1 = w.alloc (.cells #[.int .i64 N, .slice A es.length c] 29) := ⟨_, rfl⟩
  rw [← hw1] at hb1 ⊢
  clear hw1
  refine (errno_any A c N es _ (he.step hb1) (hT.step hb1)).mono ?_
  rw [← HE.out]
  rintro e w2 ⟨v, rfl, hb2⟩
  have hbb := hb1.trans (hb2.mono hb1.size)
  clear hb1 hb2
  go_wp2
  go_ret2
  exact ⟨by rw [HE.out]; rfl, hbb⟩

theorem Keeps.trans_lt {p q : Nat → Prop} {A B C : World} (h : Keeps p A B) (k : Keeps q B C) (hq : ∀ i, i < A.heap.size → p i → q i) : Keeps p A C :=
  ⟨k.os.trans h.os, k.tape.trans h.tape, k.output.trans h.output, Nat.le_trans h.size k.size, fun i hi hp => (k.block i (Nat.lt_of_lt_of_le hi h.size) (hq i hi hp)).trans (h.block i hi hp)⟩
/-- a row of sets, in blocks that O names -/
def OwnUO (T : TypeId) (w : World) (O : Nat → Prop) (g n : Nat) (xs : Nat → List Nat) : Prop := O g ∧ ∃ (a : Nat → Option Addr) (c : Nat → Nat), w.rowIs g T n (fun i => .slice (a i) (xs i).length (c i)) ∧ ∀ i, i < n → RdUp w O (a i) (xs i)
theorem OwnUO.new (T : TypeId) (w : World) (O : Nat → Prop) (n : Nat) (hO : O w.heap.size) : OwnUO T (w.alloc (.cells (madeCells #[.slice none 0 0] n) T)) O w.heap.size n (fun _ => []) :=
  ⟨hO, fun _ => none, fun _ => 0, World.rowIs_made _ _ _ _, fun _ _ => rdUp_nil _ _ _⟩
theorem OwnUO.keeps {T : TypeId} {w w' : World} {O p : Nat → Prop} {g n : Nat} {xs : Nat → List Nat} (h : OwnUO T w O g n xs) (hk : Keeps p w w') (hp : ∀ b, O b → p b) : OwnUO T w' O g n xs := by
  obtain ⟨h0, a, c, h1, h2⟩ := h
  exact ⟨h0, a, c, h1.of_block (hk.block g h1.lt (hp g h0)), fun i hi => (h2 i hi).keeps hk hp⟩
theorem OwnUO.imp {T : TypeId} {w : World} {O O' : Nat → Prop} {g n : Nat} {xs : Nat → List Nat} (h : OwnUO T w O g n xs) (ho : ∀ b, O b → O' b) : OwnUO T w O' g n xs := by
  obtain ⟨h0, a, c, h1, h2⟩ := h
  exact ⟨ho g h0, a, c, h1, fun i hi => (h2 i hi).imp ho⟩
theorem OwnUO.set {T : TypeId} {w : World} {O : Nat → Prop} {g n i : Nat} {xs : Nat → List Nat} (h : OwnUO T w O g n xs) {A : Option Addr} {c' : Nat} {l : List Nat} (hl : RdUp w O A l) : OwnUO T (w.setCell ⟨g, i, none⟩ (.slice A l.length c')) O g n (fun j => if j = i then l else xs j) := by
  obtain ⟨h0, a, c, h1, h2⟩ := h
  refine ⟨h0, fun j => if j = i then A else a j, fun j => if j = i then c' else c j, (h1.set i (.slice A l.length c')).congr fun j hj => ?_, fun j hj => ?_⟩
  · by_cases e : j = i
    · simp [e]
    · simp [e]
  · by_cases e : j = i
    · simp only [if_pos e]; exact hl.setRow h1 _
    · simp only [if_neg e]; exact (h2 j hj).setRow h1 _
theorem OwnUO.rd {T : TypeId} {w : World} {O : Nat → Prop} {g n : Nat} {xs : Nat → List Nat} (h : OwnUO T w O g n xs) (hn : n ≤ 1048576) : RdUUp w O (some ⟨g, 0, none⟩) ((List.range n).map xs) := by
  obtain ⟨h0, a, c, h1, h2⟩ := h
  refine ⟨by simpa using hn, a, c, fun hlen => ⟨g, 0, rfl, h0, fun k hk => ?_⟩, fun k hk => ?_⟩
  · simp at hk
    rw [Nat.zero_add, h1.cell hk, st_map xs n k hk]
  · simp at hk
    rw [st_map xs n k hk]
    exact h2 k hk
theorem OwnUO.cell {T : TypeId} {w : World} {O : Nat → Prop} {g n : Nat} {xs : Nat → List Nat} (h : OwnUO T w O g n xs) {i : Nat} (hi : i < n) : ∃ v, w.cell? ⟨g, i, none⟩ = some v ∧ w.frozen? ⟨g, i, none⟩ = false ∧ g < w.heap.size := by
  obtain ⟨h0, a, c, h1, h2⟩ := h
  exact ⟨_, h1.cell hi, h1.frozen i, h1.lt⟩

set_option maxHeartbeats 4000000 in
theorem behind_in (n : Nat) (hn : 14 ≤ n) (A : Option Addr) (c m : Nat) (es : List (Int × Int)) (w : World) (he : RdE w w.heap.size A es) (hin : inR m es = true) (hfull : (ordr m es).length = m) (hT : Tab w) :
    CallsIn Fence.wide n Tryd.prog 25 #[.agg #[.int .i64 (m : Int), .slice A es.length c]] w fun e w' => ∃ A1, e = .returned (.tuple #[.slice A1 m m, .int .i64 0]) ∧ RdUU w' w'.heap.size A1 ((List.range m).map (beh m es)) ∧ Below w.heap.size w w' := by
  have h1 : 1 ≤ n := by omega
  have hm := okN_of hin
  have hm2 : m ≤ 200 := by omega
  have hok := okE_of hin
  have hmk := run_make_row' (P := Tryd.prog) 73 77 (.slice none 0 0) 24 Tryd.underlying73 Tryd.infoSU rfl .i64 .i64 m (by omega) (by omega)
  refine callsIn_of_wp_marks Tryd.func25 rfl trivial ?_ rfl
  simp only [Tryd.ntmps25, List.size_toArray, List.length_cons, List.length_nil, Nat.reduceAdd, Nat.reduceSub, Array.replicate_succ, Array.replicate_zero, List.push_toArray, List.append_toArray, List.nil_append, List.cons_append]
  gi_wp2_with fail
  have hG := GBox.new w m A es.length c 29
  obtain ⟨w1, hw1⟩ : ∃ w1, w1 = w.alloc (.cells #[.int .i64 (m : Int), .slice A es.length c] 29) := ⟨_, rfl⟩
  have hb1 : Below w.heap.size w w1 := by rw [hw1]; exact below_alloc _ _
  have hs1 : w.heap.size < w1.heap.size := by rw [hw1]; simp
  rw [← hw1] at hG ⊢
  have he1 := he.step hb1
  have hT1 := hT.step hb1
  clear hw1 hm
  refine ⟨trivial, ?_⟩
  refine (sort_in (n - 1) (by omega) A c m es _ he1 hin hT1).mono ?_
  rintro e w2 ⟨(⟨_, v, rfl, hown⟩ | ⟨hlt, _⟩), hb2⟩
  · have hG2 := hG.below hb2 hs1
    have hB2 : Below w.heap.size w w2 := hb1.trans (hb2.mono hb1.size)
    have hs2 : w.heap.size < w2.heap.size := Nat.lt_of_lt_of_le hs1 hb2.size
    obtain ⟨o, ho⟩ : ∃ o, o = ordr m es := ⟨_, rfl⟩
    rw [← ho] at hown hfull
    have hgood : Good (gR es) m o := by rw [ho]; exact good_topoN _ _ _
    obtain ⟨Ao, co, rfl, ho2⟩ := own_rdNp hown (by omega)
    have hgn := hG2.n
    have hge := hG2.e
    have he2 := (he1.step hb2)
    have hT2 := hT1.step hb2
    clear hb1 hs1 hb2 hG he1 hT1 hown ho he
    gi_wp2_with fail
    refine ⟨trivial, ?_⟩
    refine (callsIn_wide.2 (successors_any _ _ m es _ he2 hm2 hok)).mono ?_
    rintro e w3 ⟨A4, rfl, hu3, hb3⟩
    have hG3 := hG2.below hb3 hs2
    have hgn' := hG3.n
    have hB3 : Below w.heap.size w w3 := hB2.trans (hb3.mono hB2.size)
    have hs3 : w.heap.size < w3.heap.size := Nat.lt_of_lt_of_le hs2 hb3.size
    have ho3 := ho2.keeps (Keeps.of_below (p := fun b => b < w2.heap.size) hb3 fun _ _ h => h) (fun b hb => hb.2)
    have hT3 := hT2.step hb3
    clear hgn hge hG2 ho2 hT2 hB2 he2
    gi_wp2_with (refine ⟨trivial, ?_⟩; refine (backward_in (n - 1) _ _ _ _).mono ?_; rintro e w' ⟨rfl, rfl⟩)
    have hh6 := ((Boxed.new w3 73 (.slice A4 m m)).alloc (.cells (madeCells #[.slice none 0 0] m) 77)).alloc (.cells #[.slice (some ⟨w3.heap.size + 1, 0, none⟩) m m] 73) |>.alloc (.cells #[.slice Ao m co] 84)
    have hU0 := OwnUO.new 77 (w3.alloc (.cells #[.slice A4 m m] 73)) (fun b => b = w3.heap.size + 1) m (by simp)
    have hk0 : Keeps (fun _ => True) ((w3.alloc (.cells #[.slice A4 m m] 73)).alloc (.cells (madeCells #[.slice none 0 0] m) 77)) ((((w3.alloc (.cells #[.slice A4 m m] 73)).alloc (.cells (madeCells #[.slice none 0 0] m) 77)).alloc (.cells #[.slice (some ⟨w3.heap.size + 1, 0, none⟩) m m] 73)).alloc (.cells #[.slice Ao m co] 84)) := ((Keeps.refl _ _).alloc _).alloc _
    have hU1 := hU0.keeps hk0 (fun _ _ => trivial)
    have hh7 := (Boxed.new ((w3.alloc (.cells #[.slice A4 m m] 73)).alloc (.cells (madeCells #[.slice none 0 0] m) 77)) 73 (.slice (some ⟨w3.heap.size + 1, 0, none⟩) m m)).alloc (.cells #[.slice Ao m co] 84)
    have hh8 := Boxed.new (((w3.alloc (.cells #[.slice A4 m m] 73)).alloc (.cells (madeCells #[.slice none 0 0] m) 77)).alloc (.cells #[.slice (some ⟨w3.heap.size + 1, 0, none⟩) m m] 73)) 84 (.slice Ao m co)
    simp only [World.size_alloc] at hU1 hh7 hh8
    obtain ⟨w4, hw4⟩ : ∃ w4, w4 = (((w3.alloc (.cells #[.slice A4 m m] 73)).alloc (.cells (madeCells #[.slice none 0 0] m) 77)).alloc (.cells #[.slice (some ⟨w3.heap.size + 1, 0, none⟩) m m] 73)).alloc (.cells #[.slice Ao m co] 84) := ⟨_, rfl⟩
    have hb4 : Below w3.heap.size w3 w4 := by rw [hw4]; exact ((((Below.refl _ w3).alloc (Nat.le_refl _) _).alloc (by simp) _).alloc (by simp; omega) _).alloc (by simp; omega) _
    have hs4 : w4.heap.size = w3.heap.size + 4 := by rw [hw4]; simp
    rw [← hw4] at hh6 hU1 hh7 hh8 ⊢
    have hB4 : Below w.heap.size w w4 := hB3.trans (hb4.mono hB3.size)
    have ho4 := ho3.keeps (Keeps.of_below (p := fun b => b < w3.heap.size) hb4 fun _ _ h => h) (fun b hb => Nat.lt_of_lt_of_le hb.2 hb3.size)
    have hu4 := hu3.lt'.keeps (Keeps.of_below (p := fun b => b < w3.heap.size) hb4 fun _ _ h => h) (fun b hb => hb.2)
    have hT4 := hT3.step hb4
    have hTn : 0 < w3.heap.size := hT3.pos
    have hbs : w2.heap.size ≤ w3.heap.size := hb3.size
    clear hw4 hU0 hk0 hG3 hgn' ho3 hT3 hB3 hb4 hu3 hb3 hmk
    obtain ⟨g6, hg6⟩ : ∃ g6, g6 = w3.heap.size := ⟨_, rfl⟩
    rw [← hg6] at hh6 hh7 hh8 hU1 hs4 hs3 hu4 hTn hbs ⊢
    have hs4' : g6 + 3 < w4.heap.size := by omega
    have HS4 := Lib.hid hs4
    clear hg6 hs4
    have hom : ∀ x, x ∈ o → x < m := hgood.lt
    have hmo : Tryd.prog.follows .mixedOrders = true := by kernel_rfl
    refine wpIn_rangeFunc_O rfl h1 (gf := 41) (lb := #[.pointer (some ⟨g6 + 1 + 1 + 1, 0, none⟩)]) rfl trivial (enters_of Tryd.func41 (by kernel_rfl) rfl)
      (backward1_in (n - 1) (by omega) m (g6 + 1 + 1 + 1) co _ Ao o hom w4 ho4 (fun b hb => by omega) (by rw [hfull]; exact hh8.cell) (by omega)) (Keeps.refl _ _) (fun _ => rfl)
      (fun ys O W => (∀ b, O b → b = g6 + 1 ∨ w4.heap.size ≤ b) ∧ OwnUO 77 W O (g6 + 1) m (fun x => if x ∈ o.drop (m - ys.length) then beh m es x else []) ∧ Keeps (fun b => b ≠ g6 + 1) w4 W) (fun _ _ _ _ => False)
      ?stab (fun _ _ _ _ _ h _ => h.elim) (fun k => k = g6 + 1) ?own (fun k hk => by rcases hk with h | h <;> omega) ?start
      (fun pre x a' O W => ((∀ b, O b → b = g6 + 1 ∨ w4.heap.size ≤ b) ∧ OwnUO 77 W O (g6 + 1) m (fun x => if x ∈ o.drop (m - pre.length) then beh m es x else []) ∧ Keeps (fun b => b ≠ g6 + 1) w4 W) ∧ a' = { tmps := #[.agg #[.int .i64 (m : Int), .slice A es.length c], .pointer (some ⟨w.heap.size, 0, none⟩), .slice none 0 0, .int .i64 0, .slice Ao m co, .int .i64 0, .pointer (some ⟨g6, 0, none⟩), .pointer (some ⟨g6 + 1 + 1, 0, none⟩), undef, .int .i64 (x.1.2 : Int), .tuple #[.slice Ao m co, .int .i64 0], .agg #[.int .i64 (m : Int), .slice A es.length c], .tuple #[.slice Ao m co, .int .i64 0], .slice Ao m co, .int .i64 0, .int .i64 0, .bool false, undef, .agg #[.int .i64 (m : Int), .slice A es.length c], .slice A4 m m, .pointer (some ⟨w.heap.size, 0, none⟩), .int .i64 (m : Int), .slice (some ⟨g6 + 1, 0, none⟩) m m, .slice Ao m co, .func (.func 41) #[] #[.pointer (some ⟨g6 + 1 + 1 + 1, 0, none⟩)], .int .i64 (x.1.1 : Int), .int .i64 (x.1.2 : Int), undef, undef, undef, undef, undef, undef, undef, undef, undef, undef, undef, undef, undef, undef, undef], defers := [] })
      ?stabx ?assign ?body ?done ?stop
    case own =>
      intro k hk
      subst hk
      exact ⟨by omega, fun h => by rcases h with h | h <;> omega⟩
    case start =>
      refine ⟨fun b hb => .inl hb, ?_, Keeps.refl _ _⟩
      have e : (fun x => if x ∈ o.drop (m - ([] : List (Bk o.length m)).length) then beh m es x else []) = fun _ => [] := by
        funext x
        rw [if_neg]
        rw [List.drop_eq_nil_of_le (by simp; omega)]
        simp
      rw [e]
      exact hU1
    case stab =>
      rintro s O W W' ⟨h0, h, hb⟩ hk
      exact ⟨h0, h.keeps hk fun b hb => .inr hb, hb.trans_lt hk fun k hk1 _ => .inl hk1⟩
    case stabx =>
      rintro pre x a' s O W W' ⟨⟨h0, h, hb⟩, ha⟩ hk
      exact ⟨⟨h0, h.keeps hk fun b hb => .inr hb, hb.trans_lt hk fun k hk1 _ => .inl hk1⟩, ha⟩
    case assign =>
      intro l pre x O W K hI hlen hsz htop hK
      gi_wp2
      exact hK _ _ _ (StepO.refl htop) ⟨hI, rfl⟩
    case body =>
      rintro l pre x a' O W ⟨⟨hO1, hU, hkW⟩, rfl⟩ ⟨hl1, hl2, hoi⟩ hsz htop
      have h2n : 1 ≤ n - 1 - 1 := by omega
      obtain ⟨⟨i, nn⟩, hi1, hnm⟩ := x
      dsimp only at hl2 hoi hi1 hnm ⊢
      have e1 : m - pre.length = i + 1 := by omega
      rw [e1] at hU
      obtain ⟨f0, hf0⟩ : ∃ f0, f0 = fun x => if x ∈ o.drop (i + 1) then beh m es x else [] := ⟨_, rfl⟩
      rw [← hf0] at hU
      have hxx := (hU.rd (by omega)).toUU
      have hfl : ∀ k, (f0 k).length ≤ 1024 := fun k => by
        rw [hf0]
        dsimp only
        by_cases e : k ∈ o.drop (i + 1)
        · rw [if_pos e]; exact beh_len _ _ _
        · rw [if_neg e]; simp
      have hroom : ∀ k, k < m → (st ((List.range m).map f0) k).length ≤ 1024 := fun k hk => by rw [st_map _ _ _ hk]; exact hfl k
      have hbeh : mrg orN (nxt es nn) (unionL ((List.range m).map f0) (mem (nxt es nn))) = beh m es nn := beh_step hin nn _ fun c hc => by
        rw [st_map _ _ _ (gR_lt hin nn c hc).2, hf0]
        exact if_pos (succ_behind hin hgood hfull hoi hc)
      have hbits : ∀ j, j ∈ mem (nxt es nn) → j < m := fun j hj => by
        rw [mem_iff, nxt_bit hin] at hj
        exact (gR_lt hin nn j hj).2
      obtain ⟨b6, off6, A2, c2, rfl, hb6, hc6, hs6⟩ := (hu4.keeps hkW (fun b hb => by omega)).at_ (k := nn) (by simpa using hnm)
      rw [st_map _ _ _ hnm] at hc6 hs6
      have hs6' := hs6.toU
      have hb6l : b6 < W.heap.size := World.block_lt_of_cell? W _ hc6
      have hnl : (nxt es nn).length ≤ 1024 := ofS_len _
      have hUl : (unionL ((List.range m).map f0) (mem (nxt es nn))).length ≤ 1024 := unionL_len _ _ fun k hk => hroom k (hbits k hk)
      have hc7 : W.cell? ⟨g6, 0, none⟩ = some (.slice (some ⟨b6, off6, none⟩) m m) := (World.cell?_of_block (hkW.block g6 (by omega) (by omega))).trans hh6.cell
      have hc8 : W.cell? ⟨g6 + 1 + 1, 0, none⟩ = some (.slice (some ⟨g6 + 1, 0, none⟩) m m) := (World.cell?_of_block (hkW.block (g6 + 1 + 1) (by omega) (by omega))).trans hh7.cell
      have hTW := hT4.keeps hkW (by omega)
      obtain ⟨vo, hrc, hrf, hgW⟩ := hU.cell hnm
      have hg6W : g6 < W.heap.size := by omega
      have hg8W : g6 + 1 + 1 < W.heap.size := by omega
      have hx0 : (0 : Int) ≤ (nn : Int) := Int.natCast_nonneg _
      have hx1 : (nn : Int) < (m : Int) := by omega
      have HLX : ((List.range m).map f0).length = m := by simp
      obtain ⟨xss, hxss⟩ : ∃ xss, xss = (List.range m).map f0 := ⟨_, rfl⟩
      rw [← hxss] at hxx hroom hbeh hUl HLX
      obtain ⟨ns, hns⟩ : ∃ ns, ns = nxt es nn := ⟨_, rfl⟩
      rw [← hns] at hbeh hbits hc6 hs6' hnl hUl
      obtain ⟨U, hUU⟩ : ∃ U, U = unionL xss (mem ns) := ⟨_, rfl⟩
      rw [← hUU] at hbeh hUl
      have C1 : ∀ W', Below W.heap.size W W' → Calls Tryd.prog 35 #[.slice (some ⟨g6 + 1, 0, none⟩) m m, .slice A2 ns.length c2] W' fun e w' => ∃ A1 c1, e = .returned (.slice A1 U.length c1) ∧ RdU w' w'.heap.size A1 U ∧ Below W.heap.size W w' := fun W' hb => by
        rw [hUU]
        exact (union_any _ A2 m c2 m xss HLX ns W' ((hxx.below hb).more hb.size) ((hs6'.below hb).more hb.size) hbits hroom hnl (hTW.step hb)).mono fun e w' ⟨A1, c1, q1, q2, q3⟩ => ⟨A1, c1, q1, q2, hb.trans (q3.mono hb.size)⟩
      have H1 := Lib.hid C1
      have HB := Lib.hid hbeh
      have HF := Lib.hid hf0
      have HNS := Lib.hid hns
      have HU := Lib.hid hU
      have HLXX := Lib.hid HLX
      clear C1 hbeh hf0 hns hU hUU hxss HLX hxx hroom hbits hs6 hh6 hh7 hh8 hU1 hu4 ho4 e1
      have hrefl : Below W.heap.size W W.drew := (Below.refl _ _).drew
      gi_wp2
      refine wpIn_region_round (S := fun w' => w'.cell? ⟨g6, 0, none⟩ = some (.slice (some ⟨b6, off6, none⟩) m m) ∧ w'.cell? ⟨g6 + 1 + 1, 0, none⟩ = some (.slice (some ⟨g6 + 1, 0, none⟩) m m) ∧ w'.cell? ⟨b6, off6 + nn, none⟩ = some (.slice A2 ns.length c2)) hmo (by kernel_rfl) (fun _ _ h => h) ⟨hc7, hc8, hc6⟩ (fun hHeld => ?_)
      refine wpAnyH_take (i := 0) (v := ?_) rfl (by kernel_rfl) (by kernel_rfl) (by kernel_rfl) (fun _ _ _ h => h) (Or.inl ⟨by rfl, ?_⟩) (by assumption) ?_
      rotate_left
      · intro w hSw; (try dsimp only at hSw); go_simp; (try with_reducible rfl)
      (try simp only [Act.put, List.setIfInBounds_toArray])
      refine wpAnyH_take (i := 1) (v := ?_) rfl (by kernel_rfl) (by kernel_rfl) (by kernel_rfl) (fun _ _ _ h => h) (Or.inl ⟨by rfl, ?_⟩) (by assumption) ?_
      rotate_left
      · intro w hSw; (try dsimp only at hSw); go_simp; (try with_reducible rfl)
      (try simp only [Act.put])
      refine wpAnyH_take (i := 2) (v := ?_) rfl (by kernel_rfl) (by kernel_rfl) (by kernel_rfl) (fun _ _ _ h => h) (Or.inl ⟨by rfl, ?_⟩) (by assumption) ?_
      rotate_left
      · intro w hSw; (try dsimp only at hSw); go_simp; (try with_reducible rfl)
      (try simp only [Act.put])
      refine wpAnyH_take (i := 3) (v := ?_) rfl (by kernel_rfl) (by kernel_rfl) (by kernel_rfl) (fun _ _ _ h => h) (Or.inl ⟨by rfl, ?_⟩) (by assumption) ?_
      rotate_left
      · intro w hSw; (try dsimp only at hSw); go_simp; (try with_reducible rfl)
      (try simp only [Act.put])
      refine wpAnyH_take (i := 4) (v := ?_) rfl (by kernel_rfl) (by kernel_rfl) (by kernel_rfl) (fun _ _ _ h => h) (Or.inl ⟨by rfl, ?_⟩) (by assumption) ?_
      rotate_left
      · intro w hSw; (try dsimp only at hSw); go_simp; (try with_reducible rfl)
      (try simp only [Act.put])
      refine wpAnyH_take (i := 5) (v := ?_) rfl (by kernel_rfl) (by kernel_rfl) (by kernel_rfl) (fun _ _ _ h => h) (Or.inl ⟨by rfl, ?_⟩) (by assumption) ?_
      rotate_left
      · intro w hSw; (try dsimp only at hSw); go_simp; (try with_reducible rfl)
      (try simp only [Act.put])
      refine wpAnyH_take (i := 6) (v := ?_) rfl (by kernel_rfl) (by kernel_rfl) (by kernel_rfl) (fun _ _ _ h => h) (Or.inl ⟨by rfl, ?_⟩) (by assumption) ?_
      rotate_left
      · intro w hSw; (try dsimp only at hSw); go_simp; (try with_reducible rfl)
      (try simp only [Act.put])
      refine wpAnyH_take (i := 7) (v := ?_) rfl (by kernel_rfl) (by kernel_rfl) (by kernel_rfl) (fun _ _ _ h => h) (Or.inl ⟨by rfl, ?_⟩) (by assumption) ?_
      rotate_left
      · intro w hSw; (try dsimp only at hSw); go_simp; (try with_reducible rfl)
      (try simp only [Act.put])
      refine wpAnyH_take (i := 8) (v := ?_) rfl (by kernel_rfl) (by kernel_rfl) (by kernel_rfl) (fun _ _ _ h => h) (Or.inl ⟨by rfl, ?_⟩) (by assumption) ?_
      rotate_left
      · intro w hSw; (try dsimp only at hSw); go_simp; (try with_reducible rfl)
      (try simp only [Act.put])
      refine wpAnyH_take (i := 9) (v := ?_) rfl (by kernel_rfl) (by kernel_rfl) (by kernel_rfl) (fun _ _ _ h => h) (Or.inl ⟨by rfl, ?_⟩) (by assumption) ?_
      rotate_left
      · intro w hSw; (try dsimp only at hSw); go_simp; (try with_reducible rfl)
      (try simp only [Act.put])
      refine wpAnyH_take (i := 10) (v := ?_) rfl (by kernel_rfl) (by kernel_rfl) (by kernel_rfl) (fun _ _ _ h => h) (Or.inl ⟨by rfl, ?_⟩) (by assumption) ?_
      rotate_left
      · intro w hSw; (try dsimp only at hSw); go_simp; (try with_reducible rfl)
      (try simp only [Act.put])
      refine wpAnyH_ready (rs := [11]) (by kernel_rfl) (by simp) ?_
      refine AllReadyH.cons rfl (fun K hK => ?_) AllReadyH.nil
      go_simp
      refine (H1.out _ hrefl).mono ?_
      rintro e w7 ⟨A7, c7, rfl, hr7, hb7⟩
      have q1 : w7.cell? ⟨g6, 0, none⟩ = some (.slice (some ⟨b6, off6, none⟩) m m) := (World.cell?_of_block (hb7.block g6 hg6W)).trans hc7
      have q2 : w7.cell? ⟨g6 + 1 + 1, 0, none⟩ = some (.slice (some ⟨g6 + 1, 0, none⟩) m m) := (World.cell?_of_block (hb7.block (g6 + 1 + 1) hg8W)).trans hc8
      have q3 : w7.cell? ⟨b6, off6 + nn, none⟩ = some (.slice A2 ns.length c2) := (World.cell?_of_block (hb7.block b6 hb6l)).trans hc6
      dsimp only
      refine hK.out _ _ ⟨q1, q2, q3⟩ (fun hHeld => ?_)
      clear hK K
      (try simp only [Act.put, List.setIfInBounds_toArray, List.set])
      refine wpAnyH_ready (rs := [12]) (by kernel_rfl) (by simp) ?_
      refine AllReadyH.cons rfl (fun K hK => ?_) AllReadyH.nil
      go_simp
      refine (opor_own A2 A7 c2 c7 ns U w7 (hs6'.step hb7) hr7 (by omega) (by omega)).mono ?_
      rintro e w8 ⟨A8, c8, rfl, hr8, hb8⟩
      have hb78 : Below W.heap.size W w8 := hb7.trans (hb8.mono hb7.size)
      rw [HB.out] at hr8
      have q4 : w8.cell? ⟨g6, 0, none⟩ = some (.slice (some ⟨b6, off6, none⟩) m m) := (World.cell?_of_block (hb78.block g6 hg6W)).trans hc7
      have q5 : w8.cell? ⟨g6 + 1 + 1, 0, none⟩ = some (.slice (some ⟨g6 + 1, 0, none⟩) m m) := (World.cell?_of_block (hb78.block (g6 + 1 + 1) hg8W)).trans hc8
      have q6 : w8.cell? ⟨b6, off6 + nn, none⟩ = some (.slice A2 ns.length c2) := (World.cell?_of_block (hb78.block b6 hb6l)).trans hc6
      have q7 : w8.cell? ⟨g6 + 1, nn, none⟩ = some vo := (World.cell?_of_block (hb78.block (g6 + 1) hgW)).trans hrc
      have q8 : w8.frozen? ⟨g6 + 1, nn, none⟩ = false := (World.frozen?_of_block (hb78.block (g6 + 1) hgW)).trans hrf
      dsimp only
      rw [HB.out]
      refine hK.out _ _ ⟨q4, q5, q6⟩ (fun hHeld => ?_)
      clear hK K
      (try simp only [Act.put, List.setIfInBounds_toArray, List.set])
      refine wpAnyH_take (i := 13) (v := ?_) rfl (by kernel_rfl) (by kernel_rfl) (by kernel_rfl) (fun _ _ _ h => h) (Or.inl ⟨by rfl, ?_⟩) (by assumption) ?_
      rotate_left
      · intro w hSw; (try dsimp only at hSw); go_simp; (try with_reducible rfl)
      (try simp only [Act.put, List.setIfInBounds_toArray])
      refine wpAnyH_ready (rs := [14]) (by kernel_rfl) (by simp) ?_
      refine AllReadyH.cons rfl (fun K hK => ?_) AllReadyH.nil
      go_simp
      refine hK.out _ _ ⟨(World.cell?_setCell_far _ _ _ _ (by simp)).trans q4, (World.cell?_setCell_far _ _ _ _ (by simp)).trans q5, (World.cell?_setCell_far _ _ _ _ (by simp; omega)).trans q6⟩ (fun hHeld => ?_)
      clear hK K
      refine wpAnyH_done (by kernel_rfl) ?_ _
      have hU8 := (HU.out.keeps (p := fun b => b < W.heap.size) (Keeps.of_below hb78 fun _ _ h => h) htop)
      have hkS : ∀ v, Keeps (fun b => b ≠ g6 + 1) W (w8.setCell ⟨g6 + 1, nn, none⟩ v) := fun v => (Keeps.of_below hb78 fun k hk _ => hk).setCell (fun _ h => h rfl) v
      have hkO : ∀ v, Keeps (fun b => ¬ O b) W (w8.setCell ⟨g6 + 1, nn, none⟩ v) := fun v => (Keeps.of_below hb78 fun k hk _ => hk).setCell (fun _ h => h HU.out.1) v
      have hle : ∀ x : Bk o.length m, m - (pre ++ [x]).length = i := fun x => by simp; omega
      have hfe : (fun x => if x ∈ o.drop i then beh m es x else []) = fun j => if j = nn then beh m es nn else f0 j := by
        funext x
        rw [HF.out]
        dsimp only
        by_cases e : x = nn
        · subst e
          rw [if_pos ((drop_step hoi _).2 (.inl rfl)), if_pos rfl]
        · rw [if_neg e]
          by_cases e2 : x ∈ o.drop (i + 1)
          · rw [if_pos ((drop_step hoi _).2 (.inr e2)), if_pos e2]
          · rw [if_neg (fun h => ((drop_step hoi _).1 h).elim e e2), if_neg e2]
      have hset := OwnUO.set (hU8.imp (O' := fun b => O b ∨ (W.heap.size ≤ b ∧ b < w8.heap.size)) fun b h => .inl h) (i := nn) (c' := c8) (hr8.imp fun b h => .inr ⟨Nat.le_trans hb7.size h.1, h.2⟩)
      rw [← hfe] at hset
      refine ⟨fun b => O b ∨ (W.heap.size ≤ b ∧ b < w8.heap.size), ⟨hkO _, fun k h => h.imp id (·.1), fun k h => ?_⟩, fun b hb => ?_, ?_, hkW.trans (hkS _)⟩
      · rw [World.size_setCell]
        rcases h with h | h
        · exact Nat.lt_of_lt_of_le (htop k h) hb78.size
        · exact h.2
      · rcases hb with h | h
        · exact hO1 b h
        · exact .inr (by omega)
      · rw [hle]
        exact hset
    case done =>
      rintro D O xs W hD hOD hxs ⟨hO1, hU, hkW⟩ hK
      have hxl : xs.length = o.length := hxs
      have hl0 : m - xs.length = 0 := by omega
      have hfe : (fun x => if x ∈ o.drop (m - xs.length) then beh m es x else []) = fun x => if x ∈ o then beh m es x else [] := by rw [hl0]; rfl
      rw [hfe] at hU
      have hg8W : g6 + 1 + 1 < W.heap.size := by have := hkW.size; omega
      have hc8 : W.cell? ⟨g6 + 1 + 1, 0, none⟩ = some (.slice (some ⟨g6 + 1, 0, none⟩) m m) := (World.cell?_of_block (hkW.block (g6 + 1 + 1) (by omega) (by omega))).trans hh7.cell
      have hall : (List.range m).map (fun x => if x ∈ o then beh m es x else []) = (List.range m).map (beh m es) := List.map_congr_left fun x hx => by
        rw [if_pos (hgood.all (by omega) (by simpa using hx))]
      have hrd := hU.rd (by omega)
      rw [hall] at hrd
      have hBf : Below w.heap.size w W := hB4.trans (hkW.below (by have := hB4.size; omega) fun k hk => by omega)
      clear hU hkW hh6 hh7 hh8 hU1 hu4 ho4
      gi_wp2
      refine ⟨by simp, .inl ⟨_, _, rfl, run_takeDeferred hK, ?_⟩⟩
      refine ⟨_, results_tmp2 rfl _ _ _, ?_⟩
      exact ⟨_, rfl, (hrd.keeps (q := fun b => b ≠ D) ((Keeps.refl _ W).putObj (fun _ h => h rfl) _) (fun b hb e => hOD (e ▸ hb))).toUU, hBf.trans (belowK_b (w := w) (Nat.le_refl _) W D _ _ (by omega) hK rfl rfl)⟩
    case stop =>
      rintro D c' O pre W _ _ _ h _
      exact h.elim
  · omega
end Go.Proofs.YtafdpimkfkddaaaDoor
