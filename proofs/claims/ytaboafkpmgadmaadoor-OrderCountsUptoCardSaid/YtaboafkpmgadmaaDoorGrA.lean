/-
  Contracts of graph.isNode and graph.inRange.
-/
import Derived.Test.YtaboafkpmgadmaaDoorGrMem
import Derived.Outline
namespace Go.Proofs.YtaboafkpmgadmaaDoor
open Go.RowKit
set_option maxRecDepth 100000

/-- is n a node of N? -/
def nodeB (N n : Int) : Bool := decide (0 ≤ n) && decide (n < N)
theorem nodeB_true {N n : Int} (h : nodeB N n = true) : 0 ≤ n ∧ n < N := by unfold nodeB at h; simpa using h
theorem nodeB_mk {N n : Int} (h0 : 0 ≤ n) (h1 : n < N) : nodeB N n = true := by unfold nodeB; simp [h0, h1]
theorem nodeB_no1 {N n : Int} (h0 : n < 0) : nodeB N n = false := by unfold nodeB; simp; omega
theorem nodeB_no2 {N n : Int} (h0 : N ≤ n) : nodeB N n = false := by unfold nodeB; simp; omega

theorem isNode_any (A : Option Addr) (l c : Nat) (N n : Int) (w : World) :
    Calls Tryd.prog 80 #[.agg #[.int .i64 N, .slice A l c], .int .i64 n] w fun e w' => e = .returned (.bool (nodeB N n)) ∧ Below w.heap.size w w' := by
  by_cases h0 : 0 ≤ n
  · by_cases h1 : n < N
    · rw [nodeB_mk h0 h1]
      go_enter Tryd.func80, Tryd.ntmps80
      go_wp2
      go_ret
      exact ⟨rfl, (Below.refl _ _).alloc (Nat.le_refl _) _⟩
    · rw [nodeB_no2 (by omega)]
      go_enter Tryd.func80, Tryd.ntmps80
      go_wp2
      go_ret
      exact ⟨rfl, (Below.refl _ _).alloc (Nat.le_refl _) _⟩
  · rw [nodeB_no1 (by omega)]
    go_enter Tryd.func80, Tryd.ntmps80
    go_wp2
    go_ret
    exact ⟨rfl, (Below.refl _ _).alloc (Nat.le_refl _) _⟩

/-- the edge lies in a graph of N nodes -/
def okE (N : Int) (e : Int × Int) : Bool := nodeB N e.1 && nodeB N e.2
def okN200 (N : Int) : Bool := decide (0 ≤ N) && decide (N ≤ 200)
def inR (N : Int) (es : List (Int × Int)) : Bool := okN200 N && es.all (okE N)
theorem inR_no (N : Int) (es : List (Int × Int)) (h : okN200 N = false) : inR N es = false := by unfold inR; rw [h]; rfl
theorem ed_mem (es : List (Int × Int)) (k : Nat) (h : k < es.length) : ed es k ∈ es := by unfold ed; simp [List.getD, h]
theorem mem_ed {es : List (Int × Int)} {e : Int × Int} (h : e ∈ es) : ∃ k, k < es.length ∧ ed es k = e := by
  obtain ⟨k, hk, rfl⟩ := List.getElem_of_mem h
  exact ⟨k, hk, by unfold ed; simp [List.getD, hk]⟩
theorem inR_bad (N : Int) (es : List (Int × Int)) (k : Nat) (h : k < es.length) (h0 : okE N (ed es k) = false) : inR N es = false := by
  unfold inR
  rw [Bool.and_eq_false_iff]
  right
  rw [List.all_eq_false]
  exact ⟨_, ed_mem es k h, by simp [h0]⟩
theorem inR_yes (N : Int) (es : List (Int × Int)) (h0 : okN200 N = true) (h : ∀ k, k < es.length → okE N (ed es k) = true) : inR N es = true := by
  unfold inR
  rw [h0, Bool.true_and, List.all_eq_true]
  intro e he
  obtain ⟨k, hk, rfl⟩ := mem_ed he
  exact h k hk

/-- block B holds a graph -/
structure GBox (w : World) (B : Nat) (N : Int) (A : Option Addr) (l c : Nat) : Prop where
  n : w.cell? ⟨B, 0, none⟩ = some (.int .i64 N)
  e : w.cell? ⟨B, 1, none⟩ = some (.slice A l c)
theorem GBox.new (w : World) (N : Int) (A : Option Addr) (l c : Nat) (t : TypeId) : GBox (w.alloc (.cells #[.int .i64 N, .slice A l c] t)) w.heap.size N A l c := by
  have h := World.alloc_heap_new w (.cells #[.int .i64 N, .slice A l c] t)
  constructor <;> simp only [World.cell?, h] <;> rfl
theorem GBox.below {w w' : World} {B m : Nat} {N : Int} {A : Option Addr} {l c : Nat} (h : GBox w B N A l c) (hb : Below m w w') (hm : B < m) : GBox w' B N A l c :=
  ⟨(hb.cell (p := ⟨B, 0, none⟩) hm).trans h.n, (hb.cell (p := ⟨B, 1, none⟩) hm).trans h.e⟩

/-- block B holds an edge -/
structure EBox (w : World) (B : Nat) (x y : Int) : Prop where
  x : w.cell? ⟨B, 0, none⟩ = some (.int .i64 x)
  y : w.cell? ⟨B, 1, none⟩ = some (.int .i64 y)
theorem EBox.new (w : World) (x y : Int) (t : TypeId) : EBox (w.alloc (.cells #[.int .i64 x, .int .i64 y] t)) w.heap.size x y := by
  have h := World.alloc_heap_new w (.cells #[.int .i64 x, .int .i64 y] t)
  constructor <;> simp only [World.cell?, h] <;> rfl
theorem EBox.below {w w' : World} {B m : Nat} {x y : Int} (h : EBox w B x y) (hb : Below m w w') (hm : B < m) : EBox w' B x y :=
  ⟨(hb.cell (p := ⟨B, 0, none⟩) hm).trans h.x, (hb.cell (p := ⟨B, 1, none⟩) hm).trans h.y⟩

theorem inRange_any (A : Option Addr) (c : Nat) (N : Int) (es : List (Int × Int)) (w : World) (he : RdE w w.heap.size A es) :
    Calls Tryd.prog 46 #[.agg #[.int .i64 N, .slice A es.length c]] w fun e w' => e = .returned (.bool (inR N es)) ∧ Below w.heap.size w w' := by
  have hroom := he.room
  by_cases hN : 0 ≤ N ∧ N ≤ 200
  · obtain ⟨hN0, hN1⟩ := hN
    have hok : okN200 N = true := by unfold okN200; simp [hN0, hN1]
    go_enter Tryd.func46, Tryd.ntmps46
    go_wp2
    have hG := GBox.new w N A es.length c 24
    obtain ⟨w1, hw1⟩ : ∃ w1, w1 = w.alloc (.cells #[.int .i64 N, .slice A es.length c] 24) := ⟨_, rfl⟩
    have hb1 : Below w.heap.size w w1 := by rw [hw1]; exact (Below.refl _ _).alloc (Nat.le_refl _) _
    have hs1 : w.heap.size < w1.heap.size := by rw [hw1]; simp
    rw [← hw1] at hG ⊢
    have he1 : RdE w1 w1.heap.size A es := he.step hb1
    obtain ⟨B, hB⟩ : ∃ B, B = w.heap.size := ⟨_, rfl⟩
    rw [← hB] at hG hs1 ⊢
    clear hw1 he
    have HOK := Lib.hid hok
    clear hok hB
    go_loopw [16] (fun i wr => ∃ k : Nat, k ≤ es.length ∧ i = .int .i64 k ∧ Hid (∀ j, j < k → okE N (ed es j) = true) ∧ Below w1.heap.size w1 wr) (fun i _ => es.length - (intOf i).toNat)
    case atStart => exact ⟨0, Nat.zero_le _, rfl, fun j hj => by omega, Below.refl _ _⟩
    case round =>
      obtain ⟨k, hk, rfl, hall, hbr⟩ := hrel
      by_cases hlt : k < es.length
      · obtain ⟨b, off, rfl, hb, hc⟩ := he1.rd (by omega)
        have hGr := hG.below hbr hs1
        have hgn := hGr.n
        have hge := hGr.e
        have hc1 := (hbr.cell (p := ⟨b, off + k * 2, none⟩) hb).trans (hc k hlt).1
        have hc2 := (hbr.cell (p := ⟨b, off + k * 2 + 1, none⟩) hb).trans (hc k hlt).2
        clear hc hGr
        have hBw : B < wr.heap.size := Nat.lt_of_lt_of_le hs1 hbr.size
        go_wp2_with fail
        have hE := EBox.new wr (ed es k).1 (ed es k).2 38
        obtain ⟨w2, hw2⟩ : ∃ w2, w2 = wr.alloc (.cells #[.int .i64 (ed es k).1, .int .i64 (ed es k).2] 38) := ⟨_, rfl⟩
        have hb2 : Below w1.heap.size w1 w2 := by rw [hw2]; exact hbr.alloc hbr.size _
        have hs2 : wr.heap.size < w2.heap.size := by rw [hw2]; simp
        rw [← hw2] at hE ⊢
        clear hw2 hgn hge hc1 hc2
        refine (isNode_any _ _ _ _ _ _).mono ?_
        rintro e w3 ⟨rfl, hb3⟩
        have hG3 := (hG.below hb2 hs1).below hb3 (by omega)
        have hE3 := hE.below hb3 hs2
        have hB3 : Below w1.heap.size w1 w3 := hb2.trans (hb3.mono hb2.size)
        clear hb3 hE hb2
        have hgn := hG3.n
        have hge := hG3.e
        have hex := hE3.x
        have hey := hE3.y
        cases h1 : nodeB N (ed es k).1 with
        | false =>
          have hbad := inR_bad N es k hlt (by unfold okE; rw [h1]; rfl)
          have HB := Lib.hid hbad
          clear hbad
          go_wp2
          go_ret
          exact ⟨ret_b HB.out.symm, hb1.trans (hB3.mono hb1.size)⟩
        | true =>
          go_wp2_with fail
          refine (isNode_any _ _ _ _ _ _).mono ?_
          rintro e w4 ⟨rfl, hb4⟩
          have hB4 : Below w1.heap.size w1 w4 := hB3.trans (hb4.mono hB3.size)
          clear hb4 hgn hge hex hey
          cases h2 : nodeB N (ed es k).2 with
          | false =>
            have hbad := inR_bad N es k hlt (by unfold okE; rw [h1, h2]; rfl)
            have HB := Lib.hid hbad
            clear hbad
            go_wp2
            go_ret
            exact ⟨ret_b HB.out.symm, hb1.trans (hB4.mono hb1.size)⟩
          | true =>
            have HY : Hid (okE N (ed es k) = true) := Lib.hid (by unfold okE; rw [h1, h2]; rfl)
            clear h1 h2
            go_wp2
            go_roundw
            case rel => exact ⟨k + 1, by omega, by go_num, fun j hj => by
              rcases Nat.lt_succ_iff_lt_or_eq.1 hj with h | h
              · exact hall.out j h
              · subst h; exact HY.out, hB4⟩
            case measure => simp [intOf]; omega
      · go_wp2
        go_ret
        exact ⟨ret_b (by symm; exact inR_yes N es HOK.out fun j hj => hall.out j (by omega)), hb1.trans (hbr.mono hb1.size)⟩
  · have hno := inR_no N es (by unfold okN200; simp; omega)
    rw [hno]
    clear hno
    have h3 : N < 0 ∨ 0 ≤ N ∧ 200 < N := by omega
    rcases h3 with h | ⟨h, h'⟩
    · go_enter Tryd.func46, Tryd.ntmps46
      go_wp2
      go_ret
      exact ⟨rfl, (Below.refl _ _).alloc (Nat.le_refl _) _⟩
    · go_enter Tryd.func46, Tryd.ntmps46
      go_wp2
      go_ret
      exact ⟨rfl, (Below.refl _ _).alloc (Nat.le_refl _) _⟩
end Go.Proofs.YtaboafkpmgadmaaDoor
