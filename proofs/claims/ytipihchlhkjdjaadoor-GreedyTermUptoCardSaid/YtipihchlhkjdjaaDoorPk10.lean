/-
  Contract of graph.Sort, whole; forkwrightkeep.alive2 answers true.
  The law GraphWrong: graph.Wrong and the reference's BWrong answer the same, for every graph.
  The law GraphBehind: what is behind what is behind is behind; nothing is behind itself; of two nodes one at most is behind the other.
  What the closure and the core of a graph lead to is what the graph leads to. Plain lemmas.
-/
import Derived.Test.YtipihchlhkjdjaaDoorPk09
import Derived.Test.YtipihchlhkjdjaaDoorPk03
import Derived.Test.YtipihchlhkjdjaaDoorPk05
import Derived.Test.YtipihchlhkjdjaaDoorPk08
import Derived.Deep.RegionHeld3
import Derived.Deep.DrawnRows
import Derived.Test.YtipihchlhkjdjaaDoorPk07
namespace Go.Proofs.YtipihchlhkjdjaaDoor
open Go.RowKit Go.Shelf
set_option maxRecDepth 100000

def ordG (N : Int) (es : List (Int × Int)) : List Int := if errn N es = 0 then toI (ordr N.toNat es) else []
theorem zd_toI_bd (L : List Nat) (m : Nat) (h : ∀ x, x ∈ L → x < m) (k : Nat) : 0 ≤ zd (toI L) k ∧ zd (toI L) k ≤ (m : Int) := by
  unfold zd toI
  rw [List.getD_eq_getElem?_getD, List.getElem?_map]
  cases he : L[k]? with
  | none => simp
  | some x =>
    have := h x (List.mem_of_getElem? he)
    simp
    omega
theorem sort_any (A : Option Addr) (c : Nat) (N : Int) (es : List (Int × Int)) (w : World) (he : RdE w w.heap.size A es) (hT : Tab w) :
    Calls Tryd.prog 18 #[.agg #[.int .i64 N, .slice A es.length c]] w fun e w' => ∃ A1 c1, e = .returned (.tuple #[.slice A1 (ordG N es).length c1, .int .i64 (errn N es)]) ∧ RdI w' w'.heap.size A1 (ordG N es) ∧ Below w.heap.size w w' := by
  cases hin : inR N es with
  | false =>
    refine (sort_no A c N es w he hin).mono ?_
    rintro e w' ⟨rfl, h2⟩
    have hE := errn_no hin
    have hb : ordG N es = [] := by unfold ordG; rw [if_neg (by omega)]
    rw [hb, hE]
    exact ⟨none, 0, rfl, ⟨fun k => by simp [zd], fun k => by simp [zd], by simp, fun h => by simp at h⟩, h2⟩
  | true =>
    have hm := okN_of hin
    obtain ⟨m, rfl⟩ : ∃ m : Nat, N = (m : Int) := ⟨N.toNat, by omega⟩
    refine (callsIn_wide.1 (sort_in 12 (Nat.le_refl _) A c m es w he hin hT)).mono ?_
    rintro e w' ⟨(⟨hl, v, rfl, hown⟩ | ⟨hlt, rfl⟩), h2⟩
    · have hE := errn_ok hin hl
      have hb : ordG m es = toI (ordr m es) := by unfold ordG; rw [if_pos hE, Int.toNat_natCast]
      have hgood : Good (gR es) m (ordr m es) := good_topoN _ _ _
      have hbd := zd_toI_bd (ordr m es) m hgood.lt
      obtain ⟨A1, c1, rfl, hr⟩ := own_rdI hown (fun k => by have := hbd k; omega) (fun k => by have := hbd k; omega) (by rw [toI_len]; omega)
      rw [hb, hE]
      exact ⟨A1, c1, rfl, hr, h2⟩
    · have hE := errn_loop hin hlt
      have hb : ordG m es = [] := by unfold ordG; rw [if_neg (by omega)]
      rw [hb, hE]
      exact ⟨none, 0, rfl, ⟨fun k => by simp [zd], fun k => by simp [zd], by simp, fun h => by simp at h⟩, h2⟩

theorem rdE_lit (w : World) (E : TypeId) (es : List (Int × Int)) (h : ∀ e ∈ es, (-9223372036854775808 ≤ e.1 ∧ e.1 ≤ 9223372036854775807) ∧ -9223372036854775808 ≤ e.2 ∧ e.2 ≤ 9223372036854775807) (hl : es.length ≤ 1099511627776) :
    RdE (w.alloc (.cells (eVals es).toArray E)) (w.alloc (.cells (eVals es).toArray E)).heap.size (some ⟨w.heap.size, 0, none⟩) es := by
  have hb : ∀ k, (-9223372036854775808 ≤ (ed es k).1 ∧ (ed es k).1 ≤ 9223372036854775807) ∧ -9223372036854775808 ≤ (ed es k).2 ∧ (ed es k).2 ≤ 9223372036854775807 := fun k => by
    unfold ed
    rw [List.getD_eq_getElem?_getD]
    cases he : es[k]? with
    | none => simp
    | some e => exact h e (List.mem_of_getElem? he)
  refine ⟨fun k => (hb k).1.1, fun k => (hb k).1.2, fun k => (hb k).2.1, fun k => (hb k).2.2, hl, fun _ => ⟨w.heap.size, 0, rfl, by simp, fun k hk => ?_⟩⟩
  have hg := World.alloc_heap_new w (.cells (eVals es).toArray E)
  have := eVals_at es k hk
  rw [Nat.zero_add, cell_of_row _ _ _ _ _ _ hg, cell_of_row _ _ _ _ _ _ hg]
  simpa using this

abbrev es3 : List (Int × Int) := [(2, 0), (0, 1), (2, 1)]
theorem es3_err : errn 3 es3 = 0 := by decide +kernel
theorem es3_ord : ordG 3 es3 = [2, 0, 1] := by decide +kernel
theorem es3_beh : behG 3 es3 = [[2], [], [3]] := by decide +kernel
theorem es3_cor : (corG 3 es3).length = 2 := by decide +kernel
theorem es1_err : errn 1 [(0, 0)] = 3 := by decide +kernel

end Go.Proofs.YtipihchlhkjdjaaDoor

namespace Go.Proofs.YtipihchlhkjdjaaDoor
open Go.RowKit Go.Shelf
set_option maxRecDepth 100000
attribute [local go_sem ↓] Go.wp_at_zero Go.wp_at_succ

/-- the graph's box, and all that lay when it was made, lie as they lay -/
abbrev HeldG (w1 : World) (B : Nat) (N : Int) (A : Option Addr) (l c : Nat) (w' : World) : Prop := w'.cell? ⟨B, 0, none⟩ = some (.int .i64 N) ∧ w'.cell? ⟨B, 1, none⟩ = some (.slice A l c) ∧ Below w1.heap.size w1 w'

theorem HeldG.drew {w1 W : World} {B : Nat} {N : Int} {A : Option Addr} {l c : Nat} (h : HeldG w1 B N A l c W) : HeldG w1 B N A l c W.drew := ⟨h.1, h.2.1, h.2.2.drew⟩
theorem HeldG.step {w1 W w2 : World} {B : Nat} {N : Int} {A : Option Addr} {l c : Nat} (h : HeldG w1 B N A l c W) (hs : B < w1.heap.size) (hb : Below W.heap.size W w2) : HeldG w1 B N A l c w2 := by
  have hlt : B < W.heap.size := Nat.lt_of_lt_of_le hs h.2.2.size
  exact ⟨(hb.cell (p := ⟨B, 0, none⟩) hlt).trans h.1, (hb.cell (p := ⟨B, 1, none⟩) hlt).trans h.2.1, h.2.2.trans (hb.mono h.2.2.size)⟩

end Go.Proofs.YtipihchlhkjdjaaDoor

namespace Go.Proofs.YtipihchlhkjdjaaDoor
open Go.RowKit Go.Shelf
set_option maxRecDepth 100000
attribute [local go_sem ↓] Go.wp_at_zero Go.wp_at_succ

theorem inB_bits {xs ys : List Nat} (hx : Ws xs) (hy : Ws ys) : inB xs ys = true ↔ ∀ n, bitB xs n = true → bitB ys n = true := by
  rw [inB_iff hx hy]
  constructor
  · intro h n hn
    rw [bitB_tb] at hn ⊢
    exact h _ _ (Nat.mod_lt _ (by decide)) hn
  · intro h k j hj hb
    rw [tb_bit _ _ _ hj] at hb ⊢
    exact h _ hb
theorem inB_one (c : Nat) (hc : c ≤ 65535) {ys : List Nat} (hy : Ws ys) : inB (ofS [(c : Int)]) ys = bitB ys c := by
  rw [Bool.eq_iff_iff, inB_bits (ofS_wd _) hy]
  have hb : ∀ n, bitB (ofS [(c : Int)]) n = true ↔ n = c := fun n => by
    rw [ofS_bit, decide_eq_true_iff, mem_alw]
    simp
    omega
  constructor
  · intro h
    exact h c ((hb c).2 rfl)
  · intro h n hn
    rw [(hb n).1 hn]
    exact h
theorem fw_tr {m : Nat} {es : List (Int × Int)} (h : inR m es = true) {i j k : Nat} (h1 : fw (gR es) m i j = true) (h2 : fw (gR es) m j k = true) : fw (gR es) m i k = true :=
  (fw_iff (gR_lt h) _ _).2 (((fw_iff (gR_lt h) _ _).1 h1).trans ((fw_iff (gR_lt h) _ _).1 h2))
theorem fw_irr {m : Nat} {es : List (Int × Int)} (h : inR m es = true) (hfull : (ordr m es).length = m) (i : Nat) : fw (gR es) m i i = false := by
  cases hf : fw (gR es) m i i with
  | false => rfl
  | true =>
    have := (loop_iff h).2 ⟨i, (fw_lt h hf).1, hf⟩
    omega
theorem beh_sub {m : Nat} {es : List (Int × Int)} (h : inR m es = true) {i j : Nat} (h1 : fw (gR es) m i j = true) : inB (beh m es j) (beh m es i) = true := by
  rw [inB_bits (beh_ws _ _ _) (beh_ws _ _ _)]
  intro n hn
  rw [beh_bit h] at hn ⊢
  exact fw_tr h h1 hn

/-- two cells lie as they lay, and all that lay -/
abbrev HeldB (w1 : World) (B : Nat) (v : Value) (b o : Nat) (u : Value) (w' : World) : Prop := w'.cell? ⟨B, 0, none⟩ = some v ∧ w'.cell? ⟨b, o, none⟩ = some u ∧ Below w1.heap.size w1 w'
theorem HeldB.drew {w1 W : World} {B b o : Nat} {v u : Value} (h : HeldB w1 B v b o u W) : HeldB w1 B v b o u W.drew := ⟨h.1, h.2.1, h.2.2.drew⟩
theorem HeldB.step {w1 W w2 : World} {B b o : Nat} {v u : Value} (h : HeldB w1 B v b o u W) (hb : Below W.heap.size W w2) : HeldB w1 B v b o u w2 :=
  ⟨(hb.cell (p := ⟨B, 0, none⟩) (World.block_lt_of_cell? _ _ h.1)).trans h.1, (hb.cell (p := ⟨b, o, none⟩) (World.block_lt_of_cell? _ _ h.2.1)).trans h.2.1, h.2.2.trans (hb.mono h.2.2.size)⟩
theorem HeldB.alloc {w1 W : World} {B b o : Nat} {v u : Value} (h : HeldB w1 B v b o u W) (ob : Obj) : HeldB w1 B v b o u (W.alloc ob) := h.step (below_alloc W ob)

/-- three cells lie as they lay, and all that lay -/
abbrev HeldC (w1 : World) (B : Nat) (v : Value) (b o : Nat) (u : Value) (o2 : Nat) (u2 : Value) (w' : World) : Prop := w'.cell? ⟨B, 0, none⟩ = some v ∧ w'.cell? ⟨b, o, none⟩ = some u ∧ w'.cell? ⟨b, o2, none⟩ = some u2 ∧ Below w1.heap.size w1 w'
theorem HeldC.drew {w1 W : World} {B b o o2 : Nat} {v u u2 : Value} (h : HeldC w1 B v b o u o2 u2 W) : HeldC w1 B v b o u o2 u2 W.drew := ⟨h.1, h.2.1, h.2.2.1, h.2.2.2.drew⟩
theorem HeldC.step {w1 W w2 : World} {B b o o2 : Nat} {v u u2 : Value} (h : HeldC w1 B v b o u o2 u2 W) (hb : Below W.heap.size W w2) : HeldC w1 B v b o u o2 u2 w2 :=
  ⟨(hb.cell (p := ⟨B, 0, none⟩) (World.block_lt_of_cell? _ _ h.1)).trans h.1, (hb.cell (p := ⟨b, o, none⟩) (World.block_lt_of_cell? _ _ h.2.1)).trans h.2.1, (hb.cell (p := ⟨b, o2, none⟩) (World.block_lt_of_cell? _ _ h.2.2.1)).trans h.2.2.1, h.2.2.2.trans (hb.mono h.2.2.2.size)⟩

end Go.Proofs.YtipihchlhkjdjaaDoor

namespace Go.Proofs.YtipihchlhkjdjaaDoor
open Go.RowKit

theorem mem_elist {xss : List (List Nat)} {m i j : Nat} : (i, j) ∈ elist xss m ↔ i < m ∧ bitB (st xss i) j = true := by
  unfold elist
  rw [List.mem_flatMap]
  constructor
  · rintro ⟨k, hk, h⟩
    obtain ⟨x, hx, e⟩ := List.mem_map.1 h
    injection e with e1 e2
    subst e1
    subst e2
    exact ⟨List.mem_range.1 hk, mem_iff.1 hx⟩
  · rintro ⟨hi, hb⟩
    exact ⟨i, List.mem_range.2 hi, List.mem_map.2 ⟨j, mem_iff.2 hb, rfl⟩⟩
theorem mem_elI {l : List (Nat × Nat)} {i j : Nat} : ((i : Int), (j : Int)) ∈ elI l ↔ (i, j) ∈ l := by
  unfold elI
  rw [List.mem_map]
  constructor
  · rintro ⟨⟨a, b⟩, hm, e⟩
    injection e with e1 e2
    have h1 : a = i := by dsimp only at e1; omega
    have h2 : b = j := by dsimp only at e2; omega
    rw [← h1, ← h2]
    exact hm
  · intro h
    exact ⟨(i, j), h, rfl⟩
theorem gR_elist (xss : List (List Nat)) (m i j : Nat) : gR (elI (elist xss m)) i j = true ↔ i < m ∧ bitB (st xss i) j = true := by
  unfold gR
  rw [decide_eq_true_iff, mem_elI, mem_elist]
theorem inR_elist {xss : List (List Nat)} {m : Nat} (hm : m ≤ 200) (hb : ∀ k, k < m → ∀ j, bitB (st xss k) j = true → j < m) : inR m (elI (elist xss m)) = true := by
  unfold inR
  rw [Bool.and_eq_true]
  refine ⟨by unfold okN200; simp; omega, ?_⟩
  rw [List.all_eq_true]
  intro e he
  unfold elI at he
  obtain ⟨⟨a, b⟩, hm2, rfl⟩ := List.mem_map.1 he
  obtain ⟨h1, h2⟩ := mem_elist.1 hm2
  have h3 := hb a h1 b h2
  unfold okE
  rw [nodeB_mk (by omega) (by dsimp only; omega), nodeB_mk (by omega) (by dsimp only; omega)]
  rfl

/-- the same ways: the same sets, the same error -/
theorem same_ways {m : Nat} {es es2 : List (Int × Int)} (h : inR m es = true) (h2 : inR m es2 = true) (hfull : (ordr m es).length = m) (hw : ∀ i j, Path (gR es2) i j ↔ Path (gR es) i j) :
    (∀ i j, fw (gR es2) m i j = fw (gR es) m i j) ∧ (ordr m es2).length = m := by
  constructor
  · intro i j
    rw [Bool.eq_iff_iff, fw_iff (gR_lt h2), fw_iff (gR_lt h)]
    exact hw i j
  · refine (topo_iff (gR_lt h2)).2 fun x hx => ?_
    exact (topo_iff (gR_lt h)).1 hfull x ((hw x x).1 hx)
theorem same_beh {m : Nat} {es es2 : List (Int × Int)} (hw : ∀ i j, fw (gR es2) m i j = fw (gR es) m i j) : beh m es2 = beh m es := by
  funext n
  unfold beh
  have e : fw (gR es2) m n = fw (gR es) m n := by funext j; exact hw n j
  rw [e]
theorem same_all {m : Nat} {es es2 : List (Int × Int)} (hin : inR m es = true) (h2 : inR m es2 = true) (hfull : (ordr m es).length = m) (hw : ∀ i j, Path (gR es2) i j ↔ Path (gR es) i j) :
    errn m es2 = 0 ∧ clsG m es2 = clsG m es ∧ corG m es2 = corG m es := by
  obtain ⟨h3, h4⟩ := same_ways hin h2 hfull hw
  have e1 := errn_ok hin hfull
  have e2 := errn_ok h2 h4
  have e3 := same_beh h3
  have e4 : behs m es2 = behs m es := by unfold behs; rw [e3]
  have e5 : cors m es2 = cors m es := by
    unfold cors
    have : corS m es2 = corS m es := by funext k; unfold corS; rw [e3, e4]
    rw [this]
  refine ⟨e2, ?_, ?_⟩
  · unfold clsG; rw [if_pos e1, if_pos e2, Int.toNat_natCast, e4]
  · unfold corG; rw [if_pos e1, if_pos e2, Int.toNat_natCast, e5]

/-- the closure's edges are the ways -/
theorem cls_ways {m : Nat} {es : List (Int × Int)} (h : inR m es = true) (i j : Nat) : Path (gR (elI (elist (behs m es) m))) i j ↔ Path (gR es) i j := by
  have hE : ∀ i j, gR (elI (elist (behs m es) m)) i j = true ↔ fw (gR es) m i j = true := fun i j => by
    rw [gR_elist]
    constructor
    · rintro ⟨h1, h2⟩
      rw [st_behs _ h1, beh_bit h] at h2
      exact h2
    · intro hf
      have hl := fw_lt h hf
      exact ⟨hl.1, by rw [st_behs _ hl.1, beh_bit h]; exact hf⟩
  constructor
  · exact Path.into fun a b hab => (fw_iff (gR_lt h) _ _).1 ((hE a b).1 hab)
  · intro p
    exact .one ((hE i j).2 ((fw_iff (gR_lt h) _ _).2 p))

/-- between: the nodes on the ways from i to j -/
def betw (R : Nat → Nat → Bool) (m i j : Nat) : Nat := (List.range m).countP fun c => fw R m i c && fw R m c j
theorem countP_lt {p q : Nat → Bool} : ∀ {l : List Nat}, (∀ x ∈ l, p x = true → q x = true) → ∀ {y : Nat}, y ∈ l → q y = true → p y = false → l.countP p < l.countP q
  | [], _, _, hy, _, _ => by simp at hy
  | a :: l, hs, y, hy, h1, h2 => by
    have hs' : ∀ x ∈ l, p x = true → q x = true := fun x hx => hs x (List.mem_cons_of_mem _ hx)
    have hle : l.countP p ≤ l.countP q := List.countP_mono_left hs'
    rw [List.countP_cons, List.countP_cons]
    rcases List.mem_cons.1 hy with e | hy
    · subst e
      rw [h1, h2]
      simp
      omega
    · have ih := countP_lt hs' hy h1 h2
      by_cases hp : p a = true
      · rw [hp, hs a (List.mem_cons_self) hp]
        simp
        omega
      · have hpf : p a = false := by simpa using hp
        rw [hpf]
        cases q a <;> simp <;> omega
/-- every way is made of the core's edges -/
theorem cor_path {m : Nat} {es : List (Int × Int)} (h : inR m es = true) (hfull : (ordr m es).length = m) : ∀ (n i j : Nat), betw (gR es) m i j ≤ n → fw (gR es) m i j = true → Path (gR (elI (elist (cors m es) m))) i j := by
  have hE : ∀ i j, fw (gR es) m i j = true → (∀ c, ¬ (fw (gR es) m i c = true ∧ fw (gR es) m c j = true)) → gR (elI (elist (cors m es) m)) i j = true := fun i j hf hc => by
    have hl := fw_lt h hf
    rw [gR_elist, st_cors _ hl.1, corS_bit h, Bool.and_eq_true]
    refine ⟨hl.1, hf, ?_⟩
    rw [Bool.not_eq_true', List.any_eq_false]
    intro c _ hcc
    rw [Bool.and_eq_true] at hcc
    exact hc c hcc
  intro n
  induction n with
  | zero =>
    intro i j hn hf
    refine .one (hE i j hf fun c hc => ?_)
    have h0 : betw (gR es) m i j = 0 := by omega
    unfold betw at h0
    rw [List.countP_eq_zero] at h0
    exact h0 c (List.mem_range.2 (fw_lt h hc.1).2) (by rw [hc.1, hc.2]; rfl)
  | succ n ih =>
    intro i j hn hf
    by_cases hc : ∃ c, fw (gR es) m i c = true ∧ fw (gR es) m c j = true
    · obtain ⟨c, h1, h2⟩ := hc
      have hcm := List.mem_range.2 (fw_lt h h1).2
      have hq : (fw (gR es) m i c && fw (gR es) m c j) = true := by rw [h1, h2]; rfl
      have b1 : betw (gR es) m i c < betw (gR es) m i j := by
        unfold betw
        refine countP_lt (fun x _ hx => ?_) hcm hq ?_
        · rw [Bool.and_eq_true] at hx ⊢
          exact ⟨hx.1, fw_tr h hx.2 h2⟩
        · rw [fw_irr h hfull c, Bool.and_false]
      have b2 : betw (gR es) m c j < betw (gR es) m i j := by
        unfold betw
        refine countP_lt (fun x _ hx => ?_) hcm hq ?_
        · rw [Bool.and_eq_true] at hx ⊢
          exact ⟨fw_tr h h1 hx.1, hx.2⟩
        · rw [fw_irr h hfull c, Bool.false_and]
      exact (ih i c (by omega) h1).trans (ih c j (by omega) h2)
    · exact .one (hE i j hf fun c hcc => hc ⟨c, hcc⟩)
theorem cor_ways {m : Nat} {es : List (Int × Int)} (h : inR m es = true) (hfull : (ordr m es).length = m) (i j : Nat) : Path (gR (elI (elist (cors m es) m))) i j ↔ Path (gR es) i j := by
  constructor
  · refine Path.into fun a b hab => ?_
    rw [gR_elist] at hab
    have h2 := hab.2
    rw [st_cors _ hab.1, corS_bit h, Bool.and_eq_true] at h2
    exact (fw_iff (gR_lt h) _ _).1 h2.1
  · intro p
    exact cor_path h hfull _ i j (Nat.le_refl _) ((fw_iff (gR_lt h) _ _).2 p)

/-- the closure's and the core's own answers -/
theorem cls_all {m : Nat} {es : List (Int × Int)} (hin : inR m es = true) (hfull : (ordr m es).length = m) : errn m (clsG m es) = 0 ∧ clsG m (clsG m es) = clsG m es ∧ corG m (clsG m es) = corG m es := by
  have hm := okN_of hin
  have e : clsG m es = elI (elist (behs m es) m) := by unfold clsG; rw [if_pos (errn_ok hin hfull), Int.toNat_natCast]
  have h2 : inR m (clsG m es) = true := by rw [e]; exact inR_elist (by omega) (behs_bits hin)
  exact same_all hin h2 hfull fun i j => by rw [e]; exact cls_ways hin i j
theorem cor_all {m : Nat} {es : List (Int × Int)} (hin : inR m es = true) (hfull : (ordr m es).length = m) : errn m (corG m es) = 0 ∧ clsG m (corG m es) = clsG m es ∧ corG m (corG m es) = corG m es := by
  have hm := okN_of hin
  have e : corG m es = elI (elist (cors m es) m) := by unfold corG; rw [if_pos (errn_ok hin hfull), Int.toNat_natCast]
  have h2 : inR m (corG m es) = true := by rw [e]; exact inR_elist (by omega) (cors_bits hin)
  exact same_all hin h2 hfull fun i j => by rw [e]; exact cor_ways hin hfull i j
/-- every edge is in the closure -/
theorem edge_cls {m : Nat} {es : List (Int × Int)} (hin : inR m es = true) (hfull : (ordr m es).length = m) {e : Int × Int} (he : e ∈ es) : e ∈ clsG m es := by
  have e1 : clsG m es = elI (elist (behs m es) m) := by unfold clsG; rw [if_pos (errn_ok hin hfull), Int.toNat_natCast]
  obtain ⟨x, y⟩ := e
  have hed := edge_in hin he
  obtain ⟨a, rfl⟩ : ∃ a : Nat, x = (a : Int) := ⟨x.toNat, by omega⟩
  obtain ⟨b, rfl⟩ : ∃ b : Nat, y = (b : Int) := ⟨y.toNat, by omega⟩
  have hg : gR es a b = true := decide_eq_true he
  have hl := gR_lt hin a b hg
  rw [e1, mem_elI, mem_elist, st_behs _ hl.1, beh_bit hin]
  exact ⟨hl.1, (fw_iff (gR_lt hin) _ _).2 (.one hg)⟩
end Go.Proofs.YtipihchlhkjdjaaDoor
