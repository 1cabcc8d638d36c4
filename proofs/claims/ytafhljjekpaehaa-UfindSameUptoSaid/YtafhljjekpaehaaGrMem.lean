/-
  Words for memory that holds graphs: a slice of edges, a slice of sets, a slice of lists, a slice of rows of bools. Plain definitions and lemmas.
-/
import Derived.Test.YtafhljjekpaehaaBsOps
import Derived.Test.YtafhljjekpaehaaBsEqI
import Derived.Test.YtafhljjekpaehaaItO
import Derived.Deep.OwnRows
namespace Go.Proofs.Ytafhljjekpaehaa
open Go.RowKit

/-- edge k of a list, (0, 0) beyond it -/
def ed (es : List (Int × Int)) (k : Nat) : Int × Int := es.getD k (0, 0)

/-- a slice of edges -/
structure RdE (w : World) (B : Nat) (A : Option Addr) (es : List (Int × Int)) : Prop where
  lo1 : ∀ k, -9223372036854775808 ≤ (ed es k).1
  hi1 : ∀ k, (ed es k).1 ≤ 9223372036854775807
  lo2 : ∀ k, -9223372036854775808 ≤ (ed es k).2
  hi2 : ∀ k, (ed es k).2 ≤ 9223372036854775807
  room : es.length ≤ 1099511627776
  rd : 0 < es.length → ∃ b off, A = some ⟨b, off, none⟩ ∧ b < B ∧ ∀ k, k < es.length →
    w.cell? ⟨b, off + k * 2, none⟩ = some (.int .i64 (ed es k).1) ∧ w.cell? ⟨b, off + k * 2 + 1, none⟩ = some (.int .i64 (ed es k).2)

theorem RdE.keep {w w' : World} {B : Nat} {A : Option Addr} {es : List (Int × Int)} (h : RdE w B A es) (hk : ∀ b o, b < B → w'.cell? ⟨b, o, none⟩ = w.cell? ⟨b, o, none⟩) : RdE w' B A es :=
  ⟨h.lo1, h.hi1, h.lo2, h.hi2, h.room, fun hn => by
    obtain ⟨b, off, hA, hb, hc⟩ := h.rd hn
    exact ⟨b, off, hA, hb, fun k hk' => ⟨(hk b _ hb).trans (hc k hk').1, (hk b _ hb).trans (hc k hk').2⟩⟩⟩
theorem RdE.below {w w' : World} {B : Nat} {A : Option Addr} {es : List (Int × Int)} (h : RdE w B A es) (hb : Below B w w') : RdE w' B A es := h.keep fun b o hlt => hb.cell (p := ⟨b, o, none⟩) hlt
theorem RdE.more {w : World} {B B' : Nat} {A : Option Addr} {es : List (Int × Int)} (h : RdE w B A es) (hB : B ≤ B') : RdE w B' A es :=
  ⟨h.lo1, h.hi1, h.lo2, h.hi2, h.room, fun hn => by
    obtain ⟨b, off, hA, hb, hc⟩ := h.rd hn
    exact ⟨b, off, hA, by omega, hc⟩⟩
theorem RdE.step {w w' : World} {A : Option Addr} {es : List (Int × Int)} (h : RdE w w.heap.size A es) (hb : Below w.heap.size w w') : RdE w' w'.heap.size A es := (h.below hb).more hb.size

/-- a slice of sets -/
structure RdUU (w : World) (B : Nat) (A : Option Addr) (xss : List (List Nat)) : Prop where
  room : xss.length ≤ 1048576
  rd : ∃ (a : Nat → Option Addr) (c : Nat → Nat), Rd w B A xss.length (fun k => .slice (a k) (xss.getD k []).length (c k)) ∧ ∀ k, k < xss.length → RdU w B (a k) (xss.getD k [])
theorem RdUU.keep {w w' : World} {B : Nat} {A : Option Addr} {xss : List (List Nat)} (h : RdUU w B A xss) (hk : ∀ b o, b < B → w'.cell? ⟨b, o, none⟩ = w.cell? ⟨b, o, none⟩) : RdUU w' B A xss := by
  obtain ⟨h1, a, c, h2, h3⟩ := h
  exact ⟨h1, a, c, h2.keep hk, fun k hk' => (h3 k hk').keep hk⟩
theorem RdUU.below {w w' : World} {B : Nat} {A : Option Addr} {xss : List (List Nat)} (h : RdUU w B A xss) (hb : Below B w w') : RdUU w' B A xss := h.keep fun b o hlt => hb.cell (p := ⟨b, o, none⟩) hlt
theorem RdUU.more {w : World} {B B' : Nat} {A : Option Addr} {xss : List (List Nat)} (h : RdUU w B A xss) (hB : B ≤ B') : RdUU w B' A xss := by
  obtain ⟨h1, a, c, h2, h3⟩ := h
  exact ⟨h1, a, c, h2.more hB, fun k hk' => (h3 k hk').more hB⟩
theorem RdUU.step {w w' : World} {A : Option Addr} {xss : List (List Nat)} (h : RdUU w w.heap.size A xss) (hb : Below w.heap.size w w') : RdUU w' w'.heap.size A xss := (h.below hb).more hb.size

theorem grownBy_setCell (W : World) (p : Addr) (v : Value) : W.grownBy (W.setCell p v) (some p.block) :=
  ⟨rfl, rfl, rfl, (KeepsWalks.setCell W p v).size, fun k _ hk => Below.heap_setCell _ _ _ k (fun e => hk (by rw [e]))⟩
/-- a slice of lists -/
structure RdII (w : World) (B : Nat) (A : Option Addr) (zss : List (List Int)) : Prop where
  room : zss.length ≤ 1048576
  rd : ∃ (a : Nat → Option Addr) (c : Nat → Nat), Rd w B A zss.length (fun k => .slice (a k) (zss.getD k []).length (c k)) ∧ ∀ k, k < zss.length → RdI w B (a k) (zss.getD k [])

theorem own_ne_row {w : World} {base e t size n m g : Nat} {v : Value} {xs : List Value} {f : Nat → Value} (h : w.ownsRow base e size v n xs) (hr : w.rowIs g t m f) (hne : e ≠ t) : v.ownBlock ≠ some g := by
  intro he
  rcases h.2 with ⟨rfl, _⟩ | ⟨g', cap, cur, rfl, _, hg, _⟩
  · simp [Value.ownBlock] at he
  · obtain rfl : g' = g := by simpa [Value.ownBlock] using he
    obtain ⟨c, hc, _⟩ := hr
    rw [hg] at hc
    injection hc with hc
    injection hc with _ ht
    exact hne ht
theorem own_ne_blk {w : World} {base e t size n g : Nat} {v : Value} {xs : List Value} {cs : Array Value} {fr : Nat × Nat} (h : w.ownsRow base e size v n xs) (hr : w.heap[g]? = some (.cells cs t fr)) (hne : e ≠ t) : v.ownBlock ≠ some g := by
  intro he
  rcases h.2 with ⟨rfl, _⟩ | ⟨g', cap, cur, rfl, _, hg, _⟩
  · simp [Value.ownBlock] at he
  · obtain rfl : g' = g := by simpa [Value.ownBlock] using he
    rw [hg] at hr
    injection hr with hr
    injection hr with _ ht
    exact hne ht
theorem rowIs_grown {w w' : World} {g t m : Nat} {f : Nat → Value} {row : Option Nat} (h : w.rowIs g t m f) (hg : w.grownBy w' row) (hne : some g ≠ row) : w'.rowIs g t m f := h.of_block (hg.block g h.lt hne)
theorem rowIs_below {w w' : World} {B g t m : Nat} {f : Nat → Value} (h : w.rowIs g t m f) (hb : Below B w w') (hg : g < B) : w'.rowIs g t m f := h.of_block (hb.block g hg)
theorem rowIs_step {w w' : World} {g t m : Nat} {f : Nat → Value} (h : w.rowIs g t m f) (hb : Below w.heap.size w w') : w'.rowIs g t m f := rowIs_below h hb h.lt

/-- a row of lists of the call's own, each of which may grow -/
def Ends (T E : TypeId) (w : World) (base ge n : Nat) (f : Nat → List Int) : Prop := ∃ hdr : Nat → Value, w.rowIs ge T n hdr ∧ base ≤ ge ∧
  (∀ i, i < n → w.ownsRow base E 1 (hdr i) (f i).length (iVals (f i))) ∧ (∀ i j, i < n → j < n → i ≠ j → ∀ b, (hdr i).ownBlock = some b → (hdr j).ownBlock ≠ some b)
theorem Ends.new (T E : TypeId) (w : World) (base n : Nat) (hb : base ≤ w.heap.size) : Ends T E (w.alloc (.cells (madeCells #[.slice none 0 0] n) T)) base w.heap.size n (fun _ => []) :=
  ⟨fun _ => .slice none 0 0, World.rowIs_made _ _ _ _, hb, fun _ _ => World.ownsRow_nil _ _ _ _, fun _ _ _ _ _ b h => by simp [Value.ownBlock] at h⟩
theorem Ends.grown {T E : TypeId} {w w' : World} {base ge n : Nat} {f : Nat → List Int} (h : Ends T E w base ge n f) (hg : w.grownBy w' none) : Ends T E w' base ge n f := by
  obtain ⟨hdr, h1, h2, h3, h4⟩ := h
  refine ⟨hdr, rowIs_grown h1 hg (by simp), h2, fun i hi => (h3 i hi).kept hg ?_, h4⟩
  rcases (h3 i hi).2 with ⟨h0, _⟩ | ⟨g', cap, cur, h0, _⟩
  · exact .inl (by rw [h0]; rfl)
  · exact .inr (by rw [h0]; simp [Value.ownBlock])
theorem Ends.alloc {T E : TypeId} {w : World} {base ge n : Nat} {f : Nat → List Int} (h : Ends T E w base ge n f) (o : Obj) : Ends T E (w.alloc o) base ge n f := h.grown (World.grownBy_alloc w o none)
theorem Ends.lt {T E : TypeId} {w : World} {base ge n : Nat} {f : Nat → List Int} (h : Ends T E w base ge n f) : ge < w.heap.size := by obtain ⟨hdr, h1, _⟩ := h; exact h1.lt
theorem Ends.drew {T E : TypeId} {w : World} {base ge n : Nat} {f : Nat → List Int} (h : Ends T E w base ge n f) : Ends T E w.drew base ge n f := h
theorem Ends.at_ {T E : TypeId} {w : World} {base ge n : Nat} {f : Nat → List Int} (h : Ends T E w base ge n f) (hTE : E ≠ T) {x : Nat} (hx : x < n) :
    ∃ v A c, v = .slice A (f x).length c ∧ w.cell? ⟨ge, x, none⟩ = some v ∧ w.frozen? ⟨ge, x, none⟩ = false ∧ w.ownsRow base E 1 v (f x).length (iVals (f x)) ∧ ge < w.heap.size ∧ v.ownBlock ≠ some ge ∧
      ∀ (tmp : Obj) (y : Int) (v' : Value) (w1 : World), w1.ownsRow base E 1 v' ((f x).length + 1) (iVals (f x) ++ [.int .i64 y]) → (w.alloc tmp).drew.grownBy w1 v.ownBlock → (∀ b, v'.ownBlock = some b → v.ownBlock = some b ∨ b = w.heap.size + 1) →
        Ends T E (w1.setCell ⟨ge, x, none⟩ v') base ge n (fun i => if i = x then f x ++ [y] else f i) := by
  obtain ⟨hdr, h1, h2, h3, h4⟩ := h
  obtain ⟨A, c, hv⟩ := own_any (h3 x hx)
  refine ⟨hdr x, A, c, hv, h1.cell hx, h1.frozen x, h3 x hx, h1.lt, own_ne_row (h3 x hx) h1 hTE, ?_⟩
  intro tmp y v' w1 hown hg hat
  have hgx := own_ne_row (h3 x hx) h1 hTE
  have h1a : (w.alloc tmp).drew.rowIs ge T n hdr := h1.alloc tmp
  have h1w : w1.rowIs ge T n hdr := rowIs_grown h1a hg (fun e => hgx e.symm)
  have hnv : v'.ownBlock ≠ some ge := own_ne_row hown h1w hTE
  refine ⟨fun i => if i = x then v' else hdr i, h1w.set x v', h2, fun i hi => ?_, fun i j hi hj hij b hb => ?_⟩
  · by_cases e : i = x
    · subst e
      dsimp only
      rw [if_pos rfl, if_pos rfl]
      have := hown.kept (grownBy_setCell w1 ⟨ge, i, none⟩ v') (.inr hnv)
      rw [iVals_snoc] at this
      simpa using this
    · dsimp only
      rw [if_neg e, if_neg e]
      have hi1 : (w.alloc tmp).drew.ownsRow base E 1 (hdr i) (f i).length (iVals (f i)) := (h3 i hi).alloc tmp
      have hi2 : w1.ownsRow base E 1 (hdr i) (f i).length (iVals (f i)) := hi1.kept hg (by
        rcases hi1.2 with ⟨h0, _⟩ | ⟨g', cap, cur, h0, _⟩
        · exact .inl (by rw [h0]; rfl)
        · refine .inr (fun e' => ?_)
          have h5 : (hdr i).ownBlock = some g' := by rw [h0]; rfl
          rw [h5] at e'
          exact h4 i x hi hx e g' h5 e'.symm)
      exact hi2.kept (grownBy_setCell w1 ⟨ge, x, none⟩ v') (.inr (own_ne_row hi2 h1w hTE))
  · have hlt : ∀ i, i < n → ∀ b, (hdr i).ownBlock = some b → b < w.heap.size := fun i hi b hb => by
      rcases (h3 i hi).2 with ⟨h0, _⟩ | ⟨g', cap, cur, h0, _, hg', _⟩
      · rw [h0] at hb; simp [Value.ownBlock] at hb
      · rw [h0] at hb
        obtain rfl : g' = b := by simpa [Value.ownBlock] using hb
        exact (Array.getElem?_eq_some_iff.1 hg').1
    dsimp only at hb ⊢
    by_cases e1 : i = x
    · subst e1
      rw [if_pos rfl] at hb
      rw [if_neg (fun e => hij e.symm)]
      intro hb2
      rcases hat b hb with h | h
      · exact h4 i j hi hj hij b h hb2
      · have := hlt j hj b hb2; omega
    · rw [if_neg e1] at hb
      by_cases e2 : j = x
      · subst e2
        rw [if_pos rfl]
        intro hb2
        rcases hat b hb2 with h | h
        · exact h4 i j hi hj hij b hb h
        · have := hlt i hi b hb; omega
      · rw [if_neg e2]
        exact h4 i j hi hj hij b hb
theorem Ends.rd {T E : TypeId} {w : World} {base ge n : Nat} {f : Nat → List Int} (h : Ends T E w base ge n f) (hn : n ≤ 1048576) (hf : ∀ i, i < n → (f i).length ≤ 1152921504606846976 ∧ ∀ k, -9223372036854775808 ≤ zd (f i) k ∧ zd (f i) k ≤ 9223372036854775807) :
    RdII w w.heap.size (some ⟨ge, 0, none⟩) ((List.range n).map f) := by
  obtain ⟨hdr, h1, h2, h3, h4⟩ := h
  have h5 : ∀ i, ∃ Ac : Option Addr × Nat, i < n → hdr i = .slice Ac.1 (f i).length Ac.2 ∧ RdI w w.heap.size Ac.1 (f i) := fun i => by
    by_cases hi : i < n
    · obtain ⟨A, c, hv, hr⟩ := own_rdI (h3 i hi) (fun k => ((hf i hi).2 k).1) (fun k => ((hf i hi).2 k).2) (hf i hi).1
      exact ⟨(A, c), fun _ => ⟨hv, hr⟩⟩
    · exact ⟨(none, 0), fun h => absurd h hi⟩
  have hget : ∀ k, k < n → ((List.range n).map f).getD k [] = f k := fun k hk => by simp [List.getD, hk]
  refine ⟨by simpa using hn, fun i => (h5 i).choose.1, fun i => (h5 i).choose.2, fun hlen => ⟨ge, 0, rfl, h1.lt, fun k hk => ?_⟩, fun k hk => ?_⟩
  · simp at hk
    dsimp only
    rw [Nat.zero_add, h1.cell hk, hget k hk]
    exact congrArg some ((h5 k).choose_spec hk).1
  · simp at hk
    rw [hget k hk]
    exact ((h5 k).choose_spec hk).2

theorem RdII.at0 {w : World} {B g : Nat} {zss : List (List Int)} (h : RdII w B (some ⟨g, 0, none⟩) zss) {k : Nat} (hk : k < zss.length) : ∃ A c, g < B ∧ w.cell? ⟨g, k, none⟩ = some (.slice A (zss.getD k []).length c) ∧ RdI w B A (zss.getD k []) := by
  obtain ⟨h1, a, c, h2, h3⟩ := h
  obtain ⟨b, off, hA, hb, hc⟩ := h2 (by omega)
  injection hA with hA
  injection hA with e1 e2
  subst e1
  subst e2
  have := hc k hk
  rw [Nat.zero_add] at this
  exact ⟨a k, c k, hb, this, h3 k hk⟩
/-- set k of a slice of sets -/
def st (xss : List (List Nat)) (k : Nat) : List Nat := xss.getD k []
theorem st_map (f : Nat → List Nat) (n k : Nat) (h : k < n) : st ((List.range n).map f) k = f k := by unfold st; simp [List.getD, h]
theorem RdUU.at_ {w : World} {B : Nat} {A : Option Addr} {xss : List (List Nat)} (h : RdUU w B A xss) {k : Nat} (hk : k < xss.length) : ∃ b off A' c, A = some ⟨b, off, none⟩ ∧ b < B ∧ w.cell? ⟨b, off + k, none⟩ = some (.slice A' (st xss k).length c) ∧ RdU w B A' (st xss k) := by
  obtain ⟨h1, a, c, h2, h3⟩ := h
  obtain ⟨b, off, hA, hb, hc⟩ := h2 (by omega)
  exact ⟨b, off, a k, c k, hA, hb, hc k hk, h3 k hk⟩

/-- a slice of words whose block p names -/
structure RdUp (w : World) (p : Nat → Prop) (A : Option Addr) (xs : List Nat) : Prop where
  lt : ∀ k, wd xs k < 18446744073709551616
  room : xs.length ≤ 1152921504606846976
  rd : 0 < xs.length → ∃ b off, A = some ⟨b, off, none⟩ ∧ p b ∧ ∀ k, k < xs.length → w.cell? ⟨b, off + k, none⟩ = some (.int .u64 (wd xs k : Int))
theorem RdU.toP {w : World} {B : Nat} {A : Option Addr} {xs : List Nat} (h : RdU w B A xs) : RdUp w (fun b => b < B) A xs := ⟨h.lt, h.room, h.rd⟩
theorem RdUp.toU {w : World} {p : Nat → Prop} {A : Option Addr} {xs : List Nat} (h : RdUp w p A xs) : RdU w w.heap.size A xs := ⟨h.lt, h.room, fun hn => by
  obtain ⟨b, off, hA, hp, hc⟩ := h.rd hn
  exact ⟨b, off, hA, World.block_lt_of_cell? w _ (hc 0 hn), hc⟩⟩
theorem RdUp.keeps {w w' : World} {p q : Nat → Prop} {A : Option Addr} {xs : List Nat} (h : RdUp w p A xs) (hk : Keeps q w w') (hq : ∀ b, p b → q b) : RdUp w' p A xs := ⟨h.lt, h.room, fun hn => by
  obtain ⟨b, off, hA, hp, hc⟩ := h.rd hn
  have hlt : b < w.heap.size := World.block_lt_of_cell? w _ (hc 0 hn)
  exact ⟨b, off, hA, hp, fun k hk' => (World.cell?_of_block (hk.block b hlt (hq b hp))).trans (hc k hk')⟩⟩
theorem RdUp.imp {w : World} {p q : Nat → Prop} {A : Option Addr} {xs : List Nat} (h : RdUp w p A xs) (hq : ∀ b, p b → q b) : RdUp w q A xs := ⟨h.lt, h.room, fun hn => by
  obtain ⟨b, off, hA, hp, hc⟩ := h.rd hn
  exact ⟨b, off, hA, hq b hp, hc⟩⟩
/-- a slice of sets whose blocks p names -/
structure RdUUp (w : World) (p : Nat → Prop) (A : Option Addr) (xss : List (List Nat)) : Prop where
  room : xss.length ≤ 1048576
  rd : ∃ (a : Nat → Option Addr) (c : Nat → Nat), (0 < xss.length → ∃ b off, A = some ⟨b, off, none⟩ ∧ p b ∧ ∀ k, k < xss.length → w.cell? ⟨b, off + k, none⟩ = some (.slice (a k) (st xss k).length (c k))) ∧ ∀ k, k < xss.length → RdUp w p (a k) (st xss k)
theorem RdUU.toP {w : World} {B : Nat} {A : Option Addr} {xss : List (List Nat)} (h : RdUU w B A xss) : RdUUp w (fun b => b < B) A xss := by
  obtain ⟨h1, a, c, h2, h3⟩ := h
  exact ⟨h1, a, c, h2, fun k hk => (h3 k hk).toP⟩
theorem RdUUp.toUU {w : World} {p : Nat → Prop} {A : Option Addr} {xss : List (List Nat)} (h : RdUUp w p A xss) : RdUU w w.heap.size A xss := by
  obtain ⟨h1, a, c, h2, h3⟩ := h
  refine ⟨h1, a, c, fun hn => ?_, fun k hk => (h3 k hk).toU⟩
  obtain ⟨b, off, hA, hp, hc⟩ := h2 hn
  exact ⟨b, off, hA, World.block_lt_of_cell? w _ (hc 0 hn), hc⟩
theorem RdUUp.keeps {w w' : World} {p q : Nat → Prop} {A : Option Addr} {xss : List (List Nat)} (h : RdUUp w p A xss) (hk : Keeps q w w') (hq : ∀ b, p b → q b) : RdUUp w' p A xss := by
  obtain ⟨h1, a, c, h2, h3⟩ := h
  refine ⟨h1, a, c, fun hn => ?_, fun k hk' => (h3 k hk').keeps hk hq⟩
  obtain ⟨b, off, hA, hp, hc⟩ := h2 hn
  have hlt : b < w.heap.size := World.block_lt_of_cell? w _ (hc 0 hn)
  exact ⟨b, off, hA, hp, fun k hk' => (World.cell?_of_block (hk.block b hlt (hq b hp))).trans (hc k hk')⟩
theorem RdUUp.imp {w : World} {p q : Nat → Prop} {A : Option Addr} {xss : List (List Nat)} (h : RdUUp w p A xss) (hq : ∀ b, p b → q b) : RdUUp w q A xss := by
  obtain ⟨h1, a, c, h2, h3⟩ := h
  refine ⟨h1, a, c, fun hn => ?_, fun k hk' => (h3 k hk').imp hq⟩
  obtain ⟨b, off, hA, hp, hc⟩ := h2 hn
  exact ⟨b, off, hA, hq b hp, hc⟩
theorem RdUUp.at_ {w : World} {p : Nat → Prop} {A : Option Addr} {xss : List (List Nat)} (h : RdUUp w p A xss) {k : Nat} (hk : k < xss.length) : ∃ b off A' c, A = some ⟨b, off, none⟩ ∧ p b ∧ w.cell? ⟨b, off + k, none⟩ = some (.slice A' (st xss k).length c) ∧ RdUp w p A' (st xss k) := by
  obtain ⟨h1, a, c, h2, h3⟩ := h
  obtain ⟨b, off, hA, hp, hc⟩ := h2 (by omega)
  exact ⟨b, off, a k, c k, hA, hp, hc k hk, h3 k hk⟩

theorem RdUp.lt' {w : World} {p : Nat → Prop} {A : Option Addr} {xs : List Nat} (h : RdUp w p A xs) : RdUp w (fun b => p b ∧ b < w.heap.size) A xs := ⟨h.lt, h.room, fun hn => by
  obtain ⟨b, off, hA, hp, hc⟩ := h.rd hn
  exact ⟨b, off, hA, ⟨hp, World.block_lt_of_cell? w _ (hc 0 hn)⟩, hc⟩⟩
theorem RdUUp.lt' {w : World} {p : Nat → Prop} {A : Option Addr} {xss : List (List Nat)} (h : RdUUp w p A xss) : RdUUp w (fun b => p b ∧ b < w.heap.size) A xss := by
  obtain ⟨h1, a, c, h2, h3⟩ := h
  refine ⟨h1, a, c, fun hn => ?_, fun k hk => (h3 k hk).lt'⟩
  obtain ⟨b, off, hA, hp, hc⟩ := h2 hn
  exact ⟨b, off, hA, ⟨hp, World.block_lt_of_cell? w _ (hc 0 hn)⟩, hc⟩

/-- a row of sets of the call's own, in blocks from base on -/
def OwnUU (T : TypeId) (w : World) (base g n : Nat) (xs : Nat → List Nat) : Prop := base ≤ g ∧ ∃ (a : Nat → Option Addr) (c : Nat → Nat), w.rowIs g T n (fun i => .slice (a i) (xs i).length (c i)) ∧ ∀ i, i < n → RdUp w (fun b => base ≤ b) (a i) (xs i)
theorem rdUp_nil (w : World) (p : Nat → Prop) (A : Option Addr) : RdUp w p A [] := ⟨fun k => by simp [wd], by simp, fun h => by simp at h⟩
theorem OwnUU.new (T : TypeId) (w : World) (base n : Nat) (hb : base ≤ w.heap.size) : OwnUU T (w.alloc (.cells (madeCells #[.slice none 0 0] n) T)) base w.heap.size n (fun _ => []) :=
  ⟨hb, fun _ => none, fun _ => 0, World.rowIs_made _ _ _ _, fun _ _ => rdUp_nil _ _ _⟩
theorem OwnUU.step {T : TypeId} {w w' : World} {base g n : Nat} {xs : Nat → List Nat} (h : OwnUU T w base g n xs) (hb : Below w.heap.size w w') : OwnUU T w' base g n xs := by
  obtain ⟨h0, a, c, h1, h2⟩ := h
  exact ⟨h0, a, c, rowIs_step h1 hb, fun i hi => by
    have := (h2 i hi)
    refine ⟨this.lt, this.room, fun hn => ?_⟩
    obtain ⟨b, off, hA, hp, hc⟩ := this.rd hn
    exact ⟨b, off, hA, hp, fun k hk => (hb.cell (p := ⟨b, off + k, none⟩) (World.block_lt_of_cell? w _ (hc k hk))).trans (hc k hk)⟩⟩
theorem OwnUU.keeps {T : TypeId} {w w' : World} {base g n : Nat} {xs : Nat → List Nat} {p : Nat → Prop} (h : OwnUU T w base g n xs) (hk : Keeps p w w') (hp : ∀ b, base ≤ b → p b) : OwnUU T w' base g n xs := by
  obtain ⟨h0, a, c, h1, h2⟩ := h
  exact ⟨h0, a, c, h1.of_block (hk.block g h1.lt (hp g h0)), fun i hi => (h2 i hi).keeps hk hp⟩
theorem OwnUU.lt {T : TypeId} {w : World} {base g n : Nat} {xs : Nat → List Nat} (h : OwnUU T w base g n xs) : g < w.heap.size := by obtain ⟨h0, a, c, h1, _⟩ := h; exact h1.lt
/-- a store into a row of slices turns no slice of words -/
theorem RdUp.setRow {T : TypeId} {w : World} {g n i : Nat} {p : Nat → Prop} {A : Option Addr} {xs : List Nat} {a : Nat → Option Addr} {l c : Nat → Nat} (h : RdUp w p A xs) (hr : w.rowIs g T n (fun i => .slice (a i) (l i) (c i))) (v : Value) : RdUp (w.setCell ⟨g, i, none⟩ v) p A xs :=
  ⟨h.lt, h.room, fun hn => by
    obtain ⟨b, off, hA, hb, hc⟩ := h.rd hn
    refine ⟨b, off, hA, hb, fun k hk => ?_⟩
    have hck := hc k hk
    by_cases e : b = g
    · subst e
      obtain ⟨cs, hh, hsz, hcs⟩ := hr
      have h1 : cs[off + k]? = some (.int .u64 (wd xs k : Int)) := by
        have := hck
        simp only [World.cell?, hh] at this
        exact this
      have h2 := (Array.getElem?_eq_some_iff.1 h1).1
      rw [hcs _ (by omega)] at h1
      cases h1
    · exact (World.cell?_of_block (Below.heap_setCell w ⟨g, i, none⟩ v b e)).trans hck⟩
theorem OwnUU.set {T : TypeId} {w : World} {base g n i : Nat} {xs : Nat → List Nat} (h : OwnUU T w base g n xs) {A : Option Addr} {c' : Nat} {l : List Nat} (hl : RdUp w (fun b => base ≤ b) A l) : OwnUU T (w.setCell ⟨g, i, none⟩ (.slice A l.length c')) base g n (fun j => if j = i then l else xs j) := by
  obtain ⟨h0, a, c, h1, h2⟩ := h
  refine ⟨h0, fun j => if j = i then A else a j, fun j => if j = i then c' else c j, (h1.set i (.slice A l.length c')).congr fun j hj => ?_, fun j hj => ?_⟩
  · by_cases e : j = i
    · simp [e]
    · simp [e]
  · by_cases e : j = i
    · simp only [if_pos e]; exact hl.setRow h1 _
    · simp only [if_neg e]; exact (h2 j hj).setRow h1 _
theorem OwnUU.cell {T : TypeId} {w : World} {base g n : Nat} {xs : Nat → List Nat} (h : OwnUU T w base g n xs) {i : Nat} (hi : i < n) : ∃ A c, w.cell? ⟨g, i, none⟩ = some (.slice A (xs i).length c) ∧ w.frozen? ⟨g, i, none⟩ = false ∧ RdU w w.heap.size A (xs i) := by
  obtain ⟨h0, a, c, h1, h2⟩ := h
  exact ⟨a i, c i, h1.cell hi, h1.frozen i, (h2 i hi).toU⟩
theorem OwnUU.rd {T : TypeId} {w : World} {base g n : Nat} {xs : Nat → List Nat} (h : OwnUU T w base g n xs) (hn : n ≤ 1048576) : RdUUp w (fun b => base ≤ b) (some ⟨g, 0, none⟩) ((List.range n).map xs) := by
  obtain ⟨h0, a, c, h1, h2⟩ := h
  refine ⟨by simpa using hn, a, c, fun hlen => ⟨g, 0, rfl, h0, fun k hk => ?_⟩, fun k hk => ?_⟩
  · simp at hk
    rw [Nat.zero_add, h1.cell hk, st_map xs n k hk]
  · simp at hk
    rw [st_map xs n k hk]
    exact h2 k hk
end Go.Proofs.Ytafhljjekpaehaa
