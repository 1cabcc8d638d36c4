/-
  Contract of slices.Repeat at a slice of one int.
  Contract of order.smallestBefore: for each node the smallest that may stand ahead of it in a longest way, or none.
-/
import Derived.Test.YtaboafkpmgadmaaDoorGrAl
import Derived.Shelf.Bits.Mul64
import Derived.Laws.CopyOwn
import Derived.Deep.RegionLaw
import Derived.Shelf.RegionOpenPlain
import Derived.Deep.CutRange
import Derived.Test.YtaboafkpmgadmaaDoorOrH
namespace Go.Proofs.YtaboafkpmgadmaaDoor
open Go.RowKit Go.Shelf Go.Lib
set_option maxRecDepth 100000

set_option maxHeartbeats 1000000 in
theorem mul64_any (x y : Nat) (hx : x < 18446744073709551616) (hy : y < 18446744073709551616) (w : World) :
    Calls Tryd.prog 122 #[.int .u64 x, .int .u64 y] w fun e w' => e = .returned (.tuple #[.int .u64 ((x * y / 18446744073709551616 : Nat) : Int), .int .u64 ((x * y % 18446744073709551616 : Nat) : Int)]) ∧ w' = w := by
  obtain ⟨bd, bt, bw, hhi⟩ := Lib.mul64_hi x y hx hy
  have ba := Lib.half_mul_le (a := x / 4294967296) (b := y / 4294967296) (by omega) (by omega)
  have bb := Lib.half_mul_le (a := x / 4294967296) (b := y % 4294967296) (by omega) (by omega)
  have bc := Lib.half_mul_le (a := x % 4294967296) (b := y / 4294967296) (by omega) (by omega)
  have ba' : x / 4294967296 * (y / 4294967296) < 18446744073709551616 := by omega
  have bb' : x / 4294967296 * (y % 4294967296) < 18446744073709551616 := by omega
  have bc' : x % 4294967296 * (y / 4294967296) < 18446744073709551616 := by omega
  have bh1 : x / 4294967296 * (y / 4294967296) + (x / 4294967296 * (y % 4294967296) + x % 4294967296 * (y % 4294967296) / 4294967296) / 4294967296 < 18446744073709551616 := by omega
  have bh : x / 4294967296 * (y / 4294967296) + (x / 4294967296 * (y % 4294967296) + x % 4294967296 * (y % 4294967296) / 4294967296) / 4294967296 + ((x / 4294967296 * (y % 4294967296) + x % 4294967296 * (y % 4294967296) / 4294967296) % 4294967296 + x % 4294967296 * (y / 4294967296)) / 4294967296 < 18446744073709551616 := by omega
  go_enter Tryd.func122, Tryd.ntmps122
  go_wp2
  simp only [Mul64.maskN x hx, Mul64.maskN y hy, Mul64.divN, Mul64.mulN, Mul64.addN, Mul64.wrapN _ bd, Mul64.wrapN _ bb', Mul64.wrapN _ bt, Mul64.maskN _ bt, Mul64.wrapN _ bc', Mul64.wrapN _ bw, Mul64.wrapN _ ba', Mul64.wrapN _ bh1, Mul64.wrapN _ bh, Mul64.wrapM (x * y)]
  rw [hhi]
  go_ret2
  exact ⟨rfl, rfl⟩

set_option maxHeartbeats 1000000 in
theorem mul_any (x y : Nat) (hx : x < 18446744073709551616) (hy : y < 18446744073709551616) (w : World) :
    Calls Tryd.prog 117 #[.int .u64 x, .int .u64 y] w fun e w' => e = .returned (.tuple #[.int .u64 ((x * y / 18446744073709551616 : Nat) : Int), .int .u64 ((x * y % 18446744073709551616 : Nat) : Int)]) ∧ w' = w := by
  have c64 := mul64_any x y hx hy w
  go_enter Tryd.func117, Tryd.ntmps117
  go_wp2_with (go_at_call 122; refine c64.mono ?_; rintro e w' ⟨rfl, hw⟩; rw [hw])
  go_ret2
  exact ⟨rfl, rfl⟩

theorem rowIs_splice {w w' : World} {g n c l : Nat} {t : TypeId} {v z : Value} {cur : List Value} (hc : w.heap[g]? = some (.cells cur.toArray t (0, 0))) (h : w.rowIs g t n (fun k => if k < c then v else z))
    (hw' : w'.heap[g]? = some (.cells (splice cur c (List.replicate l v)).toArray t (0, 0))) (hl : c + l ≤ n) : w'.rowIs g t n (fun k => if k < c + l then v else z) := by
  obtain ⟨cs, h1, h2, h3⟩ := h
  rw [hc] at h1
  injection h1 with h1
  injection h1 with h1 _ _
  subst h1
  simp at h2
  refine ⟨_, hw', by simp [length_splice, h2, hl], fun i hi => ?_⟩
  have h4 := h3 i hi
  simp only [List.getElem?_toArray] at h4 ⊢
  unfold splice
  rcases Nat.lt_or_ge i c with hic | hic
  · rw [List.getElem?_append_left (by simp; omega), List.getElem?_take_of_lt hic, h4, if_pos hic, if_pos (by omega)]
  · rw [List.getElem?_append_right (by simp; omega), List.length_take, h2, Nat.min_eq_left (by omega)]
    rcases Nat.lt_or_ge i (c + l) with hil | hil
    · rw [List.getElem?_append_left (by simp; omega), List.getElem?_replicate, if_pos (by omega), if_pos hil]
    · rw [List.getElem?_append_right (by simp; omega), List.getElem?_drop, List.length_replicate, show c + l + (i - c - l) = i by omega, h4, if_neg (by omega), if_neg (by omega)]
theorem rowIs_cur {w : World} {g n : Nat} {t : TypeId} {f : Nat → Value} (h : w.rowIs g t n f) : ∃ cur : List Value, cur.length = n ∧ w.heap[g]? = some (.cells cur.toArray t (0, 0)) := by
  obtain ⟨cs, h1, h2, _⟩ := h
  exact ⟨cs.toList, by simpa using h2, by simpa using h1⟩

set_option maxHeartbeats 4000000 in
theorem repeat_any (b off c n : Nat) (hn : n ≤ 200) (v : Int) (w : World) (hb : b < w.heap.size) (hx : w.cell? ⟨b, off, none⟩ = some (.int .i64 v)) :
    Calls Tryd.prog 103 #[.slice (some ⟨b, off, none⟩) 1 c, .int .i64 n] w fun e w' => e = .returned (.slice (some ⟨w.heap.size, 0, none⟩) n n) ∧ w'.rowIs w.heap.size 3 n (fun _ => .int .i64 v) ∧ Below w.heap.size w w' := by
  have hmk := run_make_row' (P := Tryd.prog) 25 3 (.int .i64 0) 8 Tryd.underlying25 Tryd.infoInt rfl .i64 .i64 n (by omega) (by omega)
  have hmul := mul_any 1 n (by omega) (by omega) w
  rw [Nat.one_mul, show n / 18446744073709551616 = 0 by omega, show n % 18446744073709551616 = n by omega] at hmul
  go_enter Tryd.func103, Tryd.ntmps103
  go_upto_region 7 with (go_at_call 117; refine hmul.mono ?_; rintro e w' ⟨rfl, hw⟩; rw [hw])
  have R := World.rowIs_made w (.int .i64 0) n 3
  have hBn := below_alloc w (.cells (madeCells #[.int .i64 0] n) 3)
  have hx2 := (hBn.cell (p := ⟨b, off, none⟩) hb).trans hx
  obtain ⟨w1, hw1⟩ : ∃ w1, w1 = w.alloc (.cells (madeCells #[.int .i64 0] n) 3) := ⟨_, rfl⟩
  obtain ⟨g, hg⟩ : ∃ g, g = w.heap.size := ⟨_, rfl⟩
  rw [← hw1] at R hBn hx2 ⊢
  rw [← hg] at R hBn ⊢
  have hw0 : w.heap.size ≤ g := by omega
  have hmo : Tryd.prog.follows .mixedOrders = true := by kernel_rfl
  have hinf : (Tryd.prog.info? 3).map (·.size) = some 1 := by kernel_rfl
  have R0 : w1.rowIs g 3 n (fun k => if k < 0 then .int .i64 v else .int .i64 0) := by simpa using R
  obtain ⟨cur, hcl, hcur⟩ := rowIs_cur R0
  have hBg : Below g w w1 := hBn
  have hg1 : g < w1.heap.size := R.lt
  have HG := Lib.hid hg
  have HX := Lib.hid hx2
  have HR0 := Lib.hid R0
  have HCL := Lib.hid hcl
  have hlen1 : (List.replicate (Nat.min 1 n) (Value.int .i64 v)).length = Nat.min 1 n := List.length_replicate
  have hmn : Nat.min 1 n ≤ n := Nat.min_le_right _ _
  obtain ⟨c0, hc0⟩ : ∃ c0, c0 = Nat.min 1 n := ⟨_, rfl⟩
  have hpos : n = 0 ∨ 0 < c0 := by
    rcases Nat.eq_zero_or_pos n with h | h
    · exact .inl h
    · right; rw [hc0]; exact Nat.lt_min.2 ⟨by omega, h⟩
  have HC0 := Lib.hid hc0
  have hc1 : c0 ≤ 1 := by rw [hc0]; exact Nat.min_le_left 1 n
  have HC1 := Lib.hid hc1
  rw [← hc0] at hlen1 hmn
  clear hw1 hg R R0 hx2 hx hBn hc0 hmul hcl hc1
  have HL1 := Lib.hid hlen1
  clear hlen1
  go_wp2_with (with_reducible refine wpList_copy_splice rfl _ _ 25 25 rfl 3 Tryd.underlying25 hinf (some ⟨g, 0, none⟩) (some ⟨b, off, none⟩) n n 1 c rfl rfl g 0 cur 3 hcur (List.replicate c0 (Value.int .i64 v)) (by rw [List.length_replicate]; exact HC0.out) (fun h => ⟨rfl, ⟨b, off, none⟩, rfl, ?qc1⟩) (by rw [List.length_replicate, HCL.out]; omega) ?qc2 g w hBg (Nat.le_refl _) ?_)
  case qc1 =>
    intro j u hj
    rw [List.getElem?_replicate] at hj
    split at hj
    · obtain rfl : j = 0 := by have := HC1.out; omega
      rw [← Option.some.inj hj]
      exact HX.out
    · cases hj
  case qc2 => intro u hu; rw [(List.mem_replicate.1 hu).2]; rfl
  intro w2 hg2 hB2
  try rw [HL1.out]
  have hr2 : w2.rowIs g 3 n (fun k => if k < c0 then .int .i64 v else .int .i64 0) := by
    have := rowIs_splice (c := 0) hcur HR0.out hg2.out (by omega)
    rwa [Nat.zero_add] at this
  clear hg2 hcur hBg
  obtain ⟨wo, rfl⟩ : ∃ wo : World, wo = w2 := ⟨_, rfl⟩
  go_wp2_with fail
  go_loopw [8] (fun i wr => ∃ q : Nat, q ≤ n ∧ (n = 0 ∨ 0 < q) ∧ i = .int .i64 q ∧ wr.rowIs g 3 n (fun k => if k < q then .int .i64 v else .int .i64 0) ∧ Below g w wr) (fun i _ => n - (intOf i).toNat)
  case atStart => exact ⟨c0, hmn, hpos, rfl, hr2, hB2⟩
  case round =>
    obtain ⟨q, hq, hqp, rfl, hr, hbr⟩ := hrel
    clear hr2 hB2
    by_cases hlt : q < n
    · have hq0 : 0 < q := by omega
      obtain ⟨cu, hcl2, hcu⟩ := rowIs_cur hr
      have hne : ¬ n = q := by omega
      have hcd : wr.drew.heap[g]? = some (.cells cu.toArray 3 (0, 0)) := hcu
      have hbd : Below g w wr.drew := hbr.drew
      have HS : Hid (∀ j u, (List.replicate (Nat.min q (n - q)) (Value.int .i64 v))[j]? = some u → wr.drew.cell? ((⟨g, 0, none⟩ : Addr).add j) = some u) := by
        intro j u hj
        rw [List.getElem?_replicate] at hj
        split at hj
        · rename_i hjl
          have hql : Nat.min q (n - q) ≤ q := Nat.min_le_left q (n - q)
          have hcj := hr.cell (i := j) (by omega)
          rw [if_pos (by omega)] at hcj
          rw [← Option.some.inj hj, Addr.add_lit, Nat.zero_add]
          exact hcj
        · cases hj
      have HR := Lib.hid hr
      have HCL2 := Lib.hid hcl2
      have hmin : Nat.min q (n - q) ≤ n - q := Nat.min_le_right _ _
      have hmin0 : 0 < Nat.min q (n - q) := Nat.lt_min.2 ⟨hq0, by omega⟩
      obtain ⟨d, hd⟩ : ∃ d, d = Nat.min q (n - q) := ⟨_, rfl⟩
      have HD := Lib.hid hd
      rw [← hd] at hmin hmin0 HS
      clear hcl2 hr hd
      go_wp2_with fail
      go_region_law_o (refine step_copy_splice rfl (.tmp 41) (.tmp 44) 25 25 rfl 3 Tryd.underlying25 hinf (some ⟨g, q, none⟩) (some ⟨g, 0, none⟩) (n - q) (n - q) q n (by simp [Act.eval, Act.put]) (by simp [Act.eval, Act.put]) g q cu 3 hcd (List.replicate d (Value.int .i64 v)) (by rw [List.length_replicate]; exact HD.out) (fun _ => ⟨rfl, ⟨g, 0, none⟩, rfl, HS.out⟩) (by rw [List.length_replicate, HCL2.out]; omega) (by intro u hu; rw [(List.mem_replicate.1 hu).2]; rfl) g w hbd (Nat.le_refl _) ?_; intro w4 hg4 hb4; rw [List.length_replicate])
      all_goals
        have hr4 := rowIs_splice hcu HR.out hg4.out (by omega)
        have hwr : IntKind.i64.wrap ((q : Int) + (d : Int)) = ((q + d : Nat) : Int) := by rw [IntKind.wrap_i64]; omega
        go_simp
        try simp only [hwr]
        go_wp2
        go_roundw
        case rel => exact ⟨q + d, by omega, .inr (by omega), by go_num, hr4, hb4⟩
        case measure => simp [intOf]; omega
    · obtain rfl : q = n := by omega
      go_wp2_with fail
      go_ret
      refine ⟨by rw [← HG.out]; rfl, ?_, hbr.mono hw0⟩
      rw [← HG.out]
      exact hr.congr fun k hk => by rw [if_pos hk]
end Go.Proofs.YtaboafkpmgadmaaDoor

namespace Go.Proofs.YtaboafkpmgadmaaDoor
open Go.RowKit
set_option maxRecDepth 100000

/-- one more edge -/
def sbS (f : Nat → Nat) (g : Nat → Option Nat) (e : Nat × Nat) : Nat → Option Nat := fun k => if k = e.2 ∧ f e.1 + 1 = f e.2 then some (match g e.2 with | none => e.1 | some a => min a e.1) else g k
def sbF (f : Nat → Nat) (E : List (Nat × Nat)) : Nat → Option Nat := E.foldl (sbS f) (fun _ => none)
theorem sbF_snoc (f : Nat → Nat) (E : List (Nat × Nat)) (e : Nat × Nat) : sbF f (E ++ [e]) = sbS f (sbF f E) e := by unfold sbF; rw [List.foldl_append]; rfl
theorem sbF_spec (f : Nat → Nat) (b : Nat) : ∀ (n : Nat) (E : List (Nat × Nat)), E.length = n → (sbF f E b = none → ∀ a, (a, b) ∈ E → f a + 1 ≠ f b) ∧ ∀ a, sbF f E b = some a → (a, b) ∈ E ∧ f a + 1 = f b ∧ ∀ a', (a', b) ∈ E → f a' + 1 = f b → a ≤ a' := by
  intro n
  induction n with
  | zero =>
    intro E hE
    obtain rfl := List.length_eq_zero_iff.1 hE
    exact ⟨fun _ a h => by simp at h, fun a h => by simp [sbF] at h⟩
  | succ n ih =>
    intro E hE
    obtain ⟨E', e, rfl⟩ : ∃ E' e, E = E' ++ [e] := ⟨E.dropLast, E.getLast (by intro h; subst h; simp at hE), (List.dropLast_concat_getLast _).symm⟩
    obtain ⟨h1, h2⟩ := ih E' (by simp at hE; omega)
    obtain ⟨x, y⟩ := e
    rw [sbF_snoc]
    unfold sbS
    dsimp only
    by_cases hc : b = y ∧ f x + 1 = f y
    · rw [if_pos hc]
      obtain ⟨rfl, hf⟩ := hc
      refine ⟨fun h => (by cases h), fun a ha => ?_⟩
      injection ha with ha
      cases hg : sbF f E' b with
      | none =>
        rw [hg] at ha
        dsimp only at ha
        subst ha
        refine ⟨by simp, hf, fun a' hm hf' => ?_⟩
        rcases List.mem_append.1 hm with hm | hm
        · exact absurd hf' (h1 hg a' hm)
        · simp at hm; omega
      | some a0 =>
        rw [hg] at ha
        dsimp only at ha
        obtain ⟨q1, q2, q3⟩ := h2 a0 hg
        refine ⟨?_, ?_, fun a' hm hf' => ?_⟩
        · rcases Nat.le_total a0 x with h | h
          · rw [Nat.min_eq_left h] at ha; subst ha; exact List.mem_append_left _ q1
          · rw [Nat.min_eq_right h] at ha; subst ha; simp
        · rcases Nat.le_total a0 x with h | h
          · rw [Nat.min_eq_left h] at ha; subst ha; exact q2
          · rw [Nat.min_eq_right h] at ha; subst ha; exact hf
        · rcases List.mem_append.1 hm with hm | hm
          · have := q3 a' hm hf'; omega
          · simp at hm; omega
    · rw [if_neg hc]
      refine ⟨fun h a hm hf => ?_, fun a ha => ?_⟩
      · rcases List.mem_append.1 hm with hm | hm
        · exact h1 h a hm hf
        · simp at hm
          obtain ⟨rfl, rfl⟩ := hm
          exact hc ⟨rfl, hf⟩
      · obtain ⟨q1, q2, q3⟩ := h2 a ha
        refine ⟨List.mem_append_left _ q1, q2, fun a' hm hf => ?_⟩
        rcases List.mem_append.1 hm with hm | hm
        · exact q3 a' hm hf
        · simp at hm
          obtain ⟨rfl, rfl⟩ := hm
          exact absurd ⟨rfl, hf⟩ hc
theorem sbF_prv {R : Nat → Nat → Bool} {f : Nat → Nat} {N : Nat} {E : List (Nat × Nat)} (hR : ∀ i j, R i j = true → i < N ∧ j < N) (hE : ∀ a b, R a b = true ↔ (a, b) ∈ E) : sbF f E = prv R f N := by
  funext b
  obtain ⟨h1, h2⟩ := sbF_spec f b E.length E rfl
  cases hp : prv R f N b with
  | some a =>
    obtain ⟨q1, q2, q3⟩ := find_range hp
    unfold fit at q2
    simp only [Bool.and_eq_true, decide_eq_true_eq] at q2
    cases hs : sbF f E b with
    | none => exact absurd q2.1 (h1 hs a ((hE _ _).1 q2.2))
    | some a' =>
      obtain ⟨r1, r2, r3⟩ := h2 a' hs
      have := r3 a ((hE _ _).1 q2.2) q2.1
      rcases Nat.lt_or_ge a' a with h | h
      · have := q3 a' h
        unfold fit at this
        rw [(hE _ _).2 r1] at this
        simp [r2] at this
      · rw [show a' = a by omega]
  | none =>
    have hno := find_range_none hp
    cases hs : sbF f E b with
    | none => rfl
    | some a' =>
      obtain ⟨r1, r2, r3⟩ := h2 a' hs
      have := hno a' (hR _ _ ((hE _ _).2 r1)).1
      unfold fit at this
      rw [(hE _ _).2 r1] at this
      simp [r2] at this
def oI : Option Nat → Int
  | none => -1
  | some a => (a : Int)

theorem sbS_no {f : Nat → Nat} {q : Nat → Option Nat} {x y : Nat} (h : f x + 1 ≠ f y) : sbS f q (x, y) = q := by
  funext k
  unfold sbS
  exact if_neg fun h' => h h'.2
theorem sbS_set {f : Nat → Nat} {q : Nat → Option Nat} {x y : Nat} (h : f x + 1 = f y) (hq : ∀ a, q y = some a → x < a) : (fun i => if i = y then Value.int .i64 (x : Int) else Value.int .i64 (oI (q i))) = fun i => Value.int .i64 (oI (sbS f q (x, y) i)) := by
  funext i
  unfold sbS
  dsimp only
  by_cases e : i = y
  · subst e
    rw [if_pos rfl, if_pos ⟨rfl, h⟩]
    cases hs : q i with
    | none => rfl
    | some a =>
      have := hq a hs
      show _ = Value.int .i64 ((min a x : Nat) : Int)
      rw [Nat.min_eq_right (by omega)]
  · rw [if_neg e, if_neg fun h' => e h'.1]
theorem sbS_more {f : Nat → Nat} {q : Nat → Option Nat} {x y a : Nat} (hs : q y = some a) (hx : ¬ x < a) : sbS f q (x, y) = q := by
  funext k
  unfold sbS
  dsimp only
  split
  · rename_i h
    rw [h.1, hs]
    show some (min a x) = some a
    rw [Nat.min_eq_left (by omega)]
  · rfl
theorem oI_eq {o : Option Nat} {v : Int} (h : oI o = v) : (v = -1 ∧ o = none) ∨ ∃ a : Nat, v = (a : Int) ∧ o = some a := by
  cases o with
  | none => exact .inl ⟨h.symm, rfl⟩
  | some a => exact .inr ⟨a, h.symm, rfl⟩

set_option maxHeartbeats 4000000 in
theorem smallestBefore_any (A : Option Addr) (c m : Nat) (es : List (Int × Int)) (A2 : Option Addr) (c2 : Nat) (f : Nat → Nat) (w : World) (he : RdE w w.heap.size A es) (hin : inR m es = true) (hf : ∀ b, b < m → f b < m) (hx : RdI w w.heap.size A2 ((List.range m).map fun k => ((f k : Nat) : Int))) :
    Calls Tryd.prog 68 #[.agg #[.int .i64 (m : Int), .slice A es.length c], .slice A2 m c2] w fun e w' => ∃ g, e = .returned (.slice (some ⟨g, 0, none⟩) m m) ∧ w'.rowIs g 3 m (fun b => .int .i64 (oI (prv (gR es) f m b))) ∧ w.heap.size ≤ g ∧ Below w.heap.size w w' := by
  have hm := okN_of hin
  have hroom := he.room
  have hprv := sbF_prv (f := f) (gR_lt hin) (nE_iff hin)
  go_enter Tryd.func68, Tryd.ntmps68
  go_wp2_with fail
  have g1 := GB.new w 24 m (.slice A es.length c)
  have hb0 := below_alloc w (.cells #[.int .i64 (m : Int), .slice A es.length c] 24)
  obtain ⟨w0, hw0⟩ : ∃ w0, w0 = w.alloc (.cells #[.int .i64 (m : Int), .slice A es.length c] 24) := ⟨_, rfl⟩
  have hs0 : w0.heap.size = w.heap.size + 1 := by rw [hw0]; simp
  rw [← hw0] at g1 hb0 ⊢
  rw [← hs0]
  have hb1 := below_alloc w0 (.cells #[.int .i64 (-1)] 3)
  have hlit : (w0.alloc (.cells #[.int .i64 (-1)] 3)).cell? ⟨w0.heap.size, 0, none⟩ = some (.int .i64 (-1)) := by
    have h := World.alloc_heap_new w0 (.cells #[.int .i64 (-1)] 3)
    unfold World.cell?
    dsimp only
    rw [h]
    rfl
  obtain ⟨w1, hw1⟩ : ∃ w1, w1 = w0.alloc (.cells #[.int .i64 (-1)] 3) := ⟨_, rfl⟩
  have hs1 : w0.heap.size < w1.heap.size := by rw [hw1]; simp
  rw [← hw1] at hb1 hlit ⊢
  have hB : Below w.heap.size w w1 := hb0.trans (hb1.mono (by omega))
  replace he := (he.step hb0).step hb1
  replace hx := (hx.step hb0).step hb1
  replace g1 := g1.step hb1
  clear hw0 hw1 hb0 hb1
  refine (repeat_any w0.heap.size 0 1 m (by omega) (-1) w1 hs1 hlit).mono ?_
  rintro e w2 ⟨rfl, R, hbr⟩
  have g2 := g1.step hbr
  have gl := g1.lt
  have e2 := g2.e
  obtain ⟨g, hg⟩ : ∃ g, g = w1.heap.size := ⟨_, rfl⟩
  rw [← hg] at R hbr he hx gl ⊢
  have hwg : w.heap.size ≤ g := by omega
  have HIN := Lib.hid hin
  have HP := Lib.hid hprv
  clear g1 g2 hg hs0 hs1 hlit hin hprv
  go_wp2_with fail
  go_loopw [15] (fun i wr => ∃ k : Nat, k ≤ es.length ∧ i = .int .i64 k ∧ wr.rowIs g 3 m (fun b => .int .i64 (oI (sbF f ((nE es).take k) b))) ∧ Below g w1 wr) (fun i _ => es.length - (intOf i).toNat)
  case atStart => exact ⟨0, Nat.zero_le _, rfl, R, hbr⟩
  case round =>
    obtain ⟨j, hj, rfl, hr, hbr⟩ := hrel
    clear R
    by_cases hjl : j < es.length
    · obtain ⟨b6, off6, rfl, hb6, hc6⟩ := he.rd (by omega)
      have hcx := (hbr.cell (p := ⟨b6, off6 + j * 2, none⟩) hb6).trans (hc6 j hjl).1
      have hcy := (hbr.cell (p := ⟨b6, off6 + j * 2 + 1, none⟩) hb6).trans (hc6 j hjl).2
      obtain ⟨x, y, hex, hey, hxm, hym, hex2, hey2⟩ : ∃ x y : Nat, (ed es j).1 = (x : Int) ∧ (ed es j).2 = (y : Int) ∧ x < m ∧ y < m ∧ (ed es j).1.toNat = x ∧ (ed es j).2.toNat = y := by
        have := edge_in (a := (ed es j).1) (b := (ed es j).2) HIN.out (ed_mem es j hjl)
        exact ⟨(ed es j).1.toNat, (ed es j).2.toNat, by omega, by omega, by omega, by omega, rfl, rfl⟩
      rw [hex] at hcx
      rw [hey] at hcy
      have hto := take_nE es j hjl
      rw [hex2, hey2] at hto
      have HN : Hid (sbF f ((nE es).take (j + 1)) = sbS f (sbF f ((nE es).take j)) (x, y)) := Lib.hid (by rw [hto, sbF_snoc])
      obtain ⟨q, hq⟩ : ∃ q, q = sbF f ((nE es).take j) := ⟨_, rfl⟩
      rw [← hq] at hr HN
      obtain ⟨b2, off2, rfl, hb2, hc2⟩ := hx.rd (by simp; omega)
      have l1 := hc2 x (by simpa using hxm)
      have l2 := hc2 y (by simpa using hym)
      dsimp only at l1 l2
      rw [show zd ((List.range m).map fun k => ((f k : Nat) : Int)) x = ((f x : Nat) : Int) by unfold zd; simp [List.getD, hxm]] at l1
      rw [show zd ((List.range m).map fun k => ((f k : Nat) : Int)) y = ((f y : Nat) : Int) by unfold zd; simp [List.getD, hym]] at l2
      have hfx := hf x hxm
      have hfy := hf y hym
      clear hc6 hc2 hex hey hex2 hey2 hto hq
      go_wp2_with fail
      have hX := EBox.new wr x y 38
      have hgr := hr.lt
      replace hr := hr.alloc (.cells #[.int .i64 (x : Int), .int .i64 (y : Int)] 38)
      replace hbr := hbr.alloc (by omega) (.cells #[.int .i64 (x : Int), .int .i64 (y : Int)] 38)
      obtain ⟨w5, hw5⟩ : ∃ w5, w5 = wr.alloc (.cells #[.int .i64 (x : Int), .int .i64 (y : Int)] 38) := ⟨_, rfl⟩
      rw [← hw5] at hX hr hbr ⊢
      have bx := hX.x
      have bY := hX.y
      obtain ⟨B5, hB5⟩ : ∃ B5, B5 = wr.heap.size := ⟨_, rfl⟩
      rw [← hB5] at bx bY ⊢
      replace l1 := (hbr.cell (p := ⟨b2, off2 + x, none⟩) hb2).trans l1
      replace l2 := (hbr.cell (p := ⟨b2, off2 + y, none⟩) hb2).trans l2
      have cy := hr.cell hym
      have fy := hr.frozen y
      have HSET := Lib.hid (hr.set y (.int .i64 (x : Int)))
      have HB2 := Lib.hid (hbr.setCell (p := ⟨g, y, none⟩) (Nat.le_refl _) (.int .i64 (x : Int)))
      have HR := Lib.hid hr
      have hx0 : (0 : Int) ≤ (x : Int) := Int.natCast_nonneg _
      have hy0 : (0 : Int) ≤ (y : Int) := Int.natCast_nonneg _
      obtain ⟨v, hv⟩ : ∃ v, v = oI (q y) := ⟨_, rfl⟩
      have hov := oI_eq hv.symm
      rw [← hv] at cy
      by_cases hfit : f x + 1 = f y
      · obtain ⟨fy', hfy'⟩ : ∃ fy', fy' = f y := ⟨_, rfl⟩
        obtain ⟨fx', hfx'⟩ : ∃ fx', fx' = f x := ⟨_, rfl⟩
        have hff : fx' + 1 = fy' := by rw [hfy', hfx']; exact hfit
        have HFIT := Lib.hid hfit
        rw [← hfx'] at l1 hfx
        rw [← hfy'] at l2 hfy
        have b1 : ((fx' : Int) == (fy' : Int) - 1) = true := by simp; omega
        have HFF := Lib.hid hff
        clear hfit hfy' hfx' hr hX hw5 hgr hB5 hcx hcy hv hff
        rcases hov with ⟨rfl, ho⟩ | ⟨a, rfl, ho⟩
        · have HO := Lib.hid ho
          clear ho
          go_quiet (fail)
          go_wp2
          go_roundw
          case rel =>
            refine ⟨j + 1, by omega, by go_num, ?_, (below_drewN hbr _).setCell (p := ⟨g, y, none⟩) (Nat.le_refl _) _⟩
            rw [HN.out, ← sbS_set HFIT.out (fun a ha => by rw [HO.out] at ha; cases ha)]
            exact HSET.out
          case measure => simp [intOf]; omega
        · have HO := Lib.hid ho
          have b2 : ((a : Int) == -1) = false := beq_eq_false_iff_ne.2 (by omega)
          clear ho
          by_cases hxa : x < a
          · have b3 : decide ((x : Int) < (a : Int)) = true := by simp; omega
            go_quiet (fail)
            go_wp2
            go_roundw
            case rel =>
              refine ⟨j + 1, by omega, by go_num, ?_, (below_drewN hbr _).setCell (p := ⟨g, y, none⟩) (Nat.le_refl _) _⟩
              rw [HN.out, ← sbS_set HFIT.out (fun a' ha => by rw [HO.out] at ha; injection ha with ha; omega)]
              exact HSET.out
            case measure => simp [intOf]; omega
          · have b3 : decide ((x : Int) < (a : Int)) = false := by simp; omega
            go_quiet (fail)
            go_wp2
            go_roundw
            case rel =>
              refine ⟨j + 1, by omega, by go_num, ?_, below_drewN hbr _⟩
              rw [HN.out, sbS_more HO.out hxa]
              exact HR.out
            case measure => simp [intOf]; omega
      · obtain ⟨fy', hfy'⟩ : ∃ fy', fy' = f y := ⟨_, rfl⟩
        obtain ⟨fx', hfx'⟩ : ∃ fx', fx' = f x := ⟨_, rfl⟩
        have b1 : ((fx' : Int) == (fy' : Int) - 1) = false := by simp; omega
        have HFIT := Lib.hid hfit
        rw [← hfx'] at l1 hfx
        rw [← hfy'] at l2 hfy
        clear hfit hfy' hfx' hr hX hw5 hgr hB5 hcx hcy hv hov
        go_quiet (fail)
        go_wp2
        go_roundw
        case rel =>
          refine ⟨j + 1, by omega, by go_num, ?_, below_drewN hbr _⟩
          rw [HN.out, sbS_no HFIT.out]
          exact HR.out
        case measure => simp [intOf]; omega
    · obtain rfl : j = es.length := by omega
      rw [List.take_of_length_le (by rw [nE_len]; omega), HP.out] at hr
      go_wp2_with fail
      go_ret
      exact ⟨g, rfl, hr, hwg, hB.trans (hbr.mono hwg)⟩
end Go.Proofs.YtaboafkpmgadmaaDoor
