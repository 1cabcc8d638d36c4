/-
  Contract of the reference's dchoose.
  Contract of sp.Before: is leaf i ahead of leaf j?
  Contract of sp.Count.
  append of one row's elements onto another row: both made by the call, either of them maybe nil or empty.
-/
import Derived.Test.YtipihchlhkjdjaaDoorPk22
import Derived.Deep.RegionHeld3
import Derived.Deep.AppendSrc
import Derived.Maps.AppendAt
namespace Go.Proofs.YtipihchlhkjdjaaDoor
open Go.RowKit
set_option maxRecDepth 100000

theorem tz_call2 (y : Nat) (w : World) (h0 : 0 < y) (hy : y < 2097152) (hT : Tab w) :
    Calls Tryd.prog 77 #[.int .u64 (y : Int)] w fun e w' => e = .returned (.int .i64 (tz y : Int)) ∧ w = w' := tz_any y w (by omega) (by omega) hT
theorem shr_od (y : Nat) (h0 : 0 < y) (hy : y < 2097152) : (y : Int) / 2 ^ min (tz y) 64 = ((od y : Nat) : Int) := by
  have h := tz_spec y h0 (by omega)
  rw [Nat.min_eq_left (by omega)]
  unfold od
  simp
theorem od_lt (y : Nat) (hy : y < 2097152) : od y < 2097152 := Nat.lt_of_le_of_lt (Nat.div_le_self _ _) hy

theorem hM64 : (18446744073709551616 : Int) = ((18446744073709551616 : Nat) : Int) := rfl

theorem dchoose_fin {A B C e u : Nat} (h : A * 2 ^ e = B * C) (hv : B * u % 18446744073709551616 = 1 % 18446744073709551616) :
    Ending.returned (.int .u64 (IntKind.u64.wrap (((A * u % 18446744073709551616 : Nat) : Int) * 2 ^ min e 64))) = .returned (.int .u64 ((C % 18446744073709551616 : Nat) : Int)) := by
  have h2 : ∀ k : Nat, (2 : Int) ^ k = ((2 ^ k : Nat) : Int) := fun k => by simp
  rw [u64_wrap, hM64, h2, ← Int.natCast_mul, ← Int.natCast_emod, pow_min, mod_fin h hv]

end Go.Proofs.YtipihchlhkjdjaaDoor

namespace Go.Proofs.YtipihchlhkjdjaaDoor
open Go.RowKit
set_option maxRecDepth 100000

theorem patient_leaf (n : Int) (a : Acc) (w : World) :
    Calls Tryd.prog 104 #[.agg #[], .int .i64 n, accV a] w fun e w' => e = .returned (.bool true) ∧ w' = (w.alloc (.cells #[] 82)).alloc (.cells #[.int .i64 a.1, .bool a.2.1, .int .i64 a.2.2] 48) := by
  obtain ⟨c, x, l⟩ := a
  dsimp only [accV]
  go_enter Tryd.func104, Tryd.ntmps104
  go_wp2_with fail
  go_ret
  exact ⟨rfl, rfl⟩

/-- what a series tells the asker -/
def askS (i j : Int) (p : Bool) (x m t : Nat) : Bool := p || (decide ((x : Int) ≤ i) && decide (i < (m : Int)) && decide ((m : Int) ≤ j) && decide (j < (t : Int)))

theorem told_ask (i j : Int) (T : Tm) : ∀ (s : Bool) (n : Nat), T.told (fun (s : Bool) _ _ => (s, true)) (askS i j) (fun s _ _ _ => s) s n = (s || T.ask n i j, n + T.sz, true) := by
  induction T with
  | nil => intro s n; simp [Tm.told, Tm.ask, Tm.sz]
  | one a => intro s n; simp [Tm.told, Tm.ask, Tm.sz]
  | seq l r il ir =>
    intro s n
    simp only [Tm.told, il, both2, ir, Tm.ask, Tm.sz, askS, Nat.add_assoc, Int.natCast_add, Bool.or_assoc, Int.add_assoc]
  | par l r il ir =>
    intro s n
    simp only [Tm.told, il, both2, ir, Tm.ask, Tm.sz, Nat.add_assoc, Int.natCast_add, Bool.or_assoc]

end Go.Proofs.YtipihchlhkjdjaaDoor

namespace Go.Proofs.YtipihchlhkjdjaaDoor
open Go.RowKit
set_option maxRecDepth 100000

/-- the number of orders of a term's leaves -/
def Tm.cnt : Tm → Nat
  | .nil => 1
  | .one _ => 1
  | .seq l r => l.cnt * r.cnt
  | .par l r => l.cnt * r.cnt * ch l.sz r.sz

def cntP (s x m t : Nat) : Nat := s * ch (m - x) (t - m) % 18446744073709551616

theorem told_cnt (T : Tm) : ∀ (s n : Nat), s < 18446744073709551616 → T.told (fun (s : Nat) _ _ => (s, true)) (fun s _ _ _ => s) cntP s n = (s * T.cnt % 18446744073709551616, n + T.sz, true) := by
  induction T with
  | nil => intro s n hs; simp [Tm.told, Tm.cnt, Tm.sz, Nat.mod_eq_of_lt hs]
  | one a => intro s n hs; simp [Tm.told, Tm.cnt, Tm.sz, Nat.mod_eq_of_lt hs]
  | seq l r il ir =>
    intro s n hs
    simp only [Tm.told, il s n hs, both2, ir _ _ (Nat.mod_lt _ (by omega)), Tm.cnt, Tm.sz]
    rw [Nat.mod_mul_mod, Nat.mul_assoc, Nat.add_assoc]
  | par l r il ir =>
    intro s n hs
    simp only [Tm.told, il s n hs, both2, ir _ _ (Nat.mod_lt _ (by omega)), Tm.cnt, Tm.sz, cntP]
    rw [Nat.mod_mul_mod, Nat.mul_assoc (s * l.cnt % 18446744073709551616), Nat.mod_mul_mod, show n + l.sz - n = l.sz by omega, show n + l.sz + r.sz - (n + l.sz) = r.sz by omega, Nat.add_assoc, Nat.mul_assoc s, Nat.mul_assoc l.cnt]

end Go.Proofs.YtipihchlhkjdjaaDoor

namespace Go.Proofs.YtipihchlhkjdjaaDoor
open Go.RowKit
set_option maxRecDepth 100000

/-- m elements lie behind the slice x -/
def Lies (w : World) (x : Value) (m : Nat) (news : List Value) : Prop :=
  (x = .slice none 0 0 ∧ m = 0 ∧ news = []) ∨ ∃ ad c, x = .slice (some ad) m c ∧ ∀ j u, news[j]? = some u → w.cell? (ad.add j) = some u

theorem lies_of_own {w : World} {base size m : Nat} {e : TypeId} {x : Value} {news : List Value} (h : w.ownsRow base e size x m news) : Lies w x m news := by
  rcases h.2 with ⟨h1, h2⟩ | ⟨g, cap, cur, h1, _⟩
  · left
    refine ⟨h1, h2, ?_⟩
    have := h.1
    rw [h2, Nat.zero_mul] at this
    exact List.eq_nil_of_length_eq_zero this
  · right
    refine ⟨⟨g, 0, none⟩, cap, h1, fun j u hu => ?_⟩
    subst h1
    have hj : j < news.length := (List.getElem?_eq_some_iff.1 hu).1
    have hadd : (⟨g, 0, none⟩ : Addr).add j = ⟨g, j, none⟩ := by unfold Addr.add; split <;> simp_all
    rw [hadd, h.cellAt j (by rw [← h.1]; exact hj)]
    exact hu

section
variable {P : Program} (w : World)

theorem run_append_rows (t ty : TypeId) (base : Nat) (e : TypeId) (i : TypeInfo) (z : Value) (size bytes : Nat) (ht : P.underlying t = some (.slice e)) (hi : P.info? e = some i) (hz : i.zero = some z)
    (hsize : i.size = size) (hby : i.bytes = bytes) (hzs : z.cells.size = size) (hsz : 0 < size)
    (v : Value) (n : Nat) (xs : List Value) (hown : w.ownsRow base e size v n xs)
    (x : Value) (m : Nat) (news : List Value) (hx : Lies w x m news) (hl : news.length = m * size) (h1 : ∀ u ∈ news, u.oneCell' = true)
    (h63 : n + m ≤ maxLen) (hbytes : (n + m) * bytes ≤ 140737488355328) (hbase : base ≤ w.heap.size) :
    ∃ v' w', (Builtin.append_ #[t, t] ty #[v, x]).run P w = .ok v' w' ∧ w'.ownsRow base e size v' (n + m) (xs ++ news) ∧ w.grownBy w' v.ownBlock ∧ (v'.ownBlock = v.ownBlock ∨ v'.ownBlock = some w.heap.size) := by
  rcases hx with ⟨rfl, rfl, rfl⟩ | ⟨ad, c, rfl, hnews⟩
  · refine ⟨v, w, ?_, by rw [List.append_nil]; exact hown, ⟨rfl, rfl, rfl, Nat.le_refl _, fun _ _ _ => rfl⟩, .inl rfl⟩
    rcases hown.2 with ⟨rfl, rfl⟩ | ⟨g, cap, cur, rfl, _, _, hc, _⟩
    · simp [Builtin.append_, go_sem, run_underlying ht, sizeOf, typeInfo, hi, Builtin.lenOf, Builtin.firstCells]
    · simp [Builtin.append_, go_sem, run_underlying ht, sizeOf, typeInfo, hi, Builtin.lenOf, Builtin.firstCells, hc, storeCells]
  · obtain ⟨v', w', hr, h2, h3, _, h5⟩ := run_append_own_at (P := P) w base t ty e i z size bytes ht hi hz hsize hby hzs hsz v n xs hown ad m c news hl hnews h1 h63 hbytes hbase
    exact ⟨v', w', hr, h2, h3, h5⟩

/-- At a step of a region that draws its order. -/
theorem step_append_rows {ops : Array Oper} {o : Oper} {a : Act} {K : Act → World → Prop} {Q : Exit → Act → World → Prop} {E : Prop} (hgd : o.guard = none) (s y : Operand) (t : TypeId)
    (ho : o.op = .call { callee := .builtin .append, args := #[s, y], argTypes := #[t, t] })
    (base : Nat) (e : TypeId) (i : TypeInfo) (z : Value) (size bytes : Nat) (ht : P.underlying t = some (.slice e)) (hi : P.info? e = some i) (hz : i.zero = some z)
    (hsize : i.size = size) (hby : i.bytes = bytes) (hzs : z.cells.size = size) (hsz : 0 < size)
    (v : Value) (n : Nat) (xs : List Value) (hs : a.eval s = v) (hown : w.ownsRow base e size v n xs)
    (x : Value) (m : Nat) (news : List Value) (hy : a.eval y = x) (hx : Lies w x m news) (hl : news.length = m * size) (h1 : ∀ u ∈ news, u.oneCell' = true)
    (h63 : n + m ≤ maxLen) (hbytes : (n + m) * bytes ≤ 140737488355328) (hbase : base ≤ w.heap.size)
    (h : ∀ v' w', w'.ownsRow base e size v' (n + m) (xs ++ news) → w.grownBy w' v.ownBlock → (∀ M W0, M ≤ base → Below M W0 w → Below M W0 w') → K (a.put o.dst v') w') :
    if Region.wanted o (yielded ops a.tmps) = true then Oper.wp P o a w K Q else E := by
  have hw : Region.wanted o (yielded ops a.tmps) = true := by simp [Region.wanted, hgd]
  rw [if_pos hw]
  obtain ⟨v', w', hr, h2, h3, h5⟩ := run_append_rows (P := P) w t o.type base e i z size bytes ht hi hz hsize hby hzs hsz v n xs hown x m news hx hl h1 h63 hbytes hbase
  unfold Oper.wp execOp
  simp only [ho, resolve, invoke, builtin, Sem.run_bind, Sem.run_pure, Result.andThen_ok, List.map_toArray, List.map_cons, List.map_nil, hs, hy, hr]
  exact h v' w' h2 h3 fun M W0 hM hb => hb.grown h3 (by omega) fun j ej => by have := (hown.lt j ej).1; omega
end

/-- a row of before lies where it lay -/
theorem own_step {w w' : World} {base size m M : Nat} {e : TypeId} {x : Value} {news : List Value} (h : w.ownsRow base e size x m news) (hb : Below M w w') (hM : w.heap.size ≤ M) : w'.ownsRow base e size x m news := by
  refine ⟨h.1, ?_⟩
  rcases h.2 with h0 | ⟨g, cap, cur, h1, h2, h3, h4⟩
  · exact .inl h0
  · refine .inr ⟨g, cap, cur, h1, h2, ?_, h4⟩
    have hlt : g < w.heap.size := (Array.getElem?_eq_some_iff.1 h3).1
    rw [hb.block g (by omega)]
    exact h3
theorem own_more {w : World} {base base' size m : Nat} {e : TypeId} {x : Value} {news : List Value} (h : w.ownsRow base e size x m news) (hb : base' ≤ base) : w.ownsRow base' e size x m news := by
  refine ⟨h.1, ?_⟩
  rcases h.2 with h0 | ⟨g, cap, cur, h1, h2, h3, h4⟩
  · exact .inl h0
  · exact .inr ⟨g, cap, cur, h1, by omega, h3, h4⟩
theorem own_empty (w : World) (base : Nat) (e : TypeId) (size : Nat) (hb : base ≤ w.heap.size) : (w.alloc (.cells #[] e)).ownsRow base e size (.slice (some ⟨w.heap.size, 0, none⟩) 0 0) 0 [] :=
  World.ownsRow_made w #[] 0 hb (by unfold maxLen; omega) (by simp)
end Go.Proofs.YtipihchlhkjdjaaDoor
