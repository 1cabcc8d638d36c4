/-
  Contract of sp.Leaves.
  Contract of sp.Leaves: the accesses of a term's leaves.
  Contracts of the two inverse functions: the number that gives 1 modulo 2^64.
  Contracts of sp.merges and of the reference's dchoose.
-/
import Derived.Test.YtipihchlhkjdjaaDoorPk21
import Derived.Deep.AppendLies
import Derived.Deep.RegionLaw
import Derived.Test.YtipihchlhkjdjaaDoorPk20
import Derived.Test.YtipihchlhkjdjaaDoorPk03
namespace Go.Proofs.YtipihchlhkjdjaaDoor
open Go.RowKit
set_option maxRecDepth 100000

/-- the cells of a list of accesses -/
def accs (xs : List Acc) : List Value := xs.flatMap fun a => [.int .i64 a.1, .bool a.2.1, .int .i64 a.2.2]
theorem accs_snoc (xs : List Acc) (a : Acc) : accs (xs ++ [a]) = accs xs ++ [.int .i64 a.1, .bool a.2.1, .int .i64 a.2.2] := by simp [accs]

theorem patient_series (x m t : Int) (w : World) :
    Calls Tryd.prog 103 #[.agg #[], .int .i64 x, .int .i64 m, .int .i64 t] w fun e w' => e = .returned (.tuple #[]) ∧ w' = w.alloc (.cells #[] 82) := by
  go_enter Tryd.func103, Tryd.ntmps103
  go_wp2_with fail
  go_end0
  exact ⟨rfl, rfl⟩
theorem patient_parallel (x m t : Int) (w : World) :
    Calls Tryd.prog 102 #[.agg #[], .int .i64 x, .int .i64 m, .int .i64 t] w fun e w' => e = .returned (.tuple #[]) ∧ w' = w.alloc (.cells #[] 82) := by
  go_enter Tryd.func102, Tryd.ntmps102
  go_wp2_with fail
  go_end0
  exact ⟨rfl, rfl⟩

theorem Tryd.infoAcc : (Tryd.prog.info? 48).map (fun i => (i.zero, i.size, i.bytes)) = some (some (.agg #[.int .i64 0, .bool false, .int .i64 0]), 3, 24) := by kernel_rfl

/-- one is appended to the row that lies in the box -/
theorem coll_step {C size k m : Nat} {T E : TypeId} {xs ys : List Value} {W w1 : World} {v v' : Value} {tmp : Obj} (hv : Boxed W C T v) (hTE : T ≠ E) (hrow : W.ownsRow (C + 1) E size v k xs)
    (hown' : w1.ownsRow (C + 1) E size v' m ys) (hgrow : (W.alloc tmp).drew.grownBy w1 v.ownBlock) :
    Boxed (w1.setCell ⟨C, 0, none⟩ v') C T v' ∧ (w1.setCell ⟨C, 0, none⟩ v').ownsRow (C + 1) E size v' m ys ∧ Below C W (w1.setCell ⟨C, 0, none⟩ v') := by
  have hv0 : Boxed (W.alloc tmp).drew C T v := hv.alloc tmp
  have hv1 : Boxed w1 C T v := hv0.kept hgrow (hv.not_row hTE hrow)
  refine ⟨hv1.set v', hown'.kept (grownBy_setCell' w1 C v') (.inr (hv1.not_row hTE hown').symm), ?_⟩
  have hlt := hv.lt
  exact ((((Below.refl C W).alloc (by omega) tmp).drew).grown hgrow (by simp; omega) fun j ej => by have := (hrow.lt j ej).1; omega).setCell (p := ⟨C, 0, none⟩) (Nat.le_refl _) v'

end Go.Proofs.YtipihchlhkjdjaaDoor

namespace Go.Proofs.YtipihchlhkjdjaaDoor
open Go.RowKit
set_option maxRecDepth 100000

/-- block C is a reader's box -/
def BoxT (C : Nat) (T : TypeId) (w : World) : Prop := ∃ cs, w.heap[C]? = some (.cells cs T (0, 0))

theorem Meth.direct {C : Nat} {T tp : TypeId} {nm : String} {F : FuncId} (h1 : ∀ k w, (nilAhead (k + 8) tp (.pointer (some ⟨C, 0, none⟩)) nm).run Tryd.prog w = .ok (some false) w)
    (h2 : ∀ k w, (method (k + 8) tp (.pointer (some ⟨C, 0, none⟩)) nm).run Tryd.prog w = .ok (F, .pointer (some ⟨C, 0, none⟩)) w) (h3 : ∀ args w, (callFunc F args).run Tryd.prog w = .ok (.enter F args) w) :
    Meth Tryd.prog (BoxT C T) tp (.pointer (some ⟨C, 0, none⟩)) nm F (.pointer (some ⟨C, 0, none⟩)) := ⟨h1, fun k w _ => h2 k w, h3⟩

theorem Meth.emb {C : Nat} {T tp : TypeId} {F : FuncId} {nm : String} {sg : TypeId} {fs : Array Field} {f : Field} (hc : Tryd.prog.cellsOf T ≠ 0)
    (hb : byteOfCell Tryd.prog Tryd.prog.depth T 0 = some 0)
    (hi : (Tryd.prog.info? tp).map (fun i => i.methods.find? (fun x => x.name == nm)) = some (some ⟨nm, sg, #[⟨T, 0, true⟩], some (F, false)⟩))
    (hu : Tryd.prog.underlying T = some (.struct fs)) (hf : fs[0]? = some f) (h1 : f.type = 82) (h2 : f.offset = 0) (h3 : f.byteOffset = 0)
    (hna : ∀ k w, (nilAhead (k + 8) tp (.pointer (some ⟨C, 0, none⟩)) nm).run Tryd.prog w = .ok (some false) w) (hen : ∀ args w, (callFunc F args).run Tryd.prog w = .ok (.enter F args) w) :
    Meth Tryd.prog (BoxT C T) tp (.pointer (some ⟨C, 0, none⟩)) nm F (.agg #[]) :=
  ⟨hna, fun k _ ⟨_, h⟩ => meth_emb h hc hb hi hu hf h1 h2 h3 k, hen⟩

theorem told_coll (T : Tm) : ∀ (s : List Acc) (n : Nat), T.told (fun (s : List Acc) _ a => (s ++ [a], true)) (fun s _ _ _ => s) (fun s _ _ _ => s) s n = (s ++ T.lv, n + T.sz, true) := by
  induction T with
  | nil => intro s n; simp [Tm.told, Tm.lv, Tm.sz]
  | one a => intro s n; simp [Tm.told, Tm.lv, Tm.sz]
  | seq l r il ir => intro s n; simp only [Tm.told, il, both2, ir, Tm.lv, Tm.sz, List.append_assoc, Nat.add_assoc]
  | par l r il ir => intro s n; simp only [Tm.told, il, both2, ir, Tm.lv, Tm.sz, List.append_assoc, Nat.add_assoc]

end Go.Proofs.YtipihchlhkjdjaaDoor

namespace Go.Proofs.YtipihchlhkjdjaaDoor
open Go.RowKit
set_option maxRecDepth 100000

theorem u64_wrap (x : Int) : IntKind.u64.wrap x = x % 18446744073709551616 := by simp [IntKind.wrap, IntKind.signed, IntKind.bits]

end Go.Proofs.YtipihchlhkjdjaaDoor

namespace Go.Proofs.YtipihchlhkjdjaaDoor
open Go.RowKit
set_option maxRecDepth 100000

theorem tz_call (y : Nat) (w : World) (h0 : 0 < y) (hy : y < 2097152) (hT : Tab w) :
    Calls Tryd.prog 77 #[.int .u64 (y : Int)] w fun e w' => e = .returned (.int .i64 (tz y : Int)) ∧ w = w' := tz_any y w (by omega) (by omega) hT

theorem u64_step (P n t : Nat) (h0 : n + t < 2097152) (h : P = prA n t) : Value.int .u64 (IntKind.u64.wrap (((P % 18446744073709551616 : Nat) : Int) * (((n + (t + 1) : Nat) : Int) / 2 ^ min (tz (n + (t + 1))) 64))) = Value.int .u64 ((prA n (t + 1) % 18446744073709551616 : Nat) : Int) := by
  have ht := tz_spec (n + (t + 1)) (by omega) (by omega)
  rw [Nat.min_eq_left (by omega), u64_wrap, prA, ← h]
  have e : (((n + (t + 1) : Nat) : Int) / 2 ^ tz (n + (t + 1))) = ((od (n + (t + 1)) : Nat) : Int) := by
    unfold od
    simp
  rw [e, ← Int.natCast_mul, show (18446744073709551616 : Int) = ((18446744073709551616 : Nat) : Int) from rfl, ← Int.natCast_emod, Nat.mod_mul_mod]
  rfl

theorem suA_bound (n t : Nat) : suA n t ≤ 64 * t ∨ 2097152 ≤ n + t := by
  induction t with
  | zero => simp [suA]
  | succ t ih =>
    by_cases h : 2097152 ≤ n + (t + 1)
    · exact .inr h
    · have h2 := tz_spec (n + t + 1) (by omega) (by omega)
      simp only [suA]
      omega
theorem tw_step (n t : Nat) (h : n + t + 1 < 2097152) : Value.int .i64 (wrap64 (((suA n t - suA 0 t : Nat) : Int) + wrap64 ((tz (n + (t + 1)) : Int) - (tz (t + 1) : Int)))) = Value.int .i64 ((suA n (t + 1) - suA 0 (t + 1) : Nat) : Int) := by
  have h1 := tz_spec (n + (t + 1)) (by omega) (by omega)
  have h2 := tz_spec (t + 1) (by omega) (by omega)
  have h3 := suA_le n t (by omega)
  have h4 := suA_le n (t + 1) (by omega)
  have h5 := suA_bound n t
  simp only [suA] at h4 ⊢
  rw [Nat.zero_add] at h4 ⊢
  rw [show n + t + 1 = n + (t + 1) by omega] at *
  unfold wrap64
  congr 1
  omega

theorem pow_min (x e : Nat) : x * 2 ^ min e 64 % 18446744073709551616 = x * 2 ^ e % 18446744073709551616 := by
  rcases Nat.le_total e 64 with h | h
  · rw [Nat.min_eq_left h]
  · rw [Nat.min_eq_right h]
    obtain ⟨d, rfl⟩ : ∃ d, e = 64 + d := ⟨e - 64, by omega⟩
    rw [Nat.pow_add, ← Nat.mul_assoc]
    have : (2 : Nat) ^ 64 = 18446744073709551616 := by decide
    rw [this, Nat.mul_mod_left, Nat.mul_right_comm, Nat.mul_mod_left]
theorem merge_fin {A B C e : Nat} {v : Int} (h : A * 2 ^ e = B * C) (hv : (((B % 18446744073709551616 : Nat) : Int) * v) % 18446744073709551616 = 1) (hv0 : 0 ≤ v) :
    Ending.returned (.int .u64 (IntKind.u64.wrap (IntKind.u64.wrap (((A % 18446744073709551616 : Nat) : Int) * v) * 2 ^ min e 64))) = .returned (.int .u64 ((C % 18446744073709551616 : Nat) : Int)) := by
  obtain ⟨u, rfl⟩ : ∃ u : Nat, v = (u : Int) := ⟨v.toNat, by omega⟩
  have hM : (18446744073709551616 : Int) = ((18446744073709551616 : Nat) : Int) := rfl
  have h2 : ∀ k : Nat, (2 : Int) ^ k = ((2 ^ k : Nat) : Int) := fun k => by simp
  rw [hM, ← Int.natCast_mul, ← Int.natCast_emod] at hv
  have hv' : B * u % 18446744073709551616 = 1 % 18446744073709551616 := by
    rw [Nat.mod_mul_mod] at hv
    omega
  rw [u64_wrap, u64_wrap, hM, h2, ← Int.natCast_mul, ← Int.natCast_emod, ← Int.natCast_mul, ← Int.natCast_emod, pow_min, Nat.mod_mul_mod A u, mod_fin h hv']

end Go.Proofs.YtipihchlhkjdjaaDoor
