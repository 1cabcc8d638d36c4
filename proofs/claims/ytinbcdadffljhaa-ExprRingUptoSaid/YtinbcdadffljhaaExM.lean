/-
  Expressions: what they are worth, their names, another one in a name's place, what is reckoned ahead. Plain mathematics.
-/
import Derived.Test.YtinbcdadffljhaaBsMem
namespace Go.Proofs.Ytinbcdadffljhaa

/-- an expression: a number, a name, an operation (kinds 3 to 9) on two, or nothing -/
inductive Xp
  | num (n : Int)
  | nam (s : ByteArray)
  | op (k : Int) (a b : Xp)
  | nul
def wr (x : Int) : Int := IntKind.i64.wrap x
/-- what an operation makes of two numbers -/
def ar (k x y : Int) : Int :=
  if k = 3 then wr (x + y) else if k = 4 then wr (x - y) else if k = 5 then wr (x * y)
  else if k = 6 then (if y = 0 then 0 else wr (x.tdiv y)) else if k = 7 then (if y = 0 then 0 else x.tmod y)
  else if (k = 8 ∧ x < y) ∨ (k = 9 ∧ x = y) then 1 else 0
/-- what a name is: the last that binds it -/
def bnd (env : List (ByteArray × Int)) (s : ByteArray) : Int := env.foldl (fun v b => if b.1 = s then b.2 else v) 0
def Xp.ev (env : List (ByteArray × Int)) : Xp → Int
  | .num n => n
  | .nam s => bnd env s
  | .op k a b => ar k (a.ev env) (b.ev env)
  | .nul => 0
instance decInB (s : ByteArray) (l : List ByteArray) : Decidable (s ∈ l) := decidable_of_iff (l.any (fun t => decide (t = s)) = true) (by simp)
def addN (l : List ByteArray) (s : ByteArray) : List ByteArray := if s ∈ l then l else l ++ [s]
def mrgN (a b : List ByteArray) : List ByteArray := b.foldl addN a
def Xp.names : Xp → List ByteArray
  | .num _ => []
  | .nam s => [s]
  | .op _ a b => mrgN a.names b.names
  | .nul => []
/-- with what means something alone -/
def Xp.cln : Xp → Xp
  | .num n => .num n
  | .nam s => .nam s
  | .op k a b => .op k a.cln b.cln
  | .nul => .num 0
def Xp.put (n : ByteArray) (y : Xp) : Xp → Xp
  | .num n => .num n
  | .nam s => if s = n then y.cln else .nam s
  | .op k a b => .op k (Xp.put n y a) (Xp.put n y b)
  | .nul => .num 0
def Xp.fold : Xp → Xp
  | .num n => .num n
  | .nam s => .nam s
  | .op k a b => if (Xp.op k a b).names = [] then .num ((Xp.op k a b).ev []) else .op k a.fold b.fold
  | .nul => .num 0
def Xp.isNum : Xp → Bool
  | .num _ => true
  | _ => false

theorem bnd_snoc (env : List (ByteArray × Int)) (n : ByteArray) (v : Int) (s : ByteArray) : bnd (env ++ [(n, v)]) s = if n = s then v else bnd env s := by
  unfold bnd
  rw [List.foldl_append]
  rfl
theorem mem_addN {l : List ByteArray} {s t : ByteArray} : t ∈ addN l s ↔ t ∈ l ∨ t = s := by
  unfold addN
  split
  · rename_i h
    constructor
    · exact fun h1 => .inl h1
    · rintro (h1 | rfl)
      · exact h1
      · exact h
  · rw [List.mem_append, List.mem_singleton]
theorem mem_mrgN {t : ByteArray} : ∀ (b a : List ByteArray), t ∈ mrgN a b ↔ t ∈ a ∨ t ∈ b
  | [], a => by simp [mrgN]
  | s :: b, a => by
    show t ∈ mrgN (addN a s) b ↔ _
    rw [mem_mrgN b, mem_addN, List.mem_cons, or_assoc]
theorem mrgN_nil {a b : List ByteArray} : mrgN a b = [] ↔ a = [] ∧ b = [] := by
  simp only [List.eq_nil_iff_forall_not_mem, mem_mrgN, not_or]
  exact ⟨fun h => ⟨fun t => (h t).1, fun t => (h t).2⟩, fun h t => ⟨h.1 t, h.2 t⟩⟩
theorem addN_nodup {l : List ByteArray} (h : l.Nodup) (s : ByteArray) : (addN l s).Nodup := by
  unfold addN
  split
  · exact h
  · rename_i hs
    rw [List.nodup_append]
    exact ⟨h, by simp, fun a ha b hb => by simp at hb; subst hb; exact fun e => hs (e ▸ ha)⟩
theorem mrgN_nodup : ∀ (b : List ByteArray) {a : List ByteArray}, a.Nodup → (mrgN a b).Nodup
  | [], _, h => h
  | s :: b, _, h => mrgN_nodup b (addN_nodup h s)
theorem Xp.names_nodup : ∀ e : Xp, e.names.Nodup
  | .num _ => List.nodup_nil
  | .nam s => by simp [Xp.names]
  | .op _ a b => mrgN_nodup _ a.names_nodup
  | .nul => List.nodup_nil

theorem Xp.ev_congr {env env' : List (ByteArray × Int)} : ∀ e : Xp, (∀ s, s ∈ e.names → bnd env s = bnd env' s) → e.ev env = e.ev env'
  | .num _, _ => rfl
  | .nam s, h => h s (by simp [Xp.names])
  | .op k a b, h => by
    show ar k _ _ = ar k _ _
    rw [a.ev_congr fun s hs => h s ((mem_mrgN _ _).2 (.inl hs)), b.ev_congr fun s hs => h s ((mem_mrgN _ _).2 (.inr hs))]
  | .nul, _ => rfl
theorem Xp.ev_cln (env : List (ByteArray × Int)) : ∀ e : Xp, e.cln.ev env = e.ev env
  | .num _ => rfl
  | .nam _ => rfl
  | .op k a b => by
    show ar k _ _ = ar k _ _
    rw [a.ev_cln env, b.ev_cln env]
  | .nul => rfl
theorem Xp.names_cln : ∀ e : Xp, e.cln.names = e.names
  | .num _ => rfl
  | .nam _ => rfl
  | .op k a b => by
    show mrgN _ _ = mrgN _ _
    rw [a.names_cln, b.names_cln]
  | .nul => rfl
theorem Xp.cln_cln : ∀ e : Xp, e.cln.cln = e.cln
  | .num _ => rfl
  | .nam _ => rfl
  | .op k a b => by
    show Xp.op k _ _ = Xp.op k _ _
    rw [a.cln_cln, b.cln_cln]
  | .nul => rfl
/-- TO PUT IS TO BIND -/
theorem Xp.ev_put (env : List (ByteArray × Int)) (n : ByteArray) (y : Xp) : ∀ e : Xp, (Xp.put n y e).ev env = e.ev (env ++ [(n, y.ev env)])
  | .num _ => rfl
  | .nam s => by
    show (if s = n then y.cln else .nam s).ev env = bnd _ s
    rw [bnd_snoc]
    by_cases h : s = n
    · rw [if_pos h, if_pos h.symm, y.ev_cln]
    · rw [if_neg h, if_neg (Ne.symm h)]; rfl
  | .op k a b => by
    show ar k _ _ = ar k _ _
    rw [Xp.ev_put env n y a, Xp.ev_put env n y b]
  | .nul => rfl
theorem Xp.ev_more {env : List (ByteArray × Int)} {n : ByteArray} {v : Int} {e : Xp} (h : n ∉ e.names) : e.ev env = e.ev (env ++ [(n, v)]) :=
  e.ev_congr fun s hs => by rw [bnd_snoc, if_neg fun h2 : n = s => h (by rw [h2]; exact hs)]
theorem Xp.put_out {n : ByteArray} {y : Xp} : ∀ e : Xp, n ∉ e.names → Xp.put n y e = e.cln
  | .num _, _ => rfl
  | .nam s, h => if_neg fun e => h (by simp [Xp.names, e])
  | .op k a b, h => by
    show Xp.op k _ _ = Xp.op k _ _
    rw [put_out a fun h1 => h ((mem_mrgN _ _).2 (.inl h1)), put_out b fun h1 => h ((mem_mrgN _ _).2 (.inr h1))]
  | .nul, _ => rfl
theorem Xp.put_self (n : ByteArray) : ∀ e : Xp, Xp.put n (.nam n) e = e.cln
  | .num _ => rfl
  | .nam s => by
    show (if s = n then Xp.cln (.nam n) else .nam s) = .nam s
    split
    · rename_i h; rw [h]; rfl
    · rfl
  | .op k a b => by
    show Xp.op k _ _ = Xp.op k _ _
    rw [put_self n a, put_self n b]
  | .nul => rfl
theorem Xp.put_names {n : ByteArray} {v : Int} : ∀ e : Xp, n ∉ (Xp.put n (.num v) e).names
  | .num _ => by simp [Xp.put, Xp.names]
  | .nam s => by
    show n ∉ (if s = n then Xp.num v else .nam s).names
    split
    · simp [Xp.names]
    · rename_i h
      simp only [Xp.names, List.mem_singleton]
      exact Ne.symm h
  | .op k a b => by
    show n ∉ mrgN _ _
    rw [mem_mrgN, not_or]
    exact ⟨put_names a, put_names b⟩
  | .nul => by simp [Xp.put, Xp.names]
theorem Xp.names_fold : ∀ e : Xp, e.fold.names = e.names
  | .num _ => rfl
  | .nam _ => rfl
  | .op k a b => by
    show (if (Xp.op k a b).names = [] then Xp.num ((Xp.op k a b).ev []) else .op k a.fold b.fold).names = _
    by_cases h : (Xp.op k a b).names = []
    · rw [if_pos h, h]; rfl
    · rw [if_neg h]
      show mrgN a.fold.names b.fold.names = mrgN _ _
      rw [a.names_fold, b.names_fold]
  | .nul => rfl
theorem Xp.ev_fold (env : List (ByteArray × Int)) : ∀ e : Xp, e.fold.ev env = e.ev env
  | .num _ => rfl
  | .nam _ => rfl
  | .op k a b => by
    show (if (Xp.op k a b).names = [] then Xp.num ((Xp.op k a b).ev []) else .op k a.fold b.fold).ev env = _
    by_cases h : (Xp.op k a b).names = []
    · rw [if_pos h]
      show (Xp.op k a b).ev [] = _
      exact Xp.ev_congr _ fun s hs => by rw [h] at hs; simp at hs
    · rw [if_neg h]
      show ar k (a.fold.ev env) (b.fold.ev env) = ar k _ _
      rw [a.ev_fold env, b.ev_fold env]
  | .nul => rfl
theorem Xp.fold_fold : ∀ e : Xp, e.fold.fold = e.fold
  | .num _ => rfl
  | .nam _ => rfl
  | .op k a b => by
    by_cases h : (Xp.op k a b).names = []
    · have e1 : (Xp.op k a b).fold = .num ((Xp.op k a b).ev []) := if_pos h
      rw [e1]; rfl
    · have e1 : (Xp.op k a b).fold = .op k a.fold b.fold := if_neg h
      have e2 : (Xp.op k a.fold b.fold).fold = .op k a.fold.fold b.fold.fold := if_neg (by
        show mrgN a.fold.names b.fold.names ≠ []
        rw [a.names_fold, b.names_fold]
        exact h)
      rw [e1, e2, a.fold_fold, b.fold_fold]
  | .nul => rfl
theorem Xp.fold_num : ∀ e : Xp, e.fold.isNum = decide (e.names = [])
  | .num _ => rfl
  | .nam _ => by simp [Xp.fold, Xp.isNum, Xp.names]
  | .op k a b => by
    by_cases h : (Xp.op k a b).names = []
    · have e1 : (Xp.op k a b).fold = .num ((Xp.op k a b).ev []) := if_pos h
      rw [e1, decide_eq_true h]; rfl
    · have e1 : (Xp.op k a b).fold = .op k a.fold b.fold := if_neg h
      rw [e1, decide_eq_false h]; rfl
  | .nul => rfl

/-! ### numbers that go round -/
def inI (x : Int) : Prop := -9223372036854775808 ≤ x ∧ x ≤ 9223372036854775807
theorem wr_in (x : Int) : inI (wr x) := by unfold inI wr; rw [IntKind.wrap_i64]; omega
theorem wr_id {x : Int} (h : inI x) : wr x = x := by unfold inI at h; unfold wr; rw [IntKind.wrap_i64]; omega
theorem wr_ex (x : Int) : ∃ q : Int, wr x = x + 18446744073709551616 * q := ⟨-((x + 9223372036854775808) / 18446744073709551616), by unfold wr; rw [IntKind.wrap_i64]; omega⟩
theorem wr_more (x q : Int) : wr (x + 18446744073709551616 * q) = wr x := by unfold wr; rw [IntKind.wrap_i64, IntKind.wrap_i64]; omega
theorem wr_eq {x y : Int} (q : Int) (h : x = y + 18446744073709551616 * q) : wr x = wr y := by rw [h, wr_more]
theorem tdiv_in {x y : Int} (hx : inI x) : -9223372036854775808 ≤ x.tdiv y ∧ x.tdiv y ≤ 9223372036854775808 := by
  have h1 : (x.tdiv y).natAbs ≤ x.natAbs := by rw [Int.natAbs_tdiv]; exact Nat.div_le_self _ _
  unfold inI at hx
  omega
theorem tmod_in {x y : Int} (hx : inI x) : inI (x.tmod y) := by
  have h1 : (x.tmod y).natAbs ≤ x.natAbs := by rw [Int.natAbs_tmod]; exact Nat.mod_le _ _
  by_cases h : 0 ≤ x
  · have := Int.tmod_nonneg y h
    unfold inI at hx ⊢
    omega
  · have h3 : (-x).tmod y = -(x.tmod y) := Int.neg_tmod ..
    have := Int.tmod_nonneg y (show 0 ≤ -x by omega)
    unfold inI at hx ⊢
    omega
theorem ar_in (k : Int) {x y : Int} (hx : inI x) : inI (ar k x y) := by
  unfold ar
  repeat' split
  all_goals first
    | exact wr_in _
    | exact tmod_in hx
    | (unfold inI; omega)
theorem bnd_in {env : List (ByteArray × Int)} (h : ∀ b, b ∈ env → inI b.2) (s : ByteArray) : inI (bnd env s) := by
  have key : ∀ (l : List (ByteArray × Int)) (v : Int), inI v → (∀ b, b ∈ l → inI b.2) → inI (l.foldl (fun v b => if b.1 = s then b.2 else v) v) := by
    intro l
    induction l with
    | nil => exact fun v hv _ => hv
    | cons b l ih =>
      intro v hv hl
      refine ih _ ?_ fun c hc => hl c (List.mem_cons_of_mem _ hc)
      show inI (if b.1 = s then b.2 else v)
      split
      · exact hl b (List.mem_cons_self ..)
      · exact hv
  exact key env 0 (by unfold inI; omega) h
/-- its numbers fit -/
def Xp.fit : Xp → Prop
  | .num n => inI n
  | .nam _ => True
  | .op _ a b => a.fit ∧ b.fit
  | .nul => True
theorem Xp.ev_in {env : List (ByteArray × Int)} (h : ∀ b, b ∈ env → inI b.2) : ∀ e : Xp, e.fit → inI (e.ev env)
  | .num _, hf => hf
  | .nam s, _ => bnd_in h s
  | .op k a _, hf => ar_in k (a.ev_in h hf.1)
  | .nul, _ => by unfold inI Xp.ev; omega
theorem ar_add_comm (x y : Int) : ar 3 x y = ar 3 y x := by
  show wr (x + y) = wr (y + x)
  rw [Int.add_comm]
theorem ar_mul_add (x y z : Int) : ar 5 x (ar 3 y z) = ar 3 (ar 5 x y) (ar 5 x z) := by
  show wr (x * wr (y + z)) = wr (wr (x * y) + wr (x * z))
  obtain ⟨q, hq⟩ := wr_ex (y + z)
  obtain ⟨q1, h1⟩ := wr_ex (x * y)
  obtain ⟨q2, h2⟩ := wr_ex (x * z)
  rw [hq, h1, h2, show x * (y + z + 18446744073709551616 * q) = x * y + x * z + 18446744073709551616 * (x * q) by rw [Int.mul_add, Int.mul_add, Int.mul_left_comm], wr_more]
  exact (wr_eq (q1 + q2) (by rw [Int.mul_add]; omega)).symm
theorem ar_sub_add {x : Int} (hx : inI x) (y : Int) : ar 4 (ar 3 x y) y = x := by
  show wr (wr (x + y) - y) = x
  obtain ⟨q, hq⟩ := wr_ex (x + y)
  rw [wr_eq (y := x) q (by omega), wr_id hx]
theorem ar_div_mod {x y : Int} (hx : inI x) (hy : y ≠ 0) : ar 3 (ar 5 (ar 6 x y) y) (ar 7 x y) = x := by
  have e6 : ar 6 x y = wr (x.tdiv y) := if_neg hy
  have e7 : ar 7 x y = x.tmod y := if_neg hy
  rw [e6, e7]
  show wr (wr (wr (x.tdiv y) * y) + x.tmod y) = x
  obtain ⟨q, hq⟩ := wr_ex (x.tdiv y)
  obtain ⟨q1, h1⟩ := wr_ex (wr (x.tdiv y) * y)
  have h2 : x.tdiv y * y + x.tmod y = x := Int.tdiv_mul_add_tmod x y
  rw [h1, hq, wr_eq (y := x) (q * y + q1) (by rw [Int.add_mul, Int.mul_add, Int.mul_assoc]; omega), wr_id hx]
theorem ar_three (x y : Int) : ar 8 x y + ar 8 y x + ar 9 x y = 1 := by
  have e1 : ar 8 x y = if x < y then 1 else 0 := by unfold ar; simp
  have e2 : ar 8 y x = if y < x then 1 else 0 := by unfold ar; simp
  have e3 : ar 9 x y = if x = y then 1 else 0 := by unfold ar; simp
  rw [e1, e2, e3]
  repeat' split
  all_goals omega
end Go.Proofs.Ytinbcdadffljhaa
