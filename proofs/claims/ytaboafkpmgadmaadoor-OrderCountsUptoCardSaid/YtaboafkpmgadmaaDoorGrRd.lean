/-
  GraphRound: the places of a list's numbers; when an order leads onward.
-/
import Derived.Test.YtaboafkpmgadmaaDoorGrBs
import Derived.Test.YtaboafkpmgadmaaDoorBsSrt
import Derived.Maps.OwnOps
import Derived.Maps.Views
namespace Go.Proofs.YtaboafkpmgadmaaDoor
open Go.RowKit Go.Shelf Go.Maps
set_option maxRecDepth 100000

/-- one more than the last place of n among the first k; 0 where it is not there -/
def posN (zs : List Int) (n : Int) : Nat → Nat
  | 0 => 0
  | k + 1 => if zd zs k = n then k + 1 else posN zs n k
theorem posN_le (zs : List Int) (n : Int) : ∀ k, posN zs n k ≤ k
  | 0 => Nat.le_refl _
  | k + 1 => by unfold posN; split; exact Nat.le_refl _; exact Nat.le_trans (posN_le zs n k) (Nat.le_succ _)
theorem posN_at {zs : List Int} {n : Int} {i : Nat} (hz : zd zs i = n) : ∀ k, i < k → (∀ j, i < j → j < k → zd zs j ≠ n) → posN zs n k = i + 1
  | 0, h, _ => by omega
  | k + 1, h, hn => by
    unfold posN
    by_cases e : zd zs k = n
    · rw [if_pos e]
      have : ¬ i < k := fun hlt => hn k hlt (by omega) e
      omega
    · rw [if_neg e]
      have : i ≠ k := fun h' => e (h' ▸ hz)
      exact posN_at hz k (by omega) fun j h1 h2 => hn j h1 (by omega)
def atN (zs : List Int) (n : Int) : Nat := posN zs n zs.length
def leadsE (zs : List Int) (e : Int × Int) : Bool := !(((atN zs e.1 : Nat) : Int) == 0) && !(((atN zs e.2 : Nat) : Int) == 0) && !decide (((atN zs e.2 : Nat) : Int) ≤ ((atN zs e.1 : Nat) : Int))
def leadsB (zs : List Int) (es : List (Int × Int)) : Bool := es.all (leadsE zs)
theorem leadsE_iff (zs : List Int) (e : Int × Int) : leadsE zs e = true ↔ 0 < atN zs e.1 ∧ atN zs e.1 < atN zs e.2 := by
  unfold leadsE
  simp
  omega
theorem leads_no {m : Nat} {es : List (Int × Int)} (zs : List Int) (h : inR m es = true) (hl : (ordr m es).length < m) : leadsB zs es = false := by
  rw [← Bool.not_eq_true]
  intro hb
  unfold leadsB at hb
  rw [List.all_eq_true] at hb
  have hp : ∀ a b, Path (gR es) a b → atN zs (a : Int) < atN zs (b : Int) := by
    intro a b p
    induction p with
    | one e => exact ((leadsE_iff zs _).1 (hb _ (of_decide_eq_true e))).2
    | step e p ih => exact Nat.lt_trans ((leadsE_iff zs _).1 (hb _ (of_decide_eq_true e))).2 ih
  obtain ⟨x, hx, hf⟩ := (loop_iff h).1 hl
  have := hp x x ((fw_iff (gR_lt h) x x).1 hf)
  omega
theorem nodup_at {L : List Nat} (h : L.Nodup) {i j x : Nat} (hi : L[i]? = some x) (hj : L[j]? = some x) : i = j := by
  have h1 := (List.getElem?_eq_some_iff.1 hi).1
  have h2 := (List.getElem?_eq_some_iff.1 hj).1
  exact (List.getElem_inj h).1 (((List.getElem?_eq_some_iff.1 hi).2).trans ((List.getElem?_eq_some_iff.1 hj).2).symm)
theorem atN_toI {L : List Nat} (h : L.Nodup) {i x : Nat} (hi : L[i]? = some x) : atN (toI L) (x : Int) = i + 1 := by
  have hl := (List.getElem?_eq_some_iff.1 hi).1
  have hz : ∀ j, j < L.length → ∃ y : Nat, zd (toI L) j = (y : Int) ∧ L[j]? = some y := fun j hj => zd_toI L j hj
  unfold atN
  refine posN_at ?_ _ (by rw [toI_len]; exact hl) fun j h1 h2 e => ?_
  · obtain ⟨y, e1, e2⟩ := hz i hl
    rw [hi] at e2
    injection e2 with e2
    rw [e1, e2]
  · rw [toI_len] at h2
    obtain ⟨y, e1, e2⟩ := hz j h2
    rw [e1] at e
    obtain rfl : y = x := by omega
    have := nodup_at h hi e2
    omega
theorem leads_yes {m : Nat} {es : List (Int × Int)} (h : inR m es = true) (hl : (ordr m es).length = m) : leadsB (toI (ordr m es)) es = true := by
  unfold leadsB
  rw [List.all_eq_true]
  rintro ⟨a, b⟩ he
  have hb := edge_in h he
  obtain ⟨i, rfl⟩ : ∃ i : Nat, a = (i : Int) := ⟨a.toNat, by omega⟩
  obtain ⟨j, rfl⟩ : ∃ j : Nat, b = (j : Int) := ⟨b.toNat, by omega⟩
  have hg : Good (gR es) m (ordr m es) := good_topoN _ _ _
  have hj : j ∈ ordr m es := hg.all (by omega) (by omega)
  obtain ⟨q, hq, eq⟩ := List.getElem_of_mem hj
  have hq' : (ordr m es)[q]? = some j := by rw [List.getElem?_eq_getElem hq, eq]
  have hi := hg.pre q j hq' i (by omega) (decide_eq_true he)
  obtain ⟨p, hp, ep⟩ := List.getElem_of_mem hi
  rw [List.getElem_take] at ep
  have hpq : p < q := by simp at hp; omega
  have hp' : (ordr m es)[p]? = some i := by rw [List.getElem?_eq_getElem (by omega), ep]
  rw [leadsE_iff, atN_toI hg.nodup hp', atN_toI hg.nodup hq']
  omega

/-- the map of the places -/
def Cm {H : Type} (zs : List Int) : Nat → DataW H
  | 0 => .map []
  | k + 1 => (Cm zs k).put (.int .i64 (zd zs k)) (.lit (.int .i64 ((k : Int) + 1)))
theorem Cm_isMap {H : Type} (zs : List Int) : ∀ k, IsMap (Cm (H := H) zs k)
  | 0 => isMap_empty
  | k + 1 => (Cm_isMap zs k).put _ _
theorem Cm_at {H : Type} (zs : List Int) (n : Int) : ∀ k, (Cm (H := H) zs k).atKey (.int .i64 n) (.lit (.int .i64 0)) = .lit (.int .i64 ((posN zs n k : Nat) : Int))
  | 0 => rfl
  | k + 1 => by
    unfold Cm posN
    by_cases e : zd zs k = n
    · rw [if_pos e, e, atKey_put_same (Cm_isMap zs k) (by trivial)]
      simp
    · rw [if_neg e, atKey_put_other (by intro h; injection h with _ h; exact e h.symm), Cm_at zs n k]

theorem srt_eq (zs ws : List Int) (hp : zs.Perm ws) (hs : ws.Pairwise (· ≤ ·)) : srt zs = ws := by
  unfold srt
  refine List.Perm.eq_of_pairwise (le := fun x y => decide (x ≤ y) = true) (fun a b _ _ h1 h2 => ?_) (List.pairwise_mergeSort (fun a b c h1 h2 => ?_) (fun a b => ?_) zs) (hs.imp fun h => decide_eq_true h) ((List.mergeSort_perm zs _).trans hp)
  · have := of_decide_eq_true h1; have := of_decide_eq_true h2; omega
  · have := of_decide_eq_true h1; have := of_decide_eq_true h2; exact decide_eq_true (by omega)
  · simp; omega
theorem perm_range {m : Nat} {L : List Nat} (hn : L.Nodup) (hl : L.length = m) (hlt : ∀ x, x ∈ L → x < m) : L.Perm (List.range m) := by
  have hall : ∀ x, x < m → x ∈ L := fun x hx => by
    false_or_by_contra
    rename_i hc
    have := nodup_le m (L ++ [x]) (by
      rw [List.nodup_append]
      exact ⟨hn, by simp, fun a ha b hb => by simp at hb; subst hb; exact fun e => hc (e ▸ ha)⟩) (fun y hy => by
      rcases List.mem_append.1 hy with h3 | h3
      · exact hlt y h3
      · simp at h3; omega)
    simp at this
    omega
  rw [List.perm_iff_count]
  intro a
  rw [hn.count, List.nodup_range.count]
  by_cases ha : a < m
  · rw [if_pos (hall a ha), if_pos (List.mem_range.2 ha)]
  · rw [if_neg (fun h => ha (hlt a h)), if_neg (fun h => ha (List.mem_range.1 h))]
theorem srt_ordr {m : Nat} {es : List (Int × Int)} (hl : (ordr m es).length = m) : srt (toI (ordr m es)) = toI (List.range m) := by
  have hg : Good (gR es) m (ordr m es) := good_topoN _ _ _
  refine srt_eq _ _ ((perm_range hg.nodup hl hg.lt).map _) ?_
  unfold toI
  rw [List.pairwise_map]
  exact List.pairwise_lt_range.imp fun h => by omega
theorem zd_range (m k : Nat) (hk : k < m) : zd (toI (List.range m)) k = (k : Int) := by
  unfold zd toI
  simp [List.getD, hk]

/-! ### the closure -/
theorem lawI : Keyed Tryd.prog 3 := int_keyed Tryd.underlying3
theorem zeroI (w : World) : (zeroValue 3).run Tryd.prog w = .ok (.int .i64 0) w := by kernel_rfl
theorem leadsB_snoc {zs : List Int} {es : List (Int × Int)} {k : Nat} (hk : k < es.length) (h : (es.take k).all (leadsE zs) = true) (he : leadsE zs (ed es k) = true) : (es.take (k + 1)).all (leadsE zs) = true := by
  have h2 : es.take (k + 1) = es.take k ++ [ed es k] := by
    rw [List.take_add_one, List.getElem?_eq_getElem hk]
    unfold ed
    simp [List.getD, hk]
  rw [h2, List.all_append, h]
  simp [he]
theorem leadsB_bad {zs : List Int} {es : List (Int × Int)} {k : Nat} (hk : k < es.length) (he : leadsE zs (ed es k) = false) : leadsB zs es = false := by
  unfold leadsB
  rw [List.all_eq_false]
  exact ⟨_, ed_mem es k hk, by simp [he]⟩
theorem mk_int (P : Program) (k : TypeId) (x : Int) (hk : P.underlying k = some (.int .i64)) (h : -9223372036854775808 ≤ x ∧ x ≤ 9223372036854775807) : keyOf P k (.int .i64 x) = some (.int .i64 x) :=
  keyOf_int_mk hk (WalkArith.wf_i64 (by omega))

theorem ownsMap_step {H : Type} {P : Program} {k : TypeId} {R : Value → Option (DataW H × List MemPlace)} {w w' : World} {b n : Nat} {D : DataW H} (h : w.ownsMap P k R b n D) (hb : Below w.heap.size w w') : w'.ownsMap P k R b n D := by
  have hlt := h.lt
  obtain ⟨es, clock, h1, r⟩ := h
  exact ⟨es, clock, (hb.block b hlt).trans h1, r⟩
theorem look_at {w : World} {b n : Nat} {D : DataW Unit} (h : w.ownsMap Tryd.prog 3 (plainElem Tryd.prog 3) b n D) {x : Int} {p : Nat} (hb : -9223372036854775808 ≤ x ∧ x ≤ 9223372036854775807) (hat : D.atKey (.int .i64 x) (.lit (.int .i64 0)) = .lit (.int .i64 (p : Int))) :
    (Instr.lookup 36 (.map (some b)) (.int .i64 x) false).run Tryd.prog w = .ok (.int .i64 (p : Int)) w := by
  obtain ⟨c, hrun, h1, _⟩ := h.lookup_int lawI Tryd.underlying36 Tryd.underlying3 (zeroI _) (mk_int Tryd.prog 3 x Tryd.underlying3 hb)
  rw [hat] at h1
  injection h1 with h1
  injection h1 with _ h1
  rw [hrun, h1]

set_option maxHeartbeats 2000000 in
theorem leads_any (B : Nat) (N : Int) (A : Option Addr) (c : Nat) (es : List (Int × Int)) (A2 : Option Addr) (c2 : Nat) (zs : List Int) (w : World)
    (hg : GB 24 w B N (.slice A es.length c)) (he : RdE w w.heap.size A es) (hz : RdI w w.heap.size A2 zs) :
    Calls Tryd.prog 20 #[.slice A2 zs.length c2, .pointer (some ⟨B, 0, none⟩)] w fun e w' => e = .returned (.bool (leadsB zs es)) ∧ Below w.heap.size w w' := by
  have hmm := @run_makeMap Tryd.prog
  have hr := he.room
  have hr2 := hz.room
  go_enter Tryd.func20, Tryd.ntmps20
  go_wp2_with fail
  go_loopw [12] (fun i wr => ∃ k : Nat, k ≤ zs.length ∧ i = .int .i64 k ∧ wr.ownsMap Tryd.prog 3 (plainElem Tryd.prog 3) w.heap.size k (Cm (H := Unit) zs k) ∧ Below w.heap.size w wr) (fun i _ => zs.length - (intOf i).toNat)
  case atStart => exact ⟨0, Nat.zero_le _, rfl, World.ownsMap_made _ _ _ _, (Below.refl _ _).alloc (Nat.le_refl _) _⟩
  case round =>
    obtain ⟨k, hk, rfl, hown, hb⟩ := hrel
    by_cases hlt : k < zs.length
    · obtain ⟨b, off, rfl, hbb, hc⟩ := hz.rd (by omega)
      have hcx := (hb.cell (p := ⟨b, off + k, none⟩) hbb).trans (hc k hlt)
      have hkey := mk_int Tryd.prog 3 (zd zs k) Tryd.underlying3 ⟨hz.lo k, hz.hi k⟩
      clear hc
      go_wp2_with (first
        | (at_mapUpdate; refine wpList_mapUpdate_own _ rfl _ _ _ 36 rfl 3 3 lawI Tryd.underlying36 _ w.heap.size k _ rfl hown (by unfold maxLen; omega) _ _ _ rfl rfl hkey _ [] (plainElem_int Tryd.underlying3 (WalkArith.wf_i64 (by omega))) ?_; intro w1 hown1 hgrow1)
        | fail)
      go_roundw
      case rel => exact ⟨k + 1, by omega, by go_num, hown1, hb.grown hgrow1 hb.size (fun j hj => by cases hj; exact Nat.le_refl _)⟩
      case measure => simp [intOf]; omega
    · obtain rfl : k = zs.length := by omega
      obtain ⟨wm, hwm⟩ : ∃ wm, wm = wr := ⟨_, rfl⟩
      rw [← hwm] at hown hb ⊢
      clear hwm
      have he1 := he.step hb
      have hg1 := hg.step hb
      have hs := hb.size
      obtain ⟨D, hD⟩ : ∃ D, D = Cm (H := Unit) zs zs.length := ⟨_, rfl⟩
      rw [← hD] at hown
      have hat : ∀ n, D.atKey (.int .i64 n) (.lit (.int .i64 0)) = .lit (.int .i64 ((atN zs n : Nat) : Int)) := fun n => by rw [hD]; exact Cm_at zs n _
      have hle : ∀ n, atN zs n ≤ zs.length := fun n => posN_le zs n _
      obtain ⟨L, hL⟩ : ∃ L, L = zs.length := ⟨_, rfl⟩
      rw [← hL] at hown hle ⊢
      have e1 := hg1.e
      clear hg he hD hz hL
      go_wp2_with fail
      go_loopw [25] (fun i wr => ∃ k : Nat, k ≤ es.length ∧ i = .int .i64 k ∧ Hid ((es.take k).all (leadsE zs) = true) ∧ Below wm.heap.size wm wr) (fun i _ => es.length - (intOf i).toNat)
      case atStart => exact ⟨0, Nat.zero_le _, rfl, Lib.hid (by simp), Below.refl _ _⟩
      case round =>
        obtain ⟨k, hk, rfl, hall, hbr⟩ := hrel
        by_cases hlt : k < es.length
        · obtain ⟨b, off, rfl, hbb, hc⟩ := he1.rd (by omega)
          have l1 := he1.lo1 k
          have h1 := he1.hi1 k
          have l2 := he1.lo2 k
          have h2 := he1.hi2 k
          have hc1 := (hbr.cell (p := ⟨b, off + k * 2, none⟩) hbb).trans (hc k hlt).1
          have hc2 := (hbr.cell (p := ⟨b, off + k * 2 + 1, none⟩) hbb).trans (hc k hlt).2
          obtain ⟨⟨x, y⟩, hxy⟩ : ∃ e, e = ed es k := ⟨_, rfl⟩
          have hE : ∀ v, leadsE zs (x, y) = v → leadsE zs (ed es k) = v := fun v hv => by rw [← hxy]; exact hv
          rw [← hxy] at hc1 hc2 l1 h1 l2 h2
          dsimp only at hc1 hc2 l1 h1 l2 h2
          have hBn := below_alloc wr (.cells #[.int .i64 x, .int .i64 y] 38)
          have hB := hbr.trans (hBn.mono hbr.size)
          have ho2 := ownsMap_step (ownsMap_step hown hbr) hBn
          have lx := look_at ho2 (x := x) ⟨l1, h1⟩ (hat x)
          have ly := look_at ho2 (x := y) ⟨l2, h2⟩ (hat y)
          have bx := hle x
          have bY := hle y
          have hv : leadsE zs (x, y) = (!(((atN zs x : Nat) : Int) == 0) && !(((atN zs y : Nat) : Int) == 0) && !decide (((atN zs y : Nat) : Int) ≤ ((atN zs x : Nat) : Int))) := rfl
          have e1 := (hg1.step hbr).e
          clear ho2 hc hat hle hxy he1 hg1 hown hBn
          obtain ⟨p, hp⟩ : ∃ p, p = atN zs x := ⟨_, rfl⟩
          obtain ⟨q, hq⟩ : ∃ q, q = atN zs y := ⟨_, rfl⟩
          rw [← hp] at lx bx hv
          rw [← hq] at ly bY hv
          clear hp hq l1 l2 h1 h2
          have HE := Lib.hid hE
          have HV := Lib.hid hv
          clear hE hv
          rcases Nat.eq_zero_or_pos p with rfl | p0
          · go_wp2_with fail
            go_ret
            exact ⟨ret_b (leadsB_bad hlt (HE.out _ (HV.out.trans (by simp)))).symm, hb.trans (hB.mono hs)⟩
          · rcases Nat.eq_zero_or_pos q with rfl | q0
            · go_wp2_with fail
              go_ret
              exact ⟨ret_b (leadsB_bad hlt (HE.out _ (HV.out.trans (by simp)))).symm, hb.trans (hB.mono hs)⟩
            · by_cases hpq : q ≤ p
              · go_wp2_with fail
                go_ret
                exact ⟨ret_b (leadsB_bad hlt (HE.out _ (HV.out.trans (by simp; omega)))).symm, hb.trans (hB.mono hs)⟩
              · have b1 : (((p : Nat) : Int) == 0) = false := by simp; omega
                have b2 : (((q : Nat) : Int) == 0) = false := by simp; omega
                have b3 : decide (((q : Nat) : Int) ≤ ((p : Nat) : Int)) = false := by simp; omega
                go_wp2_with fail
                go_roundw
                case rel => exact ⟨k + 1, by omega, by go_num, leadsB_snoc hlt hall.out (HE.out _ (HV.out.trans (by simp; omega))), hB⟩
                case measure => simp [intOf]; omega
        · obtain rfl : k = es.length := by omega
          go_wp2_with fail
          go_ret
          refine ⟨ret_b ?_, hb.trans (hbr.mono hs)⟩
          have := hall.out
          rw [List.take_length] at this
          exact this.symm
end Go.Proofs.YtaboafkpmgadmaaDoor
