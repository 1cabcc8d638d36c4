/-
  Contracts of order.Apart and its closures, of slices.ContainsFunc at them.
-/
import Derived.Test.YtaboafkpmgadmaaDoorOrM
import Derived.Test.YtaboafkpmgadmaaDoorGrAl
namespace Go.Proofs.YtaboafkpmgadmaaDoor
open Go.RowKit Go.Shelf
set_option maxRecDepth 100000

/-- is it no node? -/
def noB (N : Int) (z : Int) : Bool := !(decide (0 ≤ z) && decide (z < N))
theorem noB_any {m : Nat} {zs : List Int} : zs.any (noB m) = !inA m zs := by
  unfold inA
  induction zs with
  | nil => rfl
  | cons a l ih => rw [List.any_cons, List.all_cons, ih, Bool.not_and]; rfl

theorem isNo_any (N : Int) (B : Nat) (z : Int) (w : World) (hg : w.cell? ⟨B, 0, none⟩ = some (.int .i64 N)) :
    Calls Tryd.prog 69 #[.int .i64 z, .pointer (some ⟨B, 0, none⟩)] w fun e w' => e = .returned (.bool (noB N z)) ∧ Below w.heap.size w w' := by
  have hE : ∀ v, noB N z = v → noB N z = v := fun _ h => h
  have HE := Lib.hid hE
  clear hE
  obtain ⟨R, hR⟩ : ∃ R, R = noB N z := ⟨_, rfl⟩
  rw [← hR]
  have HR := Lib.hid hR
  clear hR
  go_enter Tryd.func69, Tryd.ntmps69
  by_cases h1 : z < 0
  · go_wp2_with fail
    go_ret
    exact ⟨by rw [HR.out]; unfold noB; simp; omega, Below.refl _ _⟩
  · by_cases h2 : N ≤ z
    · go_wp2_with fail
      go_ret
      exact ⟨by rw [HR.out]; unfold noB; simp; omega, Below.refl _ _⟩
    · go_wp2_with fail
      go_ret
      exact ⟨by rw [HR.out]; unfold noB; simp; omega, Below.refl _ _⟩

/-- the cells that a call of the closure wants, and all that lay -/
abbrev HeldD (w1 : World) (B5 : Nat) (u5 : Value) (B8 : Nat) (u8 : Value) (b o : Nat) (u : Value) (w' : World) : Prop := w'.cell? ⟨B5, 0, none⟩ = some u5 ∧ w'.cell? ⟨B8, 0, none⟩ = some u8 ∧ w'.cell? ⟨b, o, none⟩ = some u ∧ Below w1.heap.size w1 w'
theorem HeldD.drew {w1 W : World} {B5 B8 b o : Nat} {u5 u8 u : Value} (h : HeldD w1 B5 u5 B8 u8 b o u W) : HeldD w1 B5 u5 B8 u8 b o u W.drew := ⟨h.1, h.2.1, h.2.2.1, h.2.2.2.drew⟩
theorem HeldD.step {w1 W w2 : World} {B5 B8 b o : Nat} {u5 u8 u : Value} (h : HeldD w1 B5 u5 B8 u8 b o u W) (hb : Below W.heap.size W w2) : HeldD w1 B5 u5 B8 u8 b o u w2 :=
  ⟨(hb.cell (p := ⟨B5, 0, none⟩) (World.block_lt_of_cell? _ _ h.1)).trans h.1, (hb.cell (p := ⟨B8, 0, none⟩) (World.block_lt_of_cell? _ _ h.2.1)).trans h.2.1, (hb.cell (p := ⟨b, o, none⟩) (World.block_lt_of_cell? _ _ h.2.2.1)).trans h.2.2.1, h.2.2.2.trans (hb.mono h.2.2.2.size)⟩

set_option maxHeartbeats 2000000 in
theorem isFol_any (m : Nat) (es : List (Int × Int)) (hin : inR m es = true) (zs : List Int) (hA : inA m zs = true) (B5 B8 : Nat) (A1 : Option Addr) (c1 : Nat) (A2 : Option Addr) (c2 : Nat) (z : Int) (hz : 0 ≤ z ∧ z < (m : Int)) (w : World)
    (h5 : w.cell? ⟨B5, 0, none⟩ = some (.slice A1 m c1)) (hu : RdUU w w.heap.size A1 (behs m es)) (h8 : w.cell? ⟨B8, 0, none⟩ = some (.slice A2 (ofS zs).length c2)) (hs : RdU w w.heap.size A2 (ofS zs)) :
    Calls Tryd.prog 72 #[.int .i64 z, .pointer (some ⟨B5, 0, none⟩), .pointer (some ⟨B8, 0, none⟩)] w fun e w' => e = .returned (.bool (folB m es zs z)) ∧ Below w.heap.size w w' := by
  have hm := okN_of hin
  obtain ⟨x, rfl⟩ : ∃ x : Nat, z = (x : Int) := ⟨z.toNat, by omega⟩
  have hx : x < m := by omega
  have hand := and_none (m := m) (by omega) hin hA (x : Int)
  rw [Int.toNat_natCast] at hand
  obtain ⟨b, off, A5, c5, rfl, hb5, hc5, hs5⟩ := hu.at_ (k := x) (by rw [behs_len]; exact hx)
  rw [st_behs _ hx] at hc5 hs5
  have hx0 : (0 : Int) ≤ (x : Int) := hz.1
  have hx1 : (x : Int) < (m : Int) := hz.2
  have l1 := beh_len m es x
  have l2 := ofS_len zs
  have l3 := mrg_le andN (beh m es x) (ofS zs)
  obtain ⟨R, hR⟩ : ∃ R, R = folB m es zs (x : Int) := ⟨_, rfl⟩
  rw [← hR] at hand ⊢
  obtain ⟨xs, hxs⟩ : ∃ xs, xs = beh m es x := ⟨_, rfl⟩
  rw [← hxs] at hc5 hs5 hand l1 l3
  obtain ⟨ys, hys⟩ : ∃ ys, ys = ofS zs := ⟨_, rfl⟩
  rw [← hys] at h8 hs hand l2 l3
  have hE2 : ∀ (W : World), HeldD w B5 (.slice (some ⟨b, off, none⟩) m c1) B8 (.slice A2 ys.length c2) b (off + x) (.slice A5 xs.length c5) W → Calls Tryd.prog 73 #[.slice A5 xs.length c5, .slice A2 ys.length c2] W
      fun e w' => ∃ v, e = .returned v ∧ (∃ L : Nat, (L = 0 ∧ R = false ∨ 0 < L ∧ R = true) ∧ L ≤ 1024 ∧ ∃ A9 c9, v = .slice A9 L c9) ∧ HeldD w B5 (.slice (some ⟨b, off, none⟩) m c1) B8 (.slice A2 ys.length c2) b (off + x) (.slice A5 xs.length c5) w' := fun W h => by
    refine (opandN_any A5 A2 c5 c2 xs ys _ ((hs5.below h.2.2.2).more h.2.2.2.size) ((hs.below h.2.2.2).more h.2.2.2.size) (by omega) (by omega)).mono ?_
    rintro e w' ⟨A9, c9, rfl, _, hb⟩
    refine ⟨_, rfl, ⟨_, ?_, by omega, A9, c9, rfl⟩, h.step hb⟩
    rcases Nat.eq_zero_or_pos (mrg andN xs ys).length with e0 | e0
    · refine .inl ⟨e0, ?_⟩
      rw [← hand, e0]
      rfl
    · refine .inr ⟨e0, ?_⟩
      rw [← hand]
      exact decide_eq_true e0
  have H2 := Lib.hid hE2
  have hb0 := Below.refl w.heap.size w
  clear hE2 hR hxs hys hs5 hu hs hin hA hand hz l1 l2 l3 hm
  go_enter Tryd.func72, Tryd.ntmps72
  go_wp2_with fail
  go_region_held3 (HeldD w B5 (.slice (some ⟨b, off, none⟩) m c1) B8 (.slice A2 ys.length c2) b (off + x) (.slice A5 xs.length c5))
    (first
      | (go_split_ands; refine ⟨?_, ?_, ?_, ?_⟩ <;> assumption)
      | (go_split_ands; exact HeldD.drew ⟨‹_›, ‹_›, ‹_›, ‹_›⟩))
    (first
      | (go_at_call 73; refine (H2.out _ (by assumption)).mono ?_; rintro e w2 ⟨v, rfl, ⟨L, hL, hL2, A9, c9, rfl⟩, hq2⟩))
  all_goals
    rcases hL with ⟨rfl, rfl⟩ | ⟨hL, rfl⟩
    all_goals
      go_wp2
      go_ret
      exact ⟨rfl, hq2.2.2.2⟩

set_option maxHeartbeats 2000000 in
theorem index1_any (p : Int → Bool) (A : Option Addr) (c : Nat) (zs : List Int) (B : Nat) (w : World) (hz : RdI w w.heap.size A zs)
    (hF : ∀ k, k < zs.length → ∀ W : World, Below w.heap.size w W → Calls Tryd.prog 69 #[.int .i64 (zd zs k), .pointer (some ⟨B, 0, none⟩)] W fun e w' => e = .returned (.bool (p (zd zs k))) ∧ Below W.heap.size W w') :
    Calls Tryd.prog 104 #[.slice A zs.length c, .func (.func 69) #[] #[.pointer (some ⟨B, 0, none⟩)]] w fun e w' => (∃ r : Int, e = .returned (.int .i64 r) ∧ (-1 ≤ r ∧ r ≤ 1152921504606846976) ∧ decide (0 ≤ r) = zs.any p) ∧ Below w.heap.size w w' := by
  have hr := hz.room
  have F := Lib.hid hF
  clear hF
  go_enter Tryd.func104, Tryd.ntmps104
  go_wp2_with fail
  go_loopw [8] (fun i wr => ∃ k : Nat, k ≤ zs.length ∧ i = .int .i64 k ∧ Hid ((zs.take k).any p = false) ∧ Below w.heap.size w wr) (fun i _ => zs.length - (intOf i).toNat)
  case atStart => exact ⟨0, Nat.zero_le _, rfl, Lib.hid rfl, Below.refl _ _⟩
  case round =>
    obtain ⟨k, hk, rfl, hno, hb⟩ := hrel
    by_cases hlt : k < zs.length
    · obtain ⟨b, off, rfl, hbb, hc⟩ := hz.rd (by omega)
      have hcx := (hb.cell (p := ⟨b, off + k, none⟩) hbb).trans (hc k hlt)
      clear hc
      have hs := hb.size
      cases hp : p (zd zs k) with
      | true =>
        have HP := Lib.hid hp
        clear hp
        go_wp2_with (first
          | (go_at_call 69; refine (F.out k hlt _ hb).mono ?_; rw [HP.out]; rintro e w2 ⟨rfl, hb2⟩)
          | fail)
        go_ret
        refine ⟨⟨(k : Int), rfl, by omega, ?_⟩, hb.trans (hb2.mono hs)⟩
        have h1 : zs.any p = true := List.any_eq_true.2 ⟨_, zd_mem zs k hlt, HP.out⟩
        rw [h1]
        simp
      | false =>
        have HP := Lib.hid hp
        clear hp
        go_wp2_with (first
          | (go_at_call 69; refine (F.out k hlt _ hb).mono ?_; rw [HP.out]; rintro e w2 ⟨rfl, hb2⟩)
          | fail)
        go_roundw
        case rel =>
          refine ⟨k + 1, by omega, by go_num, Lib.hid ?_, hb.trans (hb2.mono hs)⟩
          rw [take_snoc zs k hlt, List.any_append, hno.out]
          simp [HP.out]
        case measure => simp [intOf]; omega
    · obtain rfl : k = zs.length := by omega
      go_wp2_with fail
      go_ret
      refine ⟨⟨-1, rfl, by omega, ?_⟩, hb⟩
      have := hno.out
      rw [List.take_length] at this
      rw [this]
      rfl
theorem contains1_any (p : Int → Bool) (A : Option Addr) (c : Nat) (zs : List Int) (B : Nat) (w : World) (hz : RdI w w.heap.size A zs)
    (hF : ∀ k, k < zs.length → ∀ W : World, Below w.heap.size w W → Calls Tryd.prog 69 #[.int .i64 (zd zs k), .pointer (some ⟨B, 0, none⟩)] W fun e w' => e = .returned (.bool (p (zd zs k))) ∧ Below W.heap.size W w') :
    Calls Tryd.prog 70 #[.slice A zs.length c, .func (.func 69) #[] #[.pointer (some ⟨B, 0, none⟩)]] w fun e w' => e = .returned (.bool (zs.any p)) ∧ Below w.heap.size w w' := by
  have F := Lib.hid (index1_any p A c zs B w hz hF)
  clear hF
  obtain ⟨R, hR⟩ : ∃ R, R = zs.any p := ⟨_, rfl⟩
  rw [← hR] at F ⊢
  clear hR
  go_enter Tryd.func70, Tryd.ntmps70
  go_wp2_with (first
    | (go_at_call 104; refine F.out.mono ?_; rintro e w2 ⟨⟨r, rfl, hr, hd⟩, hb⟩; subst hd; rcases Int.lt_or_le r 0 with h0 | h0)
    | fail)
  all_goals
    go_ret
    exact ⟨by simp; try omega, hb⟩

set_option maxHeartbeats 2000000 in
theorem index2_any (p : Int → Bool) (A : Option Addr) (c : Nat) (zs : List Int) (B5 B8 : Nat) (w : World) (hz : RdI w w.heap.size A zs)
    (hF : ∀ k, k < zs.length → ∀ W : World, Below w.heap.size w W → Calls Tryd.prog 72 #[.int .i64 (zd zs k), .pointer (some ⟨B5, 0, none⟩), .pointer (some ⟨B8, 0, none⟩)] W fun e w' => e = .returned (.bool (p (zd zs k))) ∧ Below W.heap.size W w') :
    Calls Tryd.prog 104 #[.slice A zs.length c, .func (.func 72) #[] #[.pointer (some ⟨B5, 0, none⟩), .pointer (some ⟨B8, 0, none⟩)]] w fun e w' => (∃ r : Int, e = .returned (.int .i64 r) ∧ (-1 ≤ r ∧ r ≤ 1152921504606846976) ∧ decide (0 ≤ r) = zs.any p) ∧ Below w.heap.size w w' := by
  have hr := hz.room
  have F := Lib.hid hF
  clear hF
  go_enter Tryd.func104, Tryd.ntmps104
  go_wp2_with fail
  go_loopw [8] (fun i wr => ∃ k : Nat, k ≤ zs.length ∧ i = .int .i64 k ∧ Hid ((zs.take k).any p = false) ∧ Below w.heap.size w wr) (fun i _ => zs.length - (intOf i).toNat)
  case atStart => exact ⟨0, Nat.zero_le _, rfl, Lib.hid rfl, Below.refl _ _⟩
  case round =>
    obtain ⟨k, hk, rfl, hno, hb⟩ := hrel
    by_cases hlt : k < zs.length
    · obtain ⟨b, off, rfl, hbb, hc⟩ := hz.rd (by omega)
      have hcx := (hb.cell (p := ⟨b, off + k, none⟩) hbb).trans (hc k hlt)
      clear hc
      have hs := hb.size
      cases hp : p (zd zs k) with
      | true =>
        have HP := Lib.hid hp
        clear hp
        go_wp2_with (first
          | (go_at_call 72; refine (F.out k hlt _ hb).mono ?_; rw [HP.out]; rintro e w2 ⟨rfl, hb2⟩)
          | fail)
        go_ret
        refine ⟨⟨(k : Int), rfl, by omega, ?_⟩, hb.trans (hb2.mono hs)⟩
        have h1 : zs.any p = true := List.any_eq_true.2 ⟨_, zd_mem zs k hlt, HP.out⟩
        rw [h1]
        simp
      | false =>
        have HP := Lib.hid hp
        clear hp
        go_wp2_with (first
          | (go_at_call 72; refine (F.out k hlt _ hb).mono ?_; rw [HP.out]; rintro e w2 ⟨rfl, hb2⟩)
          | fail)
        go_roundw
        case rel =>
          refine ⟨k + 1, by omega, by go_num, Lib.hid ?_, hb.trans (hb2.mono hs)⟩
          rw [take_snoc zs k hlt, List.any_append, hno.out]
          simp [HP.out]
        case measure => simp [intOf]; omega
    · obtain rfl : k = zs.length := by omega
      go_wp2_with fail
      go_ret
      refine ⟨⟨-1, rfl, by omega, ?_⟩, hb⟩
      have := hno.out
      rw [List.take_length] at this
      rw [this]
      rfl
theorem contains2_any (p : Int → Bool) (A : Option Addr) (c : Nat) (zs : List Int) (B5 B8 : Nat) (w : World) (hz : RdI w w.heap.size A zs)
    (hF : ∀ k, k < zs.length → ∀ W : World, Below w.heap.size w W → Calls Tryd.prog 72 #[.int .i64 (zd zs k), .pointer (some ⟨B5, 0, none⟩), .pointer (some ⟨B8, 0, none⟩)] W fun e w' => e = .returned (.bool (p (zd zs k))) ∧ Below W.heap.size W w') :
    Calls Tryd.prog 70 #[.slice A zs.length c, .func (.func 72) #[] #[.pointer (some ⟨B5, 0, none⟩), .pointer (some ⟨B8, 0, none⟩)]] w fun e w' => e = .returned (.bool (zs.any p)) ∧ Below w.heap.size w w' := by
  have F := Lib.hid (index2_any p A c zs B5 B8 w hz hF)
  clear hF
  obtain ⟨R, hR⟩ : ∃ R, R = zs.any p := ⟨_, rfl⟩
  rw [← hR] at F ⊢
  clear hR
  go_enter Tryd.func70, Tryd.ntmps70
  go_wp2_with (first
    | (go_at_call 104; refine F.out.mono ?_; rintro e w2 ⟨⟨r, rfl, hr, hd⟩, hb⟩; subst hd; rcases Int.lt_or_le r 0 with h0 | h0)
    | fail)
  all_goals
    go_ret
    exact ⟨by simp; try omega, hb⟩
end Go.Proofs.YtaboafkpmgadmaaDoor
