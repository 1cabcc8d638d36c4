/-
  Contracts of slices.Grow at a nil slice of ints and of slices.Concat at lists of ints that are not empty.
  DERIVED: THE SHELF's CONTRACTS AT THIS DUMP, IN PLAIN WORDS (tools/lay-plain.mjs out of 'TrydShelf2.lean', which tools/lay-shelf.mjs wrote): THE SAME DECLARATIONS UNDER THE SAME NAMES: 'import', 'namespace', 'open', 'def', 'theorem' AND NOTHING ELSE: no command of the shelf's: FOR A HAND-IN. Each laying: the table of numbers ('.._ren') and one theorem, a field a fact of the dump's own or the kernel's comparison; each contract: ONE APPLICATION.
  slices.Sort and slices.Compact at a slice of ints that the call owns: the library's contracts in the words of a row. No condition but the length.
  GraphRound: the places of a list's numbers; when an order leads onward.
-/
import Derived.Test.YtaboafkpmgadmaaDoorPk02
import Derived.Test.YtaboafkpmgadmaaDoorPk05
import Derived.Test.YtaboafkpmgadmaaDoorPk17
import Derived.Lib.AppendZerosOnto
import Derived.Lib.SliceRun
import Derived.Shelf.Sort.Plain
import Derived.Shelf.Slices.Equal
import Derived.Ground.Names2Prog
import Derived.Shelf.Slices.Clone
import Derived.Shelf.Slices.CompactI
import Derived.Shelf.Slices.In.SortNone
import Derived.Shelf.Slices.Empties2
import Derived.Test.YtaboafkpmgadmaaDoorProg
import Derived.Test.YtaboafkpmgadmaaDoorPk15
import Derived.Sort.OwnSortedInts
import Derived.Maps.OwnOps
import Derived.Maps.Views
namespace Go.Proofs.YtaboafkpmgadmaaDoor
open Go.RowKit Go.Shelf Go.Lib
set_option maxRecDepth 100000

theorem infoInt' : (Tryd.prog.info? 3).map (fun i => (i.zero, i.size, i.bytes)) = some (some (.int .i64 0), 1, 8) := by kernel_rfl
set_option maxHeartbeats 2000000 in
theorem grow_nil (n : Nat) (hn : n ≤ 1048576) (w : World) :
    Calls Tryd.prog 79 #[.slice none 0 0, .int .i64 (n : Int)] w fun e w' => ∃ v, e = .returned v ∧ w'.ownsRow w.heap.size 3 1 v 0 [] ∧ Below w.heap.size w w' := by
  obtain ⟨i0, hi, hz0, hz1, hz2⟩ := info_parts infoInt'
  have h1 : ¬ ((n : Int) < 0) := by omega
  rcases Nat.eq_zero_or_pos n with h0 | h0
  · subst h0
    go_enter Tryd.func79, Tryd.ntmps79
    go_wp2_with fail
    go_ret
    exact ⟨_, rfl, World.ownsRow_nil _ _ _ _, Below.refl _ _⟩
  · have hold : (Builtin.firstCells i0.size 0 (.slice none 0 0)).run Tryd.prog w.drew = .ok ([] : List Value).toArray w.drew := run_firstCells_none w.drew i0.size 0 0 0
    have hrz : ∀ ty, (Builtin.append_ #[25, 3] ty #[.slice none 0 0, .int .i64 (n : Int)]).run Tryd.prog w =
        .ok (.slice (some ⟨w.heap.size, 0, none⟩) n (grownCap w n 0 3)) (w.drew.alloc (.cells (#[] ++ Builtin.zeroCells (Value.int .i64 0).cells n ++ Builtin.zeroCells (Value.int .i64 0).cells (grownCap w n 0 3 - n)) 3)) := fun ty => by
      have h := Lib.run_append_grow_zeros w 25 3 ty 3 i0 (.int .i64 0) .i64 .i64 Tryd.underlying25 Tryd.underlying3 hi hz0 none 0 0 [] hold n h0 (by omega) (by omega) (by omega) (by rw [hz2]; omega) (growslice_fits (by omega) (by rw [hz2]; omega))
      simpa using h
    have hGn : n ≤ grownCap w n 0 3 := grownCap_ge w _ _ _
    have hG63 := grownCap_le_maxLen w n 0 3 (by unfold maxLen; omega)
    have hsz : (#[] ++ Builtin.zeroCells (Value.int .i64 0).cells n ++ Builtin.zeroCells (Value.int .i64 0).cells (grownCap w n 0 3 - n)).size = grownCap w n 0 3 * 1 := by
      simp [Builtin.zeroCells, Value.cells]
      omega
    obtain ⟨G, hG⟩ : ∃ G, G = grownCap w n 0 3 := ⟨_, rfl⟩
    obtain ⟨cs, hcs⟩ : ∃ cs, cs = #[] ++ Builtin.zeroCells (Value.int .i64 0).cells n ++ Builtin.zeroCells (Value.int .i64 0).cells (grownCap w n 0 3 - n) := ⟨_, rfl⟩
    rw [← hcs] at hrz hsz
    rw [← hG] at hrz hsz hGn hG63
    have H1 := Lib.hid hsz
    have H2 := Lib.hid hG63
    have hG1 : (n : Int) ≤ (G : Int) := by omega
    have hn0 : (0 : Int) < (n : Int) := by omega
    have hg0 : 0 ≤ G := Nat.zero_le _
    clear hold hG hcs hsz hG63 hi hz0 hz1 hz2
    go_enter Tryd.func79, Tryd.ntmps79
    go_wp2_with (at_builtin; refine Lib.wpList_append_run _ rfl _ _ _ _ rfl _ _ rfl rfl _ _ (hrz _) ?_)
    go_ret
    refine ⟨_, rfl, World.ownsRow_made w.drew cs G (Nat.le_refl _) H2.out H1.out, (Below.refl _ w).drew.alloc (Nat.le_refl _) _⟩

theorem RdII.at_ {w : World} {B : Nat} {A : Option Addr} {zss : List (List Int)} (h : RdII w B A zss) {k : Nat} (hk : k < zss.length) : ∃ b off A' c, A = some ⟨b, off, none⟩ ∧ b < B ∧ w.cell? ⟨b, off + k, none⟩ = some (.slice A' (zss.getD k []).length c) ∧ RdI w B A' (zss.getD k []) := by
  obtain ⟨h1, a, c, h2, h3⟩ := h
  obtain ⟨b, off, hA, hb, hc⟩ := h2 (by omega)
  exact ⟨b, off, a k, c k, hA, hb, hc k hk, h3 k hk⟩
theorem RdII.keep {w w' : World} {B : Nat} {A : Option Addr} {zss : List (List Int)} (h : RdII w B A zss) (hk : ∀ b o, b < B → w'.cell? ⟨b, o, none⟩ = w.cell? ⟨b, o, none⟩) : RdII w' B A zss := by
  obtain ⟨h1, a, c, h2, h3⟩ := h
  exact ⟨h1, a, c, h2.keep hk, fun k hk' => (h3 k hk').keep hk⟩
theorem RdII.step {w w' : World} {A : Option Addr} {zss : List (List Int)} (h : RdII w w.heap.size A zss) (hb : Below w.heap.size w w') : RdII w' w'.heap.size A zss := by
  obtain ⟨h1, a, c, h2, h3⟩ := h.keep fun b o hlt => hb.cell (p := ⟨b, o, none⟩) hlt
  exact ⟨h1, a, c, h2.more hb.size, fun k hk' => (h3 k hk').more hb.size⟩
/-- the first k lists in a row -/
def ftk (zss : List (List Int)) (k : Nat) : List Int := (zss.take k).flatten
theorem ftk_next {zss : List (List Int)} {k : Nat} (h : k < zss.length) : ftk zss (k + 1) = ftk zss k ++ zss.getD k [] := by
  unfold ftk
  rw [List.take_succ_eq_append_getElem h, List.flatten_append]
  simp [List.getD, h]
theorem ftk_le (zss : List (List Int)) {k : Nat} (_hk : k ≤ zss.length) : (ftk zss k).length ≤ (ftk zss zss.length).length := by
  unfold ftk
  rw [List.take_length]
  have h := List.take_append_drop k zss
  have h2 := congrArg (fun l => l.flatten.length) h
  simp only [List.flatten_append, List.length_append] at h2
  omega
theorem ftk_all (zss : List (List Int)) : ftk zss zss.length = zss.flatten := by unfold ftk; rw [List.take_length]
theorem iVals_app (a b : List Int) : iVals (a ++ b) = iVals a ++ iVals b := by unfold iVals; simp

set_option maxHeartbeats 4000000 in
theorem concat_any (A : Option Addr) (c : Nat) (zss : List (List Int)) (w : World) (hx : RdII w w.heap.size A zss) (ht : (ftk zss zss.length).length ≤ 1048576) (hne : ∀ k, k < zss.length → 0 < (zss.getD k []).length) :
    Calls Tryd.prog 43 #[.slice A zss.length c] w fun e w' => ∃ v, e = .returned v ∧ w'.ownsRow w.heap.size 3 1 v (ftk zss zss.length).length (iVals (ftk zss zss.length)) ∧ Below w.heap.size w w' := by
  obtain ⟨i0, hi, hz0, hz1, hz2⟩ := info_parts infoInt'
  have hroom := hx.room
  have HNE := Lib.hid hne
  clear hne
  go_enter Tryd.func43, Tryd.ntmps43
  go_wp2_with fail
  go_loop [11, 3] (fun i s => ∃ k : Nat, k ≤ zss.length ∧ i = .int .i64 k ∧ s = .int .i64 ((ftk zss k).length : Nat)) (fun i _ => zss.length - (intOf i).toNat)
  case atStart => exact ⟨0, Nat.zero_le _, rfl, rfl⟩
  case round =>
    obtain ⟨k, hk, rfl, rfl⟩ := hrel
    by_cases hkm : k < zss.length
    · obtain ⟨b, off, A', c', rfl, hb, hc, hr⟩ := hx.at_ hkm
      have hnx := ftk_next hkm
      have hl1 := ftk_le zss hk
      have hl2 := ftk_le zss (k := k + 1) (by omega)
      have hln : (ftk zss (k + 1)).length = (ftk zss k).length + (zss.getD k []).length := by rw [hnx, List.length_append]
      have HLN := Lib.hid hln
      obtain ⟨q, hq⟩ : ∃ q, q = (zss.getD k []).length := ⟨_, rfl⟩
      obtain ⟨s, hs⟩ : ∃ s, s = (ftk zss k).length := ⟨_, rfl⟩
      have hsq : s + q ≤ 1048576 := by omega
      rw [← hq] at hc
      rw [← hs]
      have HS := Lib.hid (show (ftk zss (k + 1)).length = s + q by omega)
      have s0 : (0 : Int) ≤ (s : Int) := Int.natCast_nonneg _
      have q0 : (0 : Int) ≤ (q : Int) := Int.natCast_nonneg _
      have sq : (s : Int) + (q : Int) ≤ 1048576 := by omega
      have sn : ¬ ((s : Int) + (q : Int) < 0) := by omega
      clear hnx hl1 hl2 hln hq hs hr
      go_wp2_with fail
      go_round
      case rel => exact ⟨k + 1, by omega, by go_num, by rw [HS.out]; go_num⟩
      case measure => simp [intOf]; omega
    · obtain rfl : k = zss.length := by omega
      have hG := grow_nil (ftk zss zss.length).length ht w
      have HG := Lib.hid hG
      clear hG
      go_wp2_with (go_at_call 79; refine HG.out.mono ?_; rintro e w1 ⟨v1, rfl, ho1, hb1⟩)
      go_loopw [27, 6] (fun i v wr => ∃ k : Nat, k ≤ zss.length ∧ i = .int .i64 k ∧ wr.ownsRow w.heap.size 3 1 v (ftk zss k).length (iVals (ftk zss k)) ∧ Below w.heap.size w wr) (fun i _ _ => zss.length - (intOf i).toNat)
      case atStart => exact ⟨0, Nat.zero_le _, rfl, ho1, hb1⟩
      case round =>
        obtain ⟨k, hk, rfl, hown, hbr⟩ := hrel
        clear ho1 hb1
        by_cases hkm : k < zss.length
        · obtain ⟨b, off, A', c', rfl, hb, hc, hr⟩ := hx.at_ hkm
          have hcw := (hbr.cell (p := ⟨b, off + k, none⟩) hb).trans hc
          have hp := HNE.out k hkm
          obtain ⟨b2, off2, rfl, hb2, hc2⟩ := hr.rd hp
          have hl2 := ftk_le zss (k := k + 1) (by omega)
          have hnx := ftk_next hkm
          have hln : (ftk zss (k + 1)).length = (ftk zss k).length + (zss.getD k []).length := by rw [hnx, List.length_append]
          have hsz := hbr.size
          have h3 : (ftk zss k).length + (zss.getD k []).length ≤ maxLen := by unfold maxLen; omega
          have h4 : ((ftk zss k).length + (zss.getD k []).length) * 8 ≤ 140737488355328 := by omega
          have hnews : ∀ (j : Nat) (u : Value), (iVals (zss.getD k []))[j]? = some u → wr.cell? (Addr.add ⟨b2, off2, none⟩ j) = some u := fun j u hj => by
            have hjl : j < (zss.getD k []).length := by
              have := (List.getElem?_eq_some_iff.1 hj).1
              simpa [iVals] using this
            rw [Addr.add_lit, hbr.cell (p := ⟨b2, off2 + j, none⟩) hb2, hc2 j hjl, ← hj]
            exact (iVals_at _ j hjl).symm
          have hone : ∀ u ∈ iVals (zss.getD k []), u.oneCell' = true := fun u hu => by
            unfold iVals at hu
            obtain ⟨z, _, rfl⟩ := List.mem_map.1 hu
            rfl
          have HNX := Lib.hid hnx
          have HLN := Lib.hid hln
          have HN := Lib.hid hnews
          have HO := Lib.hid hone
          obtain ⟨L, hL⟩ : ∃ L, L = zss.getD k [] := ⟨_, rfl⟩
          rw [← hL] at hcw h3 h4 hp HNX HLN HN HO
          have hil : (iVals L).length = L.length * 1 := by unfold iVals; simp
          clear hc hr hc2 hl2 hnx hln hnews hone hL
          go_wp2_with (at_builtin; refine wpList_append_own _ rfl _ _ 25 rfl w.heap.size 3 i0 (.int .i64 0) 1 8 Tryd.underlying25 hi hz0 hz1 hz2 rfl (by decide) _ _ _ rfl hown ⟨b2, off2, none⟩ L.length c' (iVals L) rfl hil HN.out HO.out h3 h4 hsz ?_; intro v' wa hown' hgrow _)
          rw [← iVals_app, ← HNX.out, ← HLN.out] at hown'
          have hB1 := hbr.grown hgrow hsz (own_base hown)
          clear hgrow
          go_roundw
          case rel => exact ⟨k + 1, by omega, by go_num, hown', hB1⟩
          case measure => simp [intOf]; omega
        · obtain rfl : k = zss.length := by omega
          go_wp2_with fail
          go_ret
          exact ⟨_, rfl, hown, hbr⟩
end Go.Proofs.YtaboafkpmgadmaaDoor

namespace Go.Proofs
open Go.Shelf
def Tryd.lays189_ren : Go.Shelf.Ren := ⟨fun | 189 => 22 | 125 => 60 | 257 => 59 | 128 => 97 | 129 => 98 | 294 => 88 | 295 => 89 | 296 => 90 | 297 => 91 | 298 => 92 | 299 => 93 | 216 => 94 | 300 => 95 | 301 => 96 | 328 => 110 | 329 => 111 | 330 => 112 | 331 => 113 | 332 => 114 | 215 => 115 | 343 => 120 | n => n, fun | 28 => 25 | 3 => 3 | 46 => 82 | 0 => 0 | 51 => 114 | 53 => 54 | 4 => 4 | 183 => 107 | 182 => 106 | 131 => 111 | 5 => 5 | 9 => 9 | 218 => 122 | 222 => 126 | 228 => 133 | 229 => 134 | n => n, fun | n => n⟩
theorem Tryd.lays189 : Go.Proofs.Lays.n189 Tryd.prog Tryd.lays189_ren := {
  mixed := by kernel_rfl
  f125 := Tryd.func60.trans (congrArg some (by kernel_rfl))
  f128 := Tryd.func97.trans (congrArg some (by kernel_rfl))
  f129 := Tryd.func98.trans (congrArg some (by kernel_rfl))
  f189 := Tryd.func22.trans (congrArg some (by kernel_rfl))
  f215 := Tryd.func115.trans (congrArg some (by kernel_rfl))
  f216 := Tryd.func94.trans (congrArg some (by kernel_rfl))
  f257 := Tryd.func59.trans (congrArg some (by kernel_rfl))
  f294 := Tryd.func88.trans (congrArg some (by kernel_rfl))
  f295 := Tryd.func89.trans (congrArg some (by kernel_rfl))
  f296 := Tryd.func90.trans (congrArg some (by kernel_rfl))
  f297 := Tryd.func91.trans (congrArg some (by kernel_rfl))
  f298 := Tryd.func92.trans (congrArg some (by kernel_rfl))
  f299 := Tryd.func93.trans (congrArg some (by kernel_rfl))
  f300 := Tryd.func95.trans (congrArg some (by kernel_rfl))
  f301 := Tryd.func96.trans (congrArg some (by kernel_rfl))
  f328 := Tryd.func110.trans (congrArg some (by kernel_rfl))
  f329 := Tryd.func111.trans (congrArg some (by kernel_rfl))
  f330 := Tryd.func112.trans (congrArg some (by kernel_rfl))
  f331 := Tryd.func113.trans (congrArg some (by kernel_rfl))
  f332 := Tryd.func114.trans (congrArg some (by kernel_rfl))
  f343 := Tryd.func120.trans (congrArg some (by kernel_rfl))
  t0 := Tryd.underlying0
  a0 := Tryd.isAgg0
  z0 := Tryd.sizeOf0
  v0 := Tryd.zeroValue0
  t3 := Tryd.underlying3
  a3 := Tryd.isAgg3
  z3 := Tryd.sizeOf3
  v3 := Tryd.zeroValue3
  t4 := Tryd.underlying4
  a4 := Tryd.isAgg4
  z4 := Tryd.sizeOf4
  v4 := Tryd.zeroValue4
  t5 := Tryd.underlying5
  a5 := Tryd.isAgg5
  z5 := Tryd.sizeOf5
  v5 := Tryd.zeroValue5
  t9 := Tryd.underlying9
  a9 := Tryd.isAgg9
  z9 := Tryd.sizeOf9
  v9 := Tryd.zeroValue9
  t28 := Tryd.underlying25
  a28 := Tryd.isAgg25
  z28 := Tryd.sizeOf25
  v28 := Tryd.zeroValue25
  t46 := Tryd.underlying82
  a46 := Tryd.isAgg82
  z46 := Tryd.sizeOf82
  v46 := Tryd.zeroValue82
  t51 := Tryd.underlying114
  a51 := Tryd.isAgg114
  z51 := Tryd.sizeOf114
  v51 := Tryd.zeroValue114
  t53 := Tryd.underlying54
  a53 := Tryd.isAgg54
  z53 := Tryd.sizeOf54
  v53 := Tryd.zeroValue54
  t131 := Tryd.underlying111
  a131 := Tryd.isAgg111
  z131 := Tryd.sizeOf111
  v131 := Tryd.zeroValue111
  t182 := Tryd.underlying106
  a182 := Tryd.isAgg106
  z182 := Tryd.sizeOf106
  v182 := Tryd.zeroValue106
  t183 := Tryd.underlying107
  a183 := Tryd.isAgg107
  z183 := Tryd.sizeOf107
  v183 := Tryd.zeroValue107
  t218 := Tryd.underlying122
  a218 := Tryd.isAgg122
  z218 := Tryd.sizeOf122
  v218 := Tryd.zeroValue122
  t222 := Tryd.underlying126
  a222 := Tryd.isAgg126
  z222 := Tryd.sizeOf126
  v222 := Tryd.zeroValue126
  t228 := Tryd.underlying133
  a228 := Tryd.isAgg133
  z228 := Tryd.sizeOf133
  v228 := Tryd.zeroValue133
  t229 := Tryd.underlying134
  a229 := Tryd.isAgg134
  z229 := Tryd.sizeOf134
  v229 := Tryd.zeroValue134 }
open Go.Sort Go.RowKit in
theorem Tryd.slices_Sort_int (blk off cap : Nat) (zs : List Int) (w : World) (hH : Holds (Value.int .i64) w blk off zs.toArray) (hblk : blk < w.heap.size) (hsz : zs.length < 4611686018427387904) :
    Calls Tryd.prog 22 #[.slice (some ⟨blk, off, none⟩) zs.length cap] w fun e w' =>
      e = .returned (.tuple #[]) ∧ ∃ n os, w' = grow (putRow (Value.int .i64) (Sort.ahead w n) blk off (zs.mergeSort fun x y => decide (x ≤ y)).toArray) os := Any.slices_Sort_int Tryd.lays189 blk off cap zs w hH hblk hsz
def Tryd.lays111_ren : Go.Shelf.Ren := ⟨fun | 111 => 17 | n => n, fun | 28 => 25 | 3 => 3 | 4 => 4 | 0 => 0 | n => n, fun | n => n⟩
theorem Tryd.lays111 : Go.Proofs.Lays.n111 Tryd.prog Tryd.lays111_ren := {
  mixed := by kernel_rfl
  f111 := Tryd.func17.trans (congrArg some (by kernel_rfl))
  t0 := Tryd.underlying0
  a0 := Tryd.isAgg0
  z0 := Tryd.sizeOf0
  v0 := Tryd.zeroValue0
  t3 := Tryd.underlying3
  a3 := Tryd.isAgg3
  z3 := Tryd.sizeOf3
  v3 := Tryd.zeroValue3
  t4 := Tryd.underlying4
  a4 := Tryd.isAgg4
  z4 := Tryd.sizeOf4
  v4 := Tryd.zeroValue4
  t28 := Tryd.underlying25
  a28 := Tryd.isAgg25
  z28 := Tryd.sizeOf25
  v28 := Tryd.zeroValue25 }
open Go.RowKit Go.Lib in
/-- slices.Equal at []int: "Equal reports whether two slices are equal: the same length and all elements equal. If the lengths are different, Equal returns false. Otherwise, the elements are compared in increasing index order, and the comparison stops at the first unequal pair. Empty and nil slices are considered equal.": IT RETURNS WHETHER THE TWO LISTS OF ELEMENTS ARE ONE; the world is as it was but for the count of draws (the test 's1[i] != s2[i]' has two reads, whose order the model draws, once a round). 'xs', 'ys': what the cells behind the two addresses hold (the spare capacity too, if you have it); 'xs.take n', 'ys.take m': the elements. THE TWO SLICES MAY OVERLAP. (LAID: no walk: one application.) -/
theorem Tryd.slices_Equal_int (b1 o1 n c b2 o2 m d : Nat) (xs ys : List Int) (w : World) (hx : n ≤ xs.length) (hy : m ≤ ys.length) (hbig : n ≤ 9223372036854775807) (hbig2 : m ≤ 9223372036854775807) (hc1 : ∀ j, j < xs.length → w.cell? ⟨b1, o1 + j, none⟩ = some (.int .i64 (xs.getD j 0))) (hc2 : ∀ j, j < ys.length → w.cell? ⟨b2, o2 + j, none⟩ = some (.int .i64 (ys.getD j 0))) :
    Calls Tryd.prog 17 #[.slice (some ⟨b1, o1, none⟩) n c, .slice (some ⟨b2, o2, none⟩) m d] w fun e w' => e = .returned (.bool (xs.take n == ys.take m)) ∧ ∃ q, w' = w.drewN q := Any.slices_Equal_int Tryd.lays111 b1 o1 n c b2 o2 m d xs ys w hx hy hbig hbig2 hc1 hc2
open Go.RowKit Go.Lib in
/-- The same where the first is of length 0 (a nil one too): no cell is asked for. (LAID: no walk: one application.) -/
theorem Tryd.slices_Equal_int_empty (a1 a2 : Option Addr) (c m d : Nat) (w : World) (hbig2 : m ≤ 9223372036854775807) :
    Calls Tryd.prog 17 #[.slice a1 0 c, .slice a2 m d] w fun e w' => e = .returned (.bool (decide (m = 0))) ∧ w' = w := Any.slices_Equal_int_empty Tryd.lays111 a1 a2 c m d w hbig2
def Tryd.laysNm215_ren : Go.Shelf.Ren := ⟨fun | 15 => 21 | n => n, fun | 22 => 25 | 3 => 3 | 4 => 4 | n => n, fun | n => n⟩
theorem Tryd.laysNm215 : Go.Proofs.Lays2.n15 Tryd.prog Tryd.laysNm215_ren := {
  mixed := by kernel_rfl
  f15 := Tryd.func21.trans (congrArg some (by kernel_rfl))
  t3 := Tryd.underlying3
  a3 := Tryd.isAgg3
  z3 := Tryd.sizeOf3
  v3 := Tryd.zeroValue3
  t4 := Tryd.underlying4
  a4 := Tryd.isAgg4
  z4 := Tryd.sizeOf4
  v4 := Tryd.zeroValue4
  t22 := Tryd.underlying25
  a22 := Tryd.isAgg25
  z22 := Tryd.sizeOf25
  v22 := Tryd.zeroValue25
  i3 := by kernel_rfl }
open Go.RowKit Go.Lib in
/-- slices.Clone at []int: "Clone returns a copy of the slice. The elements are copied using assignment, so this is a shallow clone. The result may have additional unused capacity. The result preserves the nilness of s.": OF A SLICE THAT IS NOT nil IT RETURNS A SLICE THAT IS NOT nil, OF THE SAME ELEMENTS, IN MEMORY OF THE CALL's OWN: in the how-to's words (6f): 'w'.ownsRow B e 1 v' n cells': v' begins at the head of a row among the blocks from B on (B: the heap's size at the call), not frozen, whose first cells are the elements · 'Below B w w'': below B all is as it was. The capacity is whatever the run-time gives. 'zs': what the cells behind the slice's address hold; 'zs.take n': its elements. (LAID: no walk: one application.) -/
theorem Tryd.slices_Clone_int (b off n c : Nat) (zs : List Int) (w : World) (hz : n ≤ zs.length) (hbig : n * 8 ≤ 140737488355328) (hc : ∀ j, j < zs.length → w.cell? ⟨b, off + j, none⟩ = some (.int .i64 (zs.getD j 0))) :
    Calls Tryd.prog 21 #[.slice (some ⟨b, off, none⟩) n c] w fun e w' => ∃ v', e = .returned v' ∧ w'.ownsRow w.heap.size 3 1 v' n ((zs.take n).map (Value.int .i64)) ∧ v' ≠ .slice none 0 0 ∧ Below w.heap.size w w' := Any.slices_Clone_int Tryd.laysNm215 b off n c zs w hz hbig hc
open Go.RowKit Go.Lib in
/-- The same at nil: nil comes back; the world is as it was. (LAID: no walk: one application.) -/
theorem Tryd.slices_Clone_int_nil (n c : Nat) (w : World) :
    Calls Tryd.prog 21 #[.slice none n c] w fun e w' => e = .returned (.slice none 0 0) ∧ w' = w := Any.slices_Clone_int_nil Tryd.laysNm215 n c w
open Go.RowKit Go.Lib in
/-- The same at a slice of length 0 that is not nil, WHATEVER ITS ADDRESS (no cell is asked for): a slice that is not nil and owns nothing comes back. (LAID: no walk: one application.) -/
theorem Tryd.slices_Clone_int_zero (a : Addr) (c : Nat) (w : World) :
    Calls Tryd.prog 21 #[.slice (some a) 0 c] w fun e w' => ∃ v', e = .returned v' ∧ w'.ownsRow w.heap.size 3 1 v' 0 [] ∧ v' ≠ .slice none 0 0 ∧ Below w.heap.size w w' := Any.slices_Clone_int_zero Tryd.laysNm215 a c w
def Tryd.laysNm220_ren : Go.Shelf.Ren := ⟨fun | 20 => 86 | n => n, fun | 22 => 25 | 3 => 3 | 4 => 4 | 0 => 0 | n => n, fun | n => n⟩
theorem Tryd.laysNm220 : Go.Proofs.Lays2.n20 Tryd.prog Tryd.laysNm220_ren := {
  mixed := by kernel_rfl
  f20 := Tryd.func86.trans (congrArg some (by kernel_rfl))
  t0 := Tryd.underlying0
  a0 := Tryd.isAgg0
  z0 := Tryd.sizeOf0
  v0 := Tryd.zeroValue0
  t3 := Tryd.underlying3
  a3 := Tryd.isAgg3
  z3 := Tryd.sizeOf3
  v3 := Tryd.zeroValue3
  t4 := Tryd.underlying4
  a4 := Tryd.isAgg4
  z4 := Tryd.sizeOf4
  v4 := Tryd.zeroValue4
  t22 := Tryd.underlying25
  a22 := Tryd.isAgg25
  z22 := Tryd.sizeOf25
  v22 := Tryd.zeroValue25
  i3 := by kernel_rfl }
open Go.RowKit Go.Lib Go.Sort in
/-- slices.Compact at []int: "Compact replaces consecutive runs of equal elements with a single copy. This is like the uniq command found on Unix. Compact modifies the contents of the slice s and returns the modified slice, which may have a smaller length. Compact zeroes the elements between the new length and the original length. The result preserves the nilness of s.": IT RETURNS THE SLICE CUT TO 'Lib.compact zs'; ITS CELLS HOLD 'Lib.compact zs', THEN ZERO VALUES up to the old length; all else is as it was, but for the count of draws. IN THE WORDS OF slices.Sort's CONTRACT ('Holds', 'putRow'): so the everyday 'slices.Sort(xs); xs = slices.Compact(xs)' goes from the one contract to the other. It asks 'zs.length ≤ cap' (every slice's: the reslicing 's[:k]' looks at it). Length 0, nil: '.._empty'. (LAID: no walk: one application.) -/
theorem Tryd.slices_Compact_int (blk off cap : Nat) (zs : List Int) (w : World) (hH : Holds (Value.int .i64) w blk off zs.toArray) (hsz : zs.length ≤ 9223372036854775807) (hcap : zs.length ≤ cap) :
    Calls Tryd.prog 86 #[.slice (some ⟨blk, off, none⟩) zs.length cap] w fun e w' => e = .returned (.slice (some ⟨blk, off, none⟩) (Lib.compact zs).length cap) ∧ ∃ q, w' = putRow (Value.int .i64) (Sort.ahead w q) blk off (Lib.compact zs ++ List.replicate (zs.length - (Lib.compact zs).length) 0).toArray := Any.slices_Compact_int Tryd.laysNm220 blk off cap zs w hH hsz hcap
open Go.RowKit Go.Lib Go.Sort in
/-- The same at a slice of length 0, a nil one too: it comes back as it is. (LAID: no walk: one application.) -/
theorem Tryd.slices_Compact_int_empty (a : Option Addr) (cap : Nat) (w : World) :
    Calls Tryd.prog 86 #[.slice a 0 cap] w fun e w' => e = .returned (.slice a 0 cap) ∧ w' = w := Any.slices_Compact_int_empty Tryd.laysNm220 a cap w
open Go.RowKit Go.Sort in
/-- .. and plain. (LAID: no walk: one application.) -/
theorem Tryd.slices_Sort_int_none (p : Option Addr) (cap : Nat) (w : World) :
    Calls Tryd.prog 22 #[.slice p 0 cap] w fun e w' => e = .returned (.tuple #[]) ∧ w' = w := Any.slices_Sort_int_none Tryd.lays189 p cap w
open Go.RowKit Go.Lib in
theorem Tryd.slices_Equal_int_lens (a1 a2 : Option Addr) (n c m d : Nat) (w : World) (hnm : n ≠ m) :
    Calls Tryd.prog 17 #[.slice a1 n c, .slice a2 m d] w fun e w' => e = .returned (.bool false) ∧ w' = w := Any.slices_Equal_int_lens Tryd.lays111 a1 a2 n c m d w hnm
end Go.Proofs

namespace Go.Proofs.YtaboafkpmgadmaaDoor
open Go.RowKit Go.Sort

/-- sorted -/
def srt (zs : List Int) : List Int := zs.mergeSort fun x y => decide (x ≤ y)
theorem srt_len (zs : List Int) : (srt zs).length = zs.length := List.length_mergeSort _
theorem grow_none (w : World) : grow w #[] = w := by simp [grow]

theorem sortI_any (v : Value) (zs : List Int) (base : Nat) (w : World) (h : w.ownsRow base 3 1 v zs.length (iVals zs)) (hb : base ≤ w.heap.size) (hl : zs.length ≤ 4294967296) :
    Calls Tryd.prog 22 #[v] w fun e w' => (∃ r, e = .returned r) ∧ w'.ownsRow base 3 1 v (srt zs).length (iVals (srt zs)) ∧ Below base w w' := by
  rcases Nat.eq_zero_or_pos zs.length with h0 | hp
  · obtain rfl : zs = [] := List.length_eq_zero_iff.1 h0
    obtain ⟨A, c, rfl⟩ := own_any h
    refine (Tryd.slices_Sort_int_none A c w).mono ?_
    rintro e w' ⟨rfl, rfl⟩
    exact ⟨⟨_, rfl⟩, by simpa [srt] using h, Below.refl _ _⟩
  · have h' := h
    rcases h'.2 with ⟨rfl, h0⟩ | ⟨g, cap, cur, rfl, hg, hcur, h1, h2, h3, h4⟩
    · omega
    · have ht : cur.toList.take zs.length = zs.map (Value.int .i64) := by simpa [iVals] using h4
      have hglt : g < w.heap.size := (Array.getElem?_eq_some_iff.1 hcur).1
      refine (Tryd.slices_Sort_int g 0 cap zs w (holds_of_blockI hcur ht) hglt (by omega)).mono ?_
      rintro e w' ⟨rfl, n, os, rfl⟩
      have hown := ownsRow_sortedI (w := w) (base := base) (n := n) (os := os) (ss := zs) (ts := srt zs) (srt_len zs) hg hcur h1 h2 h3
      refine ⟨⟨_, rfl⟩, ?_, (Below.refl base w).grown (grownBy_sortedI (srt zs).toArray) hb (fun k e => by cases e; exact hg)⟩
      rw [srt_len]
      exact hown

/-- without repetitions -/
def cpt (zs : List Int) : List Int := Lib.compact zs
theorem cpt_len (zs : List Int) : (cpt zs).length ≤ zs.length := by
  unfold cpt Lib.compact Lib.compactUpTo
  rw [List.length_map]
  exact Nat.le_trans (List.length_filter_le _ _) (by simp)

theorem compact_any (v : Value) (zs : List Int) (base : Nat) (w : World) (h : w.ownsRow base 3 1 v zs.length (iVals zs)) (hb : base ≤ w.heap.size) (hl : zs.length ≤ 4294967296) :
    Calls Tryd.prog 86 #[v] w fun e w' => ∃ v', e = .returned v' ∧ w'.ownsRow base 3 1 v' (cpt zs).length (iVals (cpt zs)) ∧ Below base w w' := by
  rcases Nat.eq_zero_or_pos zs.length with h0 | hp
  · obtain rfl : zs = [] := List.length_eq_zero_iff.1 h0
    obtain ⟨A, c, rfl⟩ := own_any h
    refine (Tryd.slices_Compact_int_empty A c w).mono ?_
    rintro e w' ⟨rfl, rfl⟩
    exact ⟨_, rfl, by simpa [cpt, Lib.compact, Lib.compactUpTo] using h, Below.refl _ _⟩
  · have h' := h
    rcases h'.2 with ⟨rfl, h0⟩ | ⟨g, cap, cur, rfl, hg, hcur, h1, h2, h3, h4⟩
    · omega
    · have ht : cur.toList.take zs.length = zs.map (Value.int .i64) := by simpa [iVals] using h4
      have hcl := cpt_len zs
      refine (Tryd.slices_Compact_int g 0 cap zs w (holds_of_blockI hcur ht) (by omega) h1).mono ?_
      rintro e w' ⟨rfl, q, rfl⟩
      have hfull : (cpt zs ++ List.replicate (zs.length - (cpt zs).length) 0).length = zs.length := by simp; omega
      have e0 := grow_none (putRow (Value.int .i64) (Sort.ahead w q) g 0 (Lib.compact zs ++ List.replicate (zs.length - (Lib.compact zs).length) 0).toArray)
      have hheap := heap_sortedI (w := w) (n := q) (os := #[]) (cpt zs ++ List.replicate (zs.length - (cpt zs).length) 0).toArray hcur
      have hgr := grownBy_sortedI (w := w) (g := g) (n := q) (os := #[]) (cpt zs ++ List.replicate (zs.length - (cpt zs).length) 0).toArray
      have htk := take_putCellsI cur (cpt zs ++ List.replicate (zs.length - (cpt zs).length) 0) (by rw [hfull]; omega)
      rw [hfull] at htk
      unfold cpt at hheap hgr
      rw [e0] at hheap hgr
      refine ⟨_, rfl, ⟨by rw [iVals_len, Nat.mul_one], .inr ⟨g, cap, _, rfl, hg, hheap, by unfold cpt; unfold cpt at hcl; omega, h2, by simp [putCells, h3], ?_⟩⟩, (Below.refl base w).grown hgr hb (fun k e => by cases e; exact hg)⟩
      have ht2 := congrArg (List.take (cpt zs).length) htk
      rw [List.take_take, Nat.min_eq_left hcl, List.map_append, List.take_left' (by simp)] at ht2
      rw [Nat.mul_one]
      exact ht2
end Go.Proofs.YtaboafkpmgadmaaDoor

namespace Go.Proofs.YtaboafkpmgadmaaDoor
open Go.RowKit Go.Shelf Go.Maps
set_option maxRecDepth 100000

/-- one more than the last place of n among the first k; 0 where it is not there -/
def posN (zs : List Int) (n : Int) : Nat → Nat
  | 0 => 0
  | k + 1 => if zd zs k = n then k + 1 else posN zs n k
theorem posN_le (zs : List Int) (n : Int) : ∀ k, posN zs n k ≤ k
  | 0 => Nat.le_refl _
  | k + 1 => by unfold posN; split; exact Nat.le_refl _; exact Nat.le_trans (posN_le zs n k) (Nat.le_succ _)
theorem posN_at {zs : List Int} {n : Int} {i : Nat} (hz : zd zs i = n) : ∀ k, i < k → (∀ j, i < j → j < k → zd zs j ≠ n) → posN zs n k = i + 1
  | 0, h, _ => by omega
  | k + 1, h, hn => by
    unfold posN
    by_cases e : zd zs k = n
    · rw [if_pos e]
      have : ¬ i < k := fun hlt => hn k hlt (by omega) e
      omega
    · rw [if_neg e]
      have : i ≠ k := fun h' => e (h' ▸ hz)
      exact posN_at hz k (by omega) fun j h1 h2 => hn j h1 (by omega)
def atN (zs : List Int) (n : Int) : Nat := posN zs n zs.length
def leadsE (zs : List Int) (e : Int × Int) : Bool := !(((atN zs e.1 : Nat) : Int) == 0) && !(((atN zs e.2 : Nat) : Int) == 0) && !decide (((atN zs e.2 : Nat) : Int) ≤ ((atN zs e.1 : Nat) : Int))
def leadsB (zs : List Int) (es : List (Int × Int)) : Bool := es.all (leadsE zs)
theorem leadsE_iff (zs : List Int) (e : Int × Int) : leadsE zs e = true ↔ 0 < atN zs e.1 ∧ atN zs e.1 < atN zs e.2 := by
  unfold leadsE
  simp
  omega
theorem leads_no {m : Nat} {es : List (Int × Int)} (zs : List Int) (h : inR m es = true) (hl : (ordr m es).length < m) : leadsB zs es = false := by
  rw [← Bool.not_eq_true]
  intro hb
  unfold leadsB at hb
  rw [List.all_eq_true] at hb
  have hp : ∀ a b, Path (gR es) a b → atN zs (a : Int) < atN zs (b : Int) := by
    intro a b p
    induction p with
    | one e => exact ((leadsE_iff zs _).1 (hb _ (of_decide_eq_true e))).2
    | step e p ih => exact Nat.lt_trans ((leadsE_iff zs _).1 (hb _ (of_decide_eq_true e))).2 ih
  obtain ⟨x, hx, hf⟩ := (loop_iff h).1 hl
  have := hp x x ((fw_iff (gR_lt h) x x).1 hf)
  omega
theorem nodup_at {L : List Nat} (h : L.Nodup) {i j x : Nat} (hi : L[i]? = some x) (hj : L[j]? = some x) : i = j := by
  have h1 := (List.getElem?_eq_some_iff.1 hi).1
  have h2 := (List.getElem?_eq_some_iff.1 hj).1
  exact (List.getElem_inj h).1 (((List.getElem?_eq_some_iff.1 hi).2).trans ((List.getElem?_eq_some_iff.1 hj).2).symm)
theorem atN_toI {L : List Nat} (h : L.Nodup) {i x : Nat} (hi : L[i]? = some x) : atN (toI L) (x : Int) = i + 1 := by
  have hl := (List.getElem?_eq_some_iff.1 hi).1
  have hz : ∀ j, j < L.length → ∃ y : Nat, zd (toI L) j = (y : Int) ∧ L[j]? = some y := fun j hj => zd_toI L j hj
  unfold atN
  refine posN_at ?_ _ (by rw [toI_len]; exact hl) fun j h1 h2 e => ?_
  · obtain ⟨y, e1, e2⟩ := hz i hl
    rw [hi] at e2
    injection e2 with e2
    rw [e1, e2]
  · rw [toI_len] at h2
    obtain ⟨y, e1, e2⟩ := hz j h2
    rw [e1] at e
    obtain rfl : y = x := by omega
    have := nodup_at h hi e2
    omega
theorem leads_yes {m : Nat} {es : List (Int × Int)} (h : inR m es = true) (hl : (ordr m es).length = m) : leadsB (toI (ordr m es)) es = true := by
  unfold leadsB
  rw [List.all_eq_true]
  rintro ⟨a, b⟩ he
  have hb := edge_in h he
  obtain ⟨i, rfl⟩ : ∃ i : Nat, a = (i : Int) := ⟨a.toNat, by omega⟩
  obtain ⟨j, rfl⟩ : ∃ j : Nat, b = (j : Int) := ⟨b.toNat, by omega⟩
  have hg : Good (gR es) m (ordr m es) := good_topoN _ _ _
  have hj : j ∈ ordr m es := hg.all (by omega) (by omega)
  obtain ⟨q, hq, eq⟩ := List.getElem_of_mem hj
  have hq' : (ordr m es)[q]? = some j := by rw [List.getElem?_eq_getElem hq, eq]
  have hi := hg.pre q j hq' i (by omega) (decide_eq_true he)
  obtain ⟨p, hp, ep⟩ := List.getElem_of_mem hi
  rw [List.getElem_take] at ep
  have hpq : p < q := by simp at hp; omega
  have hp' : (ordr m es)[p]? = some i := by rw [List.getElem?_eq_getElem (by omega), ep]
  rw [leadsE_iff, atN_toI hg.nodup hp', atN_toI hg.nodup hq']
  omega

/-- the map of the places -/
def Cm {H : Type} (zs : List Int) : Nat → DataW H
  | 0 => .map []
  | k + 1 => (Cm zs k).put (.int .i64 (zd zs k)) (.lit (.int .i64 ((k : Int) + 1)))
theorem Cm_isMap {H : Type} (zs : List Int) : ∀ k, IsMap (Cm (H := H) zs k)
  | 0 => isMap_empty
  | k + 1 => (Cm_isMap zs k).put _ _
theorem Cm_at {H : Type} (zs : List Int) (n : Int) : ∀ k, (Cm (H := H) zs k).atKey (.int .i64 n) (.lit (.int .i64 0)) = .lit (.int .i64 ((posN zs n k : Nat) : Int))
  | 0 => rfl
  | k + 1 => by
    unfold Cm posN
    by_cases e : zd zs k = n
    · rw [if_pos e, e, atKey_put_same (Cm_isMap zs k) (by trivial)]
      simp
    · rw [if_neg e, atKey_put_other (by intro h; injection h with _ h; exact e h.symm), Cm_at zs n k]

theorem srt_eq (zs ws : List Int) (hp : zs.Perm ws) (hs : ws.Pairwise (· ≤ ·)) : srt zs = ws := by
  unfold srt
  refine List.Perm.eq_of_pairwise (le := fun x y => decide (x ≤ y) = true) (fun a b _ _ h1 h2 => ?_) (List.pairwise_mergeSort (fun a b c h1 h2 => ?_) (fun a b => ?_) zs) (hs.imp fun h => decide_eq_true h) ((List.mergeSort_perm zs _).trans hp)
  · have := of_decide_eq_true h1; have := of_decide_eq_true h2; omega
  · have := of_decide_eq_true h1; have := of_decide_eq_true h2; exact decide_eq_true (by omega)
  · simp; omega
theorem perm_range {m : Nat} {L : List Nat} (hn : L.Nodup) (hl : L.length = m) (hlt : ∀ x, x ∈ L → x < m) : L.Perm (List.range m) := by
  have hall : ∀ x, x < m → x ∈ L := fun x hx => by
    false_or_by_contra
    rename_i hc
    have := nodup_le m (L ++ [x]) (by
      rw [List.nodup_append]
      exact ⟨hn, by simp, fun a ha b hb => by simp at hb; subst hb; exact fun e => hc (e ▸ ha)⟩) (fun y hy => by
      rcases List.mem_append.1 hy with h3 | h3
      · exact hlt y h3
      · simp at h3; omega)
    simp at this
    omega
  rw [List.perm_iff_count]
  intro a
  rw [hn.count, List.nodup_range.count]
  by_cases ha : a < m
  · rw [if_pos (hall a ha), if_pos (List.mem_range.2 ha)]
  · rw [if_neg (fun h => ha (hlt a h)), if_neg (fun h => ha (List.mem_range.1 h))]
theorem srt_ordr {m : Nat} {es : List (Int × Int)} (hl : (ordr m es).length = m) : srt (toI (ordr m es)) = toI (List.range m) := by
  have hg : Good (gR es) m (ordr m es) := good_topoN _ _ _
  refine srt_eq _ _ ((perm_range hg.nodup hl hg.lt).map _) ?_
  unfold toI
  rw [List.pairwise_map]
  exact List.pairwise_lt_range.imp fun h => by omega
theorem zd_range (m k : Nat) (hk : k < m) : zd (toI (List.range m)) k = (k : Int) := by
  unfold zd toI
  simp [List.getD, hk]

/-! ### the closure -/
theorem lawI : Keyed Tryd.prog 3 := int_keyed Tryd.underlying3
theorem zeroI (w : World) : (zeroValue 3).run Tryd.prog w = .ok (.int .i64 0) w := by kernel_rfl
theorem leadsB_snoc {zs : List Int} {es : List (Int × Int)} {k : Nat} (hk : k < es.length) (h : (es.take k).all (leadsE zs) = true) (he : leadsE zs (ed es k) = true) : (es.take (k + 1)).all (leadsE zs) = true := by
  have h2 : es.take (k + 1) = es.take k ++ [ed es k] := by
    rw [List.take_add_one, List.getElem?_eq_getElem hk]
    unfold ed
    simp [List.getD, hk]
  rw [h2, List.all_append, h]
  simp [he]
theorem leadsB_bad {zs : List Int} {es : List (Int × Int)} {k : Nat} (hk : k < es.length) (he : leadsE zs (ed es k) = false) : leadsB zs es = false := by
  unfold leadsB
  rw [List.all_eq_false]
  exact ⟨_, ed_mem es k hk, by simp [he]⟩
theorem mk_int (P : Program) (k : TypeId) (x : Int) (hk : P.underlying k = some (.int .i64)) (h : -9223372036854775808 ≤ x ∧ x ≤ 9223372036854775807) : keyOf P k (.int .i64 x) = some (.int .i64 x) :=
  keyOf_int_mk hk (WalkArith.wf_i64 (by omega))

theorem ownsMap_step {H : Type} {P : Program} {k : TypeId} {R : Value → Option (DataW H × List MemPlace)} {w w' : World} {b n : Nat} {D : DataW H} (h : w.ownsMap P k R b n D) (hb : Below w.heap.size w w') : w'.ownsMap P k R b n D := by
  have hlt := h.lt
  obtain ⟨es, clock, h1, r⟩ := h
  exact ⟨es, clock, (hb.block b hlt).trans h1, r⟩
theorem look_at {w : World} {b n : Nat} {D : DataW Unit} (h : w.ownsMap Tryd.prog 3 (plainElem Tryd.prog 3) b n D) {x : Int} {p : Nat} (hb : -9223372036854775808 ≤ x ∧ x ≤ 9223372036854775807) (hat : D.atKey (.int .i64 x) (.lit (.int .i64 0)) = .lit (.int .i64 (p : Int))) :
    (Instr.lookup 36 (.map (some b)) (.int .i64 x) false).run Tryd.prog w = .ok (.int .i64 (p : Int)) w := by
  obtain ⟨c, hrun, h1, _⟩ := h.lookup_int lawI Tryd.underlying36 Tryd.underlying3 (zeroI _) (mk_int Tryd.prog 3 x Tryd.underlying3 hb)
  rw [hat] at h1
  injection h1 with h1
  injection h1 with _ h1
  rw [hrun, h1]

set_option maxHeartbeats 2000000 in
theorem leads_any (B : Nat) (N : Int) (A : Option Addr) (c : Nat) (es : List (Int × Int)) (A2 : Option Addr) (c2 : Nat) (zs : List Int) (w : World)
    (hg : GB 24 w B N (.slice A es.length c)) (he : RdE w w.heap.size A es) (hz : RdI w w.heap.size A2 zs) :
    Calls Tryd.prog 20 #[.slice A2 zs.length c2, .pointer (some ⟨B, 0, none⟩)] w fun e w' => e = .returned (.bool (leadsB zs es)) ∧ Below w.heap.size w w' := by
  have hmm := @run_makeMap Tryd.prog
  have hr := he.room
  have hr2 := hz.room
  go_enter Tryd.func20, Tryd.ntmps20
  go_wp2_with fail
  go_loopw [12] (fun i wr => ∃ k : Nat, k ≤ zs.length ∧ i = .int .i64 k ∧ wr.ownsMap Tryd.prog 3 (plainElem Tryd.prog 3) w.heap.size k (Cm (H := Unit) zs k) ∧ Below w.heap.size w wr) (fun i _ => zs.length - (intOf i).toNat)
  case atStart => exact ⟨0, Nat.zero_le _, rfl, World.ownsMap_made _ _ _ _, (Below.refl _ _).alloc (Nat.le_refl _) _⟩
  case round =>
    obtain ⟨k, hk, rfl, hown, hb⟩ := hrel
    by_cases hlt : k < zs.length
    · obtain ⟨b, off, rfl, hbb, hc⟩ := hz.rd (by omega)
      have hcx := (hb.cell (p := ⟨b, off + k, none⟩) hbb).trans (hc k hlt)
      have hkey := mk_int Tryd.prog 3 (zd zs k) Tryd.underlying3 ⟨hz.lo k, hz.hi k⟩
      clear hc
      go_wp2_with (first
        | (at_mapUpdate; refine wpList_mapUpdate_own _ rfl _ _ _ 36 rfl 3 3 lawI Tryd.underlying36 _ w.heap.size k _ rfl hown (by unfold maxLen; omega) _ _ _ rfl rfl hkey _ [] (plainElem_int Tryd.underlying3 (WalkArith.wf_i64 (by omega))) ?_; intro w1 hown1 hgrow1)
        | fail)
      go_roundw
      case rel => exact ⟨k + 1, by omega, by go_num, hown1, hb.grown hgrow1 hb.size (fun j hj => by cases hj; exact Nat.le_refl _)⟩
      case measure => simp [intOf]; omega
    · obtain rfl : k = zs.length := by omega
      obtain ⟨wm, hwm⟩ : ∃ wm, wm = wr := ⟨_, rfl⟩
      rw [← hwm] at hown hb ⊢
      clear hwm
      have he1 := he.step hb
      have hg1 := hg.step hb
      have hs := hb.size
      obtain ⟨D, hD⟩ : ∃ D, D = Cm (H := Unit) zs zs.length := ⟨_, rfl⟩
      rw [← hD] at hown
      have hat : ∀ n, D.atKey (.int .i64 n) (.lit (.int .i64 0)) = .lit (.int .i64 ((atN zs n : Nat) : Int)) := fun n => by rw [hD]; exact Cm_at zs n _
      have hle : ∀ n, atN zs n ≤ zs.length := fun n => posN_le zs n _
      obtain ⟨L, hL⟩ : ∃ L, L = zs.length := ⟨_, rfl⟩
      rw [← hL] at hown hle ⊢
      have e1 := hg1.e
      clear hg he hD hz hL
      go_wp2_with fail
      go_loopw [25] (fun i wr => ∃ k : Nat, k ≤ es.length ∧ i = .int .i64 k ∧ Hid ((es.take k).all (leadsE zs) = true) ∧ Below wm.heap.size wm wr) (fun i _ => es.length - (intOf i).toNat)
      case atStart => exact ⟨0, Nat.zero_le _, rfl, Lib.hid (by simp), Below.refl _ _⟩
      case round =>
        obtain ⟨k, hk, rfl, hall, hbr⟩ := hrel
        by_cases hlt : k < es.length
        · obtain ⟨b, off, rfl, hbb, hc⟩ := he1.rd (by omega)
          have l1 := he1.lo1 k
          have h1 := he1.hi1 k
          have l2 := he1.lo2 k
          have h2 := he1.hi2 k
          have hc1 := (hbr.cell (p := ⟨b, off + k * 2, none⟩) hbb).trans (hc k hlt).1
          have hc2 := (hbr.cell (p := ⟨b, off + k * 2 + 1, none⟩) hbb).trans (hc k hlt).2
          obtain ⟨⟨x, y⟩, hxy⟩ : ∃ e, e = ed es k := ⟨_, rfl⟩
          have hE : ∀ v, leadsE zs (x, y) = v → leadsE zs (ed es k) = v := fun v hv => by rw [← hxy]; exact hv
          rw [← hxy] at hc1 hc2 l1 h1 l2 h2
          dsimp only at hc1 hc2 l1 h1 l2 h2
          have hBn := below_alloc wr (.cells #[.int .i64 x, .int .i64 y] 38)
          have hB := hbr.trans (hBn.mono hbr.size)
          have ho2 := ownsMap_step (ownsMap_step hown hbr) hBn
          have lx := look_at ho2 (x := x) ⟨l1, h1⟩ (hat x)
          have ly := look_at ho2 (x := y) ⟨l2, h2⟩ (hat y)
          have bx := hle x
          have bY := hle y
          have hv : leadsE zs (x, y) = (!(((atN zs x : Nat) : Int) == 0) && !(((atN zs y : Nat) : Int) == 0) && !decide (((atN zs y : Nat) : Int) ≤ ((atN zs x : Nat) : Int))) := rfl
          have e1 := (hg1.step hbr).e
          clear ho2 hc hat hle hxy he1 hg1 hown hBn
          obtain ⟨p, hp⟩ : ∃ p, p = atN zs x := ⟨_, rfl⟩
          obtain ⟨q, hq⟩ : ∃ q, q = atN zs y := ⟨_, rfl⟩
          rw [← hp] at lx bx hv
          rw [← hq] at ly bY hv
          clear hp hq l1 l2 h1 h2
          have HE := Lib.hid hE
          have HV := Lib.hid hv
          clear hE hv
          rcases Nat.eq_zero_or_pos p with rfl | p0
          · go_wp2_with fail
            go_ret
            exact ⟨ret_b (leadsB_bad hlt (HE.out _ (HV.out.trans (by simp)))).symm, hb.trans (hB.mono hs)⟩
          · rcases Nat.eq_zero_or_pos q with rfl | q0
            · go_wp2_with fail
              go_ret
              exact ⟨ret_b (leadsB_bad hlt (HE.out _ (HV.out.trans (by simp)))).symm, hb.trans (hB.mono hs)⟩
            · by_cases hpq : q ≤ p
              · go_wp2_with fail
                go_ret
                exact ⟨ret_b (leadsB_bad hlt (HE.out _ (HV.out.trans (by simp; omega)))).symm, hb.trans (hB.mono hs)⟩
              · have b1 : (((p : Nat) : Int) == 0) = false := by simp; omega
                have b2 : (((q : Nat) : Int) == 0) = false := by simp; omega
                have b3 : decide (((q : Nat) : Int) ≤ ((p : Nat) : Int)) = false := by simp; omega
                go_wp2_with fail
                go_roundw
                case rel => exact ⟨k + 1, by omega, by go_num, leadsB_snoc hlt hall.out (HE.out _ (HV.out.trans (by simp; omega))), hB⟩
                case measure => simp [intOf]; omega
        · obtain rfl : k = es.length := by omega
          go_wp2_with fail
          go_ret
          refine ⟨ret_b ?_, hb.trans (hbr.mono hs)⟩
          have := hall.out
          rw [List.take_length] at this
          exact this.symm
end Go.Proofs.YtaboafkpmgadmaaDoor
