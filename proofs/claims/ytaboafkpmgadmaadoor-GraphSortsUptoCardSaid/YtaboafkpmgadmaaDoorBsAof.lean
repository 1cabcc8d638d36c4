/-
  The reference's set of a list's numbers (forkwrightref.AOf), for every slice of at most 2^20 ints.
-/
import Derived.Test.YtaboafkpmgadmaaDoorBsAofM
import Derived.Test.YtaboafkpmgadmaaDoorBsIter
import Derived.Maps.AppendAt
namespace Go.Proofs.YtaboafkpmgadmaaDoor
open Go.RowKit
set_option maxRecDepth 100000

theorem alw_app (zs : List Int) (k : Nat) : (toI (alw (zs.take k))).length ≤ k := by rw [toI_len]; exact alw_len zs k

theorem nsI_lo (zs : List Int) (k : Nat) : 0 ≤ zd (nsI zs) k ∧ zd (nsI zs) k ≤ 65535 := by
  rcases Nat.lt_or_ge k (nsI zs).length with h | h
  · obtain ⟨n, e, _, hl⟩ := nsI_num zs k h; omega
  · rw [zd_out _ _ h]; omega

theorem own_monoA {w : World} {B B' n size : Nat} {e : TypeId} {v : Value} {xs : List Value} (h : w.ownsRow B e size v n xs) (hB : B' ≤ B) : w.ownsRow B' e size v n xs := by
  obtain ⟨h1, h2⟩ := h
  refine ⟨h1, ?_⟩
  rcases h2 with h2 | ⟨g, cap, cur, hv, hb, hr⟩
  · exact .inl h2
  · exact .inr ⟨g, cap, cur, hv, by omega, hr⟩

set_option maxHeartbeats 4000000 in
theorem aof_any (A : Option Addr) (c : Nat) (zs : List Int) (w : World) (hz : RdI w w.heap.size A zs) (hzl : zs.length ≤ 1048576) :
    Calls Tryd.prog 54 #[.slice A zs.length c] w fun e w' => ∃ v, e = .returned v ∧ w'.ownsRow w.heap.size 54 1 v (ofS zs).length (uVals (ofS zs)) ∧ Below w.heap.size w w' := by
  obtain ⟨j0, gi, gz0, gz1, gz2⟩ := info_parts Tryd.infoInt
  obtain ⟨i0, hi, hz0, hz1, hz2⟩ := info_parts Tryd.infoU64
  have hnl : (nsI zs).length ≤ 1048576 := by
    have h1 := nsI_len zs
    have h2 := alw_app zs zs.length
    rw [List.take_length, toI_len] at h2
    omega
  go_enter Tryd.func54, Tryd.ntmps54
  go_wp2
  go_loopw [3, 11] (fun v i wr => ∃ k : Nat, k ≤ zs.length ∧ i = .int .i64 k ∧ wr.ownsRow w.heap.size 3 1 v (toI (alw (zs.take k))).length (iVals (toI (alw (zs.take k)))) ∧ Below w.heap.size w wr) (fun _ i _ => zs.length - (intOf i).toNat)
  case atStart => exact ⟨0, Nat.zero_le _, rfl, World.ownsRow_nil _ _ _ _, Below.refl _ _⟩
  case round =>
    obtain ⟨k, hk, rfl, hown, hB⟩ := hrel
    have hle := alw_app zs k
    have hsz := hB.size
    by_cases hlt : k < zs.length
    · obtain ⟨b, off, rfl, hb, hc⟩ := hz.rd (by omega)
      have hci : wr.cell? ⟨b, off + k, none⟩ = some (.int .i64 (zd zs k)) := (hB.cell (p := ⟨b, off + k, none⟩) hb).trans (hc k hlt)
      clear hc
      by_cases hin : 0 ≤ zd zs k ∧ zd zs k ≤ 65535
      · obtain ⟨x, hxe, hx2⟩ : ∃ x : Nat, zd zs k = (x : Int) ∧ x ≤ 65535 := ⟨(zd zs k).toNat, by omega, by omega⟩
        have hyes := Lib.hid (alw_yes zs k hlt x hxe hx2)
        rw [hxe] at hci
        clear hin hxe
        have h3 : (toI (alw (zs.take k))).length + 1 ≤ maxLen := by unfold maxLen; omega
        have h4 : ((toI (alw (zs.take k))).length + 1) * 8 ≤ 140737488355328 := by omega
        have h5 : w.heap.size ≤ (wr.alloc (.cells #[.int .i64 (x : Int)] 3)).heap.size := by simp; omega
        go_wp2_with (at_builtin; refine wpList_append_own _ rfl _ _ 25 rfl w.heap.size 3 j0 (.int .i64 0) 1 8 Tryd.underlying25 gi gz0 gz1 gz2 rfl (by decide) _ _ _ rfl (hown.alloc _) ⟨wr.heap.size, 0, none⟩ 1 1 [.int .i64 (x : Int)] rfl rfl (cell_one_new _ _ _) (by simp [Value.oneCell']) h3 h4 h5 ?_; intro v' w1 hown' hgrow _)
        have hB1 := below_app hB hsz hown hgrow
        rw [iVals_snoc, ← toI_snoc, ← hyes.out] at hown'
        have he : (toI (alw (zs.take k))).length + 1 = (toI (alw (zs.take (k + 1)))).length := by rw [hyes.out, toI_snoc]; simp
        rw [he] at hown'
        clear he hgrow
        go_roundw
        case rel => exact ⟨k + 1, by omega, by go_num, hown', hB1⟩
        case measure => simp [intOf]; omega
      · have hno := Lib.hid (alw_no zs k hlt hin)
        rcases (show zd zs k < 0 ∨ (0 ≤ zd zs k ∧ 65535 < zd zs k) by omega) with h | ⟨h, h'⟩
        all_goals
          clear hin
          go_wp2
          go_roundw
          case rel => exact ⟨k + 1, by omega, by go_num, by rw [hno.out]; exact hown, hB⟩
          case measure => simp [intOf]; omega
    · obtain rfl : k = zs.length := by omega
      rw [List.take_length] at hown hle
      go_wp2_with fail
      refine (sortI_any _ _ w.heap.size _ hown hsz (by omega)).mono ?_
      rintro e w1 ⟨⟨r, rfl⟩, hown1, hb⟩
      replace hB := hB.trans hb
      replace hsz := hB.size
      clear hb hown
      go_wp2_with fail
      refine (compact_any _ _ w.heap.size _ hown1 hsz (by rw [srt_len]; omega)).mono ?_
      rintro e w2 ⟨v2, rfl, hown2, hb⟩
      replace hB := hB.trans hb
      replace hsz := hB.size
      clear hb hown1
      obtain ⟨A2, c2, rfl, hn⟩ := own_rdI (zs := nsI zs) hown2 (fun k => by have := nsI_lo zs k; omega) (fun k => by have := nsI_lo zs k; omega) (by omega)
      have hz2 := hz.below hB
      clear hown2
      go_wp2_with fail
      obtain ⟨ns, hns⟩ : ∃ ns, ns = nsI zs := ⟨_, rfl⟩
      have HNS := Lib.hid hns
      rw [← hns] at hn hnl
      rw [← hns]
      obtain ⟨p, hp⟩ : ∃ p, p = pIn zs := ⟨_, rfl⟩
      have HP := Lib.hid hp
      clear hns hp hz hz2 hk hlt hle
      go_loopw [6, 32] (fun v i wr => ∃ k b : Nat, k ≤ ns.length ∧ i = .int .i64 k ∧ Hid (At zs k b) ∧ wr.ownsRow w2.heap.size 54 1 v (awl p b).length (uVals (awl p b)) ∧ Below w2.heap.size w2 wr) (fun _ i _ => ns.length - (intOf i).toNat)
      case atStart => exact ⟨0, 0, Nat.zero_le _, rfl, Lib.hid (at_zero zs), World.ownsRow_nil _ _ _ _, Below.refl _ _⟩
      case round =>
        obtain ⟨k, b, hk, rfl, hat, hown, hB2⟩ := hrel
        have hsz2 := hB2.size
        by_cases hlt : k < ns.length
        · obtain ⟨n, hne, hnl2, hpn, hskip, hat2⟩ := at_step zs k b hat.out (by rw [← HNS.out]; exact hlt)
          rw [← HNS.out] at hne
          rw [← HP.out] at hpn hskip
          have HAT := Lib.hid hat2
          have HPN := Lib.hid hpn
          rw [hskip] at hown
          have hle := awl_len p n
          clear hat hat2 hskip hpn
          obtain ⟨b2, off2, rfl, hb2, hc2⟩ := hn.rd (by omega)
          have hci : wr.cell? ⟨b2, off2 + k, none⟩ = some (.int .i64 (n : Int)) := by rw [← hne]; exact (hB2.cell (p := ⟨b2, off2 + k, none⟩) hb2).trans (hc2 k hlt)
          clear hc2 hne
          go_wp2
          clear hci
          obtain ⟨wo, rfl⟩ : ∃ wo : World, wo = wr := ⟨_, rfl⟩
          go_loopw [6] (fun v2 wr2 => ∃ t : Nat, (awl p n).length + t ≤ n / 64 + 1 ∧ wr2.ownsRow w2.heap.size 54 1 v2 ((awl p n).length + t) (uVals (awl p n ++ List.replicate t 0)) ∧ Below w2.heap.size w2 wr2) (fun v2 _ => n / 64 + 1 - lenOf v2)
          case atStart => exact ⟨0, by omega, by simpa using hown, hB2⟩
          case round =>
            obtain ⟨t, ht, hown2, hB3⟩ := hrel
            clear hown hB2 hsz2
            have hsz3 := hB3.size
            obtain ⟨A3, c3, rfl⟩ := own_any hown2
            by_cases hin : (awl p n).length + t ≤ n / 64
            · go_wp2_with (at_builtin; refine wpList_append_own _ rfl _ _ 49 rfl w2.heap.size 54 i0 (.int .u64 0) 1 8 Tryd.underlying49 hi hz0 hz1 hz2 rfl (by decide) _ _ _ rfl (hown2.alloc _) ⟨wr.heap.size, 0, none⟩ 1 1 [.int .u64 0] rfl rfl (cell_one_new _ _ _) (by simp [Value.oneCell']) (by unfold maxLen; omega) (by omega) (by simp; omega) ?_; intro v' w1 hown' hgrow _)
              have hB4 := below_app hB3 hsz3 hown2 hgrow
              have hown3 : w1.ownsRow w2.heap.size 54 1 v' ((awl p n).length + (t + 1)) (uVals (awl p n ++ List.replicate (t + 1) 0)) := by
                rw [u64_zero, uVals_snoc, app_zero] at hown'
                exact hown'
              obtain ⟨A4, c4, rfl⟩ := own_any hown3
              clear hown' hgrow hown2 hB3
              go_roundw
              case rel => exact ⟨t + 1, by omega, hown3, hB4⟩
              case measure => simp [lenOf]; omega
            · obtain ⟨g, cap, hA2, hbg, hglt⟩ := own_shape hown2 (by omega)
              injection hA2 with hA2 _ hc2
              subst hA2
              subst hc2
              have hL : (awl p n).length + t = n / 64 + 1 := by omega
              have hwl : (uVals (awl p n ++ List.replicate t 0))[n / 64]? = some (.int .u64 (wd (awl p n) (n / 64) : Int)) := by
                rw [uVals_at _ _ (by simp; omega), ← wd_ext (awl p n) (n / 64)]
                unfold ext
                rw [show n / 64 + 1 - (awl p n).length = t by omega]
              have hcell : wr.cell? ⟨g, n / 64, none⟩ = some (.int .u64 (wd (awl p n) (n / 64) : Int)) := by
                rw [hown2.cellAt (n / 64) (by omega)]; exact hwl
              have hfz : wr.frozen? ⟨g, n / 64, none⟩ = false := hown2.frozenAt _
              have hLi : n / 64 < (awl p n).length + t := by omega
              have HL := Lib.hid hL
              clear hL hwl hin
              go_wp2
              go_region
              go_wp2
              go_roundw
              case rel => exact ⟨k + 1, n + 1, by omega, by go_num, HAT, rel_put hown2 HL.out HPN.out, (hB3.setCell (p := ⟨g, n / 64, none⟩) hbg _).drew⟩
              case measure => simp [intOf]; omega
        · obtain rfl : k = ns.length := by omega
          go_wp2
          go_ret
          have hend := at_end zs b (by rw [← HNS.out]; exact hat.out)
          rw [← HP.out] at hend
          rw [hend] at hown
          exact ⟨_, rfl, own_monoA hown hsz, hB.trans (hB2.mono hsz)⟩
end Go.Proofs.YtaboafkpmgadmaaDoor
