/-
  lap.Forward, called with any list: its contract.
-/
import Derived.Test.YtjojeifoddonnakGreatLc07
import Derived.Test.YtjojeifoddonnakGreatLc03
import Derived.Deep.RegionWith
namespace Go.Proofs.YtjojeifoddonnakGreat.Lap
open Go.RowKit
open Go.Proofs.YtjojeifoddonnakGreat.Tre
set_option linter.unusedVariables false

theorem fwd_no (a : Option Addr) (cap : Nat) (l : List Int) (w : World) (hl : l.length ≤ 9223372036854775807) (hr : Row w a l) (h : Hid (chk l 1000 ≠ 0)) :
    Calls Tryz.prog 47 #[.slice a l.length cap] w fun e w' => e = .returned (.tuple #[.slice none 0 0, .iface 60 (.int .i64 (chk l 1000))]) ∧ Below w.heap.size w w' := by
  go_enter Tryz.func47, Tryz.ntmps47
  go_wp2_with fail
  refine (check_no a cap l 1000 w hl (by omega) (by omega) hr h).mono ?_
  rintro e w1 ⟨rfl, hb1⟩
  go_wp2
  go_ret2
  exact ⟨rfl, hb1⟩

set_option maxRecDepth 100000 in
set_option maxHeartbeats 4000000 in
theorem fwd_ok (a : Option Addr) (cap : Nat) (l : List Int) (w : World) (hl : l.length ≤ 9223372036854775807) (hr : Row w a l) (h : Hid (chk l 1000 = 0)) :
    Calls Tryz.prog 47 #[.slice a l.length cap] w fun e w' => ∃ v, e = .returned (.tuple #[v, .nilIface]) ∧ Has w' w.heap.size v (lap l) ∧ Below w.heap.size w w' := by
  obtain ⟨z1, z2, z3⟩ := chk_zero (unhide h)
  have HE := hide z2
  clear z2
  have hinE := (ev_in (by omega) z3).mono (show (1000 : Int) ≤ 100000 by omega)
  have hinD := (dif_in (by omega) z3).mono (show (2 * 1000 : Int) ≤ 100000 by omega)
  go_enter Tryz.func47, Tryz.ntmps47
  go_wp2_with fail
  refine (check_ok a cap l 1000 w hl (by omega) (by omega) hr h).mono ?_
  rintro e w1 ⟨rfl, hb1⟩
  have hr1 := hr.below hb1
  go_wp2_with fail
  refine (deal a cap l w1 (by omega) HE hr1).mono ?_
  rintro e w2 ⟨s, d, rfl, hs, hd, ho, hb2⟩
  have hs := hs.mono hb1.size
  have hd := hd.mono hb1.size
  have hB2 := Below.chain hb1 hb2
  obtain ⟨p1, q1, rfl, -⟩ := hs.row
  obtain ⟨p2, q2, rfl, -⟩ := hd.row
  have hn1 := ev_length l
  have hn2 := od_length l
  obtain ⟨n, hn⟩ : ∃ n, n = l.length / 2 := ⟨_, rfl⟩
  rw [← hn] at hn1 hn2
  rw [hn1] at hs ho ⊢
  rw [hn2] at hd ho ⊢
  have HN1 := hide hn1
  have HN2 := hide hn2
  have HN := hide hn
  have hn9 : n ≤ 16 := by omega
  clear hn1 hn2 hn hr1 hb1 hb2
  go_wp2
  go_loopw [21] (fun i wr => ∃ j : Nat, j ≤ n ∧ i = .int .i64 j ∧ Has wr w.heap.size (.slice p1 n q1) (ev l) ∧ Has wr w.heap.size (.slice p2 n q2) (mid (difF (ev l) (od l)) (at0 (od l)) n j) ∧ Below w.heap.size w wr) (fun i _ => n - (intOf i).toNat)
  case atStart => exact ⟨0, Nat.zero_le _, rfl, hs, by rw [mid_zero]; have e := eq_upto (od l); rw [unhide HN2] at e; rw [← e]; exact hd, hB2⟩
  case round =>
    obtain ⟨j, hj, rfl, hs', hd', hB⟩ := hrel
    clear hs hd hB2
    by_cases hlt : j < n
    · obtain ⟨g, c, e1, hg1, hg2, hg3, hg4⟩ := hd'.one (by rw [mid_length]; omega)
      rw [mid_length] at e1
      obtain ⟨rfl, -, rfl⟩ := Value.slice.inj e1
      have hcl := hd'.get (j := j) (by rw [mid_length]; exact hlt)
      rw [mid_at _ _ hlt] at hcl
      have hfz := hd'.frozen j
      obtain ⟨x0, x1⟩ := (od_in (by omega) z3).at (by omega) j
      obtain ⟨y0, y1⟩ := gs_in (by omega) (ev_in (by omega) z3) j
      have hrs := (hs'.inRow rfl).2
      have HV : Hid (difF (ev l) (od l) j = at0 (od l) j - gs (ev l) j) := hide rfl
      obtain ⟨X, hX⟩ : ∃ X, at0 (od l) j = X := ⟨_, rfl⟩
      obtain ⟨Y, hY⟩ : ∃ Y, gs (ev l) j = Y := ⟨_, rfl⟩
      rw [hX] at hcl x0 x1 HV
      rw [hY] at y0 y1 HV
      have HY := hide hY
      clear hX hY
      have hwr : IntKind.i64.wrap (X - Y) = X - Y := IntWalk.i64_in _ (by omega)
      go_wp2
      go_region_with (go_at_call 74; refine (guess p1 n q1 (ev l) j _ (hide HN1.symm) (by omega) hlt hinE (show Row wr.drew _ _ from hrs)).mono ?_; rw [unhide HY]; rintro e w' ⟨rfl, q, rfl⟩)
      all_goals
        obtain ⟨m1, m2, m3⟩ := put_mid hd' hlt (unhide HV) (1 + q)
        go_wp2
        go_roundw
        case rel => exact ⟨j + 1, by omega, by go_num, m2 _ _ hs' ho, m1, m3 _ hB hg1⟩
        case measure => simp [intOf]; omega
    · obtain rfl : j = n := by omega
      rw [mid_all] at hd'
      have hd2 : Has wr w.heap.size (.slice p2 j q2) (dif l) := by unfold dif; rw [← unhide HN]; exact hd'
      have HN3 : Hid ((dif l).length = j) := hide (by rw [dif_length]; exact (unhide HN).symm)
      clear hd'
      go_wp2
      go_loopw [36] (fun i wr => ∃ k : Nat, k ≤ j ∧ i = .int .i64 k ∧ Has wr w.heap.size (.slice p1 j q1) (mid (styF (ev l) (dif l)) (at0 (ev l)) j k) ∧ Has wr w.heap.size (.slice p2 j q2) (dif l) ∧ Below w.heap.size w wr) (fun i _ => j - (intOf i).toNat)
      case atStart => exact ⟨0, Nat.zero_le _, rfl, by rw [mid_zero]; have e := eq_upto (ev l); rw [unhide HN1] at e; rw [← e]; exact hs', hd2, hB⟩
      case round =>
        obtain ⟨k, hk, rfl, hs3, hd3, hB3⟩ := hrel
        clear hs' hd2 hB
        by_cases hlt : k < j
        · obtain ⟨g, c, e1, hg1, hg2, hg3, hg4⟩ := hs3.one (by rw [mid_length]; omega)
          rw [mid_length] at e1
          obtain ⟨rfl, -, rfl⟩ := Value.slice.inj e1
          have hcl := hs3.get (j := k) (by rw [mid_length]; exact hlt)
          rw [mid_at _ _ hlt] at hcl
          have hfz := hs3.frozen k
          obtain ⟨x0, x1⟩ := (ev_in (by omega) z3).at (by omega) k
          obtain ⟨y0, y1⟩ := lf_in (by omega) (dif_in (by omega) z3) k
          have hrs := (hd3.inRow rfl).2
          have HV : Hid (styF (ev l) (dif l) k = at0 (ev l) k + lf (dif l) k) := hide rfl
          obtain ⟨X, hX⟩ : ∃ X, at0 (ev l) k = X := ⟨_, rfl⟩
          obtain ⟨Y, hY⟩ : ∃ Y, lf (dif l) k = Y := ⟨_, rfl⟩
          rw [hX] at hcl x0 x1 HV
          rw [hY] at y0 y1 HV
          have HY := hide hY
          clear hX hY
          have hwr : IntKind.i64.wrap (X + Y) = X + Y := IntWalk.i64_in _ (by omega)
          go_wp2
          go_region_with (go_at_call 73; refine (lift p2 j q2 (dif l) k _ (hide HN3.symm) (by omega) hlt hinD (show Row wr.drew _ _ from hrs)).mono ?_; rw [unhide HY]; rintro e w' ⟨rfl, q, rfl⟩)
          all_goals
            obtain ⟨m1, m2, m3⟩ := put_mid hs3 hlt (unhide HV) (1 + q)
            go_wp2
            go_roundw
            case rel => exact ⟨k + 1, by omega, by go_num, m1, m2 _ _ hd3 ho.symm, m3 _ hB3 hg1⟩
            case measure => simp [intOf]; omega
        · obtain rfl : k = j := by omega
          rw [mid_all] at hs3
          have hs4 : Has wr w.heap.size (.slice p1 k q1) (sty l) := by unfold sty; rw [← unhide HN]; exact hs3
          have HN4 : Hid ((sty l).length = k) := hide (by rw [sty_length]; exact (unhide HN).symm)
          have hrd := (hd3.inRow rfl).2
          clear hs3
          go_wp2_with (at_builtin; refine wpList_app _ rfl _ _ rfl w.heap.size _ (sty l) (dif l) p2 q2 rfl hs4 (congrArg (fun n => Value.slice p2 n q2) (unhide HN3).symm) hrd (by rw [unhide HN3, unhide HN4]; omega) hB3.size ?_; intro v5 w5 k5 g5 _)
          have hB5 := hB3.grown g5 hB3.size (fun r e => (hs4.lt r e).1)
          go_ret2
          exact ⟨_, rfl, k5, hB5⟩

end Go.Proofs.YtjojeifoddonnakGreat.Lap

/-
  lap.Inverse, called with any list: its contract.
-/
namespace Go.Proofs.YtjojeifoddonnakGreat.Lap
open Go.RowKit
open Go.Proofs.YtjojeifoddonnakGreat.Tre
set_option linter.unusedVariables false

theorem inv_no (a : Option Addr) (cap : Nat) (l : List Int) (w : World) (hl : l.length ≤ 9223372036854775807) (hr : Row w a l) (h : Hid (chk l 4000 ≠ 0)) :
    Calls Tryz.prog 42 #[.slice a l.length cap] w fun e w' => e = .returned (.tuple #[.slice none 0 0, .iface 60 (.int .i64 (chk l 4000))]) ∧ Below w.heap.size w w' := by
  go_enter Tryz.func42, Tryz.ntmps42
  go_wp2_with fail
  refine (check_no a cap l 4000 w hl (by omega) (by omega) hr h).mono ?_
  rintro e w1 ⟨rfl, hb1⟩
  go_wp2
  go_ret2
  exact ⟨rfl, hb1⟩

set_option maxRecDepth 100000 in
set_option maxHeartbeats 4000000 in
theorem inv_ok (a : Option Addr) (cap : Nat) (l : List Int) (w : World) (hl : l.length ≤ 9223372036854775807) (hm : Roomy a l.length cap) (hr : Row w a l) (h : Hid (chk l 4000 = 0)) :
    Calls Tryz.prog 42 #[.slice a l.length cap] w fun e w' => ∃ v, e = .returned (.tuple #[v, .nilIface]) ∧ Has w' w.heap.size v (unlap l) ∧ Below w.heap.size w w' := by
  obtain ⟨z1, z2, z3⟩ := chk_zero (unhide h)
  have HE := hide z2
  clear z2
  have z4 : In (2 * 2000) l := z3
  have hinD := (z3.drop (l.length / 2)).mono (show (4000 : Int) ≤ 100000 by omega)
  have hinE := (evs_in (by omega) z4).mono (show (3 * 2000 : Int) ≤ 100000 by omega)
  go_enter Tryz.func42, Tryz.ntmps42
  go_wp2_with fail
  refine (check_ok a cap l 4000 w hl (by omega) (by omega) hr h).mono ?_
  rintro e w1 ⟨rfl, hb1⟩
  have hr1 := hr.below hb1
  go_wp2_with fail
  refine (cut a cap l w1 (by omega) HE hm hr1).mono ?_
  rintro e w2 ⟨s, d, rfl, hs, hd, ho, hb2⟩
  have hs := hs.mono hb1.size
  have hd := hd.mono hb1.size
  have hB2 := Below.chain hb1 hb2
  obtain ⟨p1, q1, rfl, -⟩ := hs.row
  obtain ⟨p2, q2, rfl, -⟩ := hd.row
  have hn1 := fr_length l
  have hn2 := bk_length (unhide HE)
  obtain ⟨n, hn⟩ : ∃ n, n = l.length / 2 := ⟨_, rfl⟩
  rw [← hn] at hn1 hn2
  rw [hn1] at hs ho ⊢
  rw [hn2] at hd ho ⊢
  have HN1 := hide hn1
  have HN2 := hide hn2
  have HN := hide hn
  have hn9 : n ≤ 16 := by omega
  clear hn1 hn2 hn hr1 hb1 hb2
  go_wp2
  go_loopw [21] (fun i wr => ∃ j : Nat, j ≤ n ∧ i = .int .i64 j ∧ Has wr w.heap.size (.slice p1 n q1) (mid (evF (fr l) (bk l)) (at0 (fr l)) n j) ∧ Has wr w.heap.size (.slice p2 n q2) (bk l) ∧ Below w.heap.size w wr) (fun i _ => n - (intOf i).toNat)
  case atStart => exact ⟨0, Nat.zero_le _, rfl, by rw [mid_zero]; have e := eq_upto (fr l); rw [unhide HN1] at e; rw [← e]; exact hs, hd, hB2⟩
  case round =>
    obtain ⟨j, hj, rfl, hs', hd', hB⟩ := hrel
    clear hs hd hB2
    by_cases hlt : j < n
    · obtain ⟨g, c, e1, hg1, hg2, hg3, hg4⟩ := hs'.one (by rw [mid_length]; omega)
      rw [mid_length] at e1
      obtain ⟨rfl, -, rfl⟩ := Value.slice.inj e1
      have hcl := hs'.get (j := j) (by rw [mid_length]; exact hlt)
      rw [mid_at _ _ hlt] at hcl
      have hfz := hs'.frozen j
      obtain ⟨x0, x1⟩ := (z3.take (l.length / 2)).at (by omega) j
      obtain ⟨y0, y1⟩ := lf_in (by omega) (z4.drop (l.length / 2)) j
      have hrs := (hd'.inRow rfl).2
      have HV : Hid (evF (fr l) (bk l) j = at0 (fr l) j - lf (bk l) j) := hide rfl
      obtain ⟨X, hX⟩ : ∃ X, at0 (fr l) j = X := ⟨_, rfl⟩
      obtain ⟨Y, hY⟩ : ∃ Y, lf (bk l) j = Y := ⟨_, rfl⟩
      unfold fr at hX
      rw [hX] at x0 x1
      rw [show at0 (fr l) j = X from hX] at hcl HV
      unfold bk at hY
      rw [hY] at y0 y1
      rw [show lf (bk l) j = Y from hY] at HV
      have HY : Hid (lf (bk l) j = Y) := hide hY
      clear hX hY
      have hwr : IntKind.i64.wrap (X - Y) = X - Y := IntWalk.i64_in _ (by omega)
      go_wp2
      go_region_with (go_at_call 73; refine (lift p2 n q2 (bk l) j _ (hide HN2.symm) (by omega) hlt hinD (show Row wr.drew _ _ from hrs)).mono ?_; rw [unhide HY]; rintro e w' ⟨rfl, q, rfl⟩)
      all_goals
        obtain ⟨m1, m2, m3⟩ := put_mid hs' hlt (unhide HV) (1 + q)
        go_wp2
        go_roundw
        case rel => exact ⟨j + 1, by omega, by go_num, m1, m2 _ _ hd' ho.symm, m3 _ hB hg1⟩
        case measure => simp [intOf]; omega
    · obtain rfl : j = n := by omega
      rw [mid_all] at hs'
      have hs2 : Has wr w.heap.size (.slice p1 j q1) (evs l) := by unfold evs; rw [← unhide HN]; exact hs'
      have HN3 : Hid ((evs l).length = j) := hide (by rw [evs_length]; exact (unhide HN).symm)
      clear hs'
      go_wp2
      go_loopw [36] (fun i wr => ∃ k : Nat, k ≤ j ∧ i = .int .i64 k ∧ Has wr w.heap.size (.slice p1 j q1) (evs l) ∧ Has wr w.heap.size (.slice p2 j q2) (mid (odF (evs l) (bk l)) (at0 (bk l)) j k) ∧ Below w.heap.size w wr) (fun i _ => j - (intOf i).toNat)
      case atStart => exact ⟨0, Nat.zero_le _, rfl, hs2, by rw [mid_zero]; have e := eq_upto (bk l); rw [unhide HN2] at e; rw [← e]; exact hd', hB⟩
      case round =>
        obtain ⟨k, hk, rfl, hs3, hd3, hB3⟩ := hrel
        clear hs2 hd' hB
        by_cases hlt : k < j
        · obtain ⟨g, c, e1, hg1, hg2, hg3, hg4⟩ := hd3.one (by rw [mid_length]; omega)
          rw [mid_length] at e1
          obtain ⟨rfl, -, rfl⟩ := Value.slice.inj e1
          have hcl := hd3.get (j := k) (by rw [mid_length]; exact hlt)
          rw [mid_at _ _ hlt] at hcl
          have hfz := hd3.frozen k
          obtain ⟨x0, x1⟩ := hinD.at (by omega) k
          obtain ⟨y0, y1⟩ := gs_in (by omega) hinE k
          have hrs := (hs3.inRow rfl).2
          have HV : Hid (odF (evs l) (bk l) k = at0 (bk l) k + gs (evs l) k) := hide rfl
          obtain ⟨X, hX⟩ : ∃ X, at0 (bk l) k = X := ⟨_, rfl⟩
          obtain ⟨Y, hY⟩ : ∃ Y, gs (evs l) k = Y := ⟨_, rfl⟩
          rw [show at0 (l.drop (l.length / 2)) k = X from hX] at x0 x1
          rw [hX] at hcl HV
          rw [hY] at y0 y1 HV
          have HY := hide hY
          clear hX hY
          have hwr : IntKind.i64.wrap (X + Y) = X + Y := IntWalk.i64_in _ (by omega)
          go_wp2
          go_region_with (go_at_call 74; refine (guess p1 j q1 (evs l) k _ (hide HN3.symm) (by omega) hlt hinE (show Row wr.drew _ _ from hrs)).mono ?_; rw [unhide HY]; rintro e w' ⟨rfl, q, rfl⟩)
          all_goals
            obtain ⟨m1, m2, m3⟩ := put_mid hd3 hlt (unhide HV) (1 + q)
            go_wp2
            go_roundw
            case rel => exact ⟨k + 1, by omega, by go_num, m2 _ _ hs3 ho, m1, m3 _ hB3 hg1⟩
            case measure => simp [intOf]; omega
        · obtain rfl : k = j := by omega
          rw [mid_all] at hd3
          have hd4 : Has wr w.heap.size (.slice p2 k q2) (ods l) := by unfold ods; rw [← unhide HN]; exact hd3
          have HN4 : Hid ((ods l).length = k) := hide (by rw [ods_length]; exact (unhide HN).symm)
          have hrs := (hs3.inRow rfl).2
          have hrd := (hd4.inRow rfl).2
          clear hd3
          go_wp2_with fail
          refine (mesh k p1 q1 (evs l) p2 q2 (ods l) wr (by omega) (hide HN3.symm) (hide HN4.symm) hrs hrd).mono ?_
          rintro e w5 ⟨v5, rfl, k5, b5⟩
          obtain ⟨p5, q5, rfl, -⟩ := k5.row
          go_wp2
          go_ret2
          refine ⟨_, rfl, ?_, hB3.trans (b5.mono hB3.size)⟩
          unfold unlap
          rw [← unhide HN]
          exact k5.mono hB3.size

end Go.Proofs.YtjojeifoddonnakGreat.Lap
