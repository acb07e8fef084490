/-
  pack.readGains: by its contract.
-/
import Derived.Test.YtjojeifoddonnakGreatDoorLd17
import Derived.Test.YtjojeifoddonnakGreatDoorLd42
import Derived.Test.YtjojeifoddonnakGreatDoorLd20
import Derived.Test.YtjojeifoddonnakGreatDoorLd08
import Derived.Test.YtjojeifoddonnakGreatDoorLd32
import Derived.Test.YtjojeifoddonnakGreatDoorLd11
import Derived.Deep.RegionWith
namespace Go.Proofs.YtjojeifoddonnakGreatDoor.Pck
open Go.RowKit
open Go.Proofs.YtjojeifoddonnakGreatDoor.Tre Go.Proofs.YtjojeifoddonnakGreatDoor.Frm Go.Proofs.YtjojeifoddonnakGreatDoor.Wid Go.Proofs.YtjojeifoddonnakGreatDoor.Hrn
set_option linter.unusedVariables false

set_option maxRecDepth 100000 in
theorem run_begin (x : ByteArray) {k : Nat} (h : k ≤ x.size) (w : World) : (Instr.slice 9 (.string x) none (some (.int .i64 k)) none).run Tryz.prog w = .ok (.string (str ((byt x).take k))) w := by
  rw [run_slice_string_h (P := Tryz.prog) w 9 x Tryz.underlying9 .i64 k (by omega) (by omega)]
  have e := Txt.str_sub (byt x) 0 k
  rw [str_byt, List.drop_zero] at e
  rw [show ((k : Int)).toNat = k by omega, e]

theorem parts_mono {w : World} {base base' : Nat} {v : Value} {qs : List (Int × Value)} (h : HasP w base v qs) (hb : base' ≤ base) : HasP w base' v qs := by
  refine ⟨h.1, ?_⟩
  rcases h.2 with hn | ⟨g, cap, cur, rfl, hbg, rest⟩
  · exact .inl hn
  · exact .inr ⟨g, cap, cur, rfl, Nat.le_trans hb hbg, rest⟩
/-- What readGains tells. -/
def GrSays (x : ByteArray) (n : Nat) (w : World) (e : Ending) (w' : World) : Prop :=
  ((x.size < (6 * n + 7) / 8 ∧ e = .returned (.tuple #[.slice none 0 0, .iface 48 (.int .i64 2)])) ∨ ((6 * n + 7) / 8 ≤ x.size ∧ ∃ v, e = .returned (.tuple #[v, .nilIface]) ∧ HasP w' w.heap.size v (q0 (rgs (opn (byt x)) n) n))) ∧ Below w.heap.size w w'

set_option maxRecDepth 100000 in
set_option maxHeartbeats 8000000 in
theorem readGains (x : ByteArray) (n : Nat) (w : World) (zx : x.size ≤ 9223372036854775807) (h1 : 1 ≤ n) (h8 : n ≤ 8) :
    Calls Tryz.prog 46 #[.string x, .int .i64 n] w fun e w' => GrSays x n w e w' := by
  obtain ⟨SZ, hSZ⟩ : ∃ SZ, x.size = SZ := ⟨_, rfl⟩
  have hlen : ∀ W, (Builtin.len_ #[9] 3 #[.string x]).run Tryz.prog W = .ok (.int .i64 (SZ : Int)) W := fun W => by rw [run_len_string W 9 3 x Tryz.underlying9, hSZ]; rfl
  obtain ⟨M, hM⟩ : ∃ M, 6 * n = M := ⟨_, rfl⟩
  have wM : IntKind.i64.wrap (6 * (n : Int)) = (M : Int) := by rw [IntWalk.i64_in _ (by omega)]; omega
  have CBF := hide (fun W => bytesFor M W (by omega))
  obtain ⟨K, hK⟩ : ∃ K, (M + 7) / 8 = K := ⟨_, rfl⟩
  rw [hK] at CBF
  have HNO : Hid (SZ < K → ∀ w', Below w.heap.size w w' → GrSays x n w (.returned (.tuple #[.slice none 0 0, .iface 48 (.int .i64 2)])) w') := hide (fun h w' hb => ⟨Or.inl ⟨by rw [hM, hK, hSZ]; exact h, rfl⟩, hb⟩)
  have HOK : Hid (K ≤ SZ → ∀ v w', HasP w' w.heap.size v (qz (rgs (opn (byt x)) n) n n) → Below w.heap.size w w' → GrSays x n w (.returned (.tuple #[v, .nilIface])) w') := hide (fun h v w' hv hb => ⟨Or.inr ⟨by rw [hM, hK, hSZ]; exact h, v, rfl, by
    have e : (rgs (opn (byt x)) n).length = n := by unfold rgs; exact upto_length _ _
    have e2 := qz_all (rgs (opn (byt x)) n)
    rw [e] at e2
    rw [← e2]; exact hv⟩, hb⟩)
  by_cases hlt : SZ < K
  · have dl : decide ((SZ : Int) < (K : Int)) = true := by simp; omega
    have HP := hide (unhide HNO hlt w (Below.refl _ _))
    clear HNO HOK hM hK hSZ
    go_enter Tryz.func46, Tryz.ntmps46
    go_wp2_with fail
    refine (unhide CBF _).mono ?_
    rintro e w1 ⟨rfl, hw1⟩
    obtain rfl : w = w1 := hw1.symm
    go_wp2
    go_ret2
    exact unhide HP
  · have dl : decide ((SZ : Int) < (K : Int)) = false := by simp; omega
    have HOK2 := hide (unhide HOK (by omega))
    have hKS : K ≤ x.size := by omega
    have hK6 : K ≤ 6 := by omega
    have hKB : K ≤ (byt x).length := by rw [byt_length]; exact hKS
    obtain ⟨o1, o2⟩ := opn_whole (byt x) hKB hK6
    have HBY : Hid (byt (str ((byt x).take K)) = (byt x).take K) := hide (byt_str (Txt.byts_take (byt_byts x) K))
    have hcut : ∀ W, (Instr.slice 9 (.string x) none (some (.int .i64 (K : Int))) none).run Tryz.prog W = .ok (.string (str ((byt x).take K))) W := fun W => run_begin x hKS W
    obtain ⟨K8, hK8⟩ : ∃ K8, 8 * K = K8 := ⟨_, rfl⟩
    have wK8 : IntKind.i64.wrap (8 * (K : Int)) = (K8 : Int) := by rw [IntWalk.i64_in _ (by omega)]; omega
    have CBI := hide (fun W => bits_ok (str ((byt x).take K)) K8 W (by rw [str_size, List.length_take]; omega) (hide (by rw [unhide HBY, ← hK8]; exact o1)))
    rw [unhide HBY, ← hK8, o2, hK8] at CBI
    have HAL : Hid ((opn (byt x)).length = 8 * SZ) := hide (by rw [opn_length, byt_length, hSZ])
    have HBA : Hid (Bit (opn (byt x))) := hide (opn_bit (byt_byts x))
    obtain ⟨A, hA⟩ : ∃ A, opn (byt x) = A := ⟨_, rfl⟩
    rw [hA] at CBI HAL HBA HOK2
    have hMK : M ≤ K8 := by omega
    have HTT : Hid ((A.take K8).take M = A.take M) := hide (by rw [List.take_take, Nat.min_eq_left hMK])
    have HTL : Hid (M ≤ (A.take K8).length) := hide (by rw [List.length_take, unhide HAL]; omega)
    have hg6 := gets_six (A := A) (n := n) (unhide HBA) h8 (by rw [unhide HAL]; omega)
    rw [hM] at hg6
    have HTM : Hid ((A.take M).length = M) := hide (by rw [List.length_take, unhide HAL]; omega)
    have CGE := hide (fun W a cap b capb h h' hm hm9 => get_ok a cap (A.take M) b capb (List.replicate n 6) W h h' hm hm9 (by rw [List.length_replicate]; omega) (hide hg6.1))
    rw [hg6.2, unhide HTM, List.length_replicate] at CGE
    have CGW := hide (fun W => gainWidths n W h1 h8)
    obtain ⟨st, hst⟩ : ∃ st, str ((byt x).take K) = st := ⟨_, rfl⟩
    rw [hst] at CBI hcut
    have HGL : Hid ((rgs A n).length = n) := hide (by unfold rgs; exact upto_length _ _)
    have HZ := hide (qz_zero (rgs A n) n)
    obtain ⟨gs, hgs⟩ : ∃ gs, rgs A n = gs := ⟨_, rfl⟩
    rw [hgs] at CGE HGL HZ HOK2
    clear hgs hst hg6 hA o1 o2 HNO HOK HBA HAL hKB hKS HBY hM hK hK8 hSZ hMK
    go_enter Tryz.func46, Tryz.ntmps46
    go_wp2_with fail
    refine (unhide CBF _).mono ?_
    rintro e w1 ⟨rfl, hw1⟩
    obtain rfl : w = w1 := hw1.symm
    clear CBF
    go_wp2_with fail
    refine (unhide CBI _).mono ?_
    rintro e w2 ⟨v2, rfl, k2, hb2⟩
    clear CBI hcut
    obtain ⟨v3, hf3, k3⟩ := k2.first (unhide HTL)
    rw [unhide HTT] at k3
    obtain ⟨p2, n2, q2, rfl⟩ := k2.shape
    obtain ⟨p3, q3, rfl, r3, m3, m39⟩ := Ev.has_room k3
    rw [unhide HTM] at hf3 m3
    have hdr : Below w2.heap.size w2 w2.drew := ⟨rfl, rfl, rfl, Nat.le_refl _, fun _ _ => rfl⟩
    have HDB := hide (Below.chain hb2 hdr)
    have r3d : Row w2.drew p3 (A.take M) := r3
    clear k2 k3 HTT HTL hdr
    go_wp2
    go_region_with (first
      | (go_at_call 61; refine (unhide CGW _).mono ?_; rintro e w4 ⟨v4, rfl, k4, hb4⟩; obtain ⟨p4, q4, rfl, r4⟩ := k4.row; rw [List.length_replicate]; have r3e := r3d.below hb4)
      | (go_at_call 60; refine (unhide CGE _ _ _ _ _ r3e r4 m3 m39).mono ?_; rintro e w5 ⟨v5, rfl, k5, hb5⟩; obtain ⟨p5, q5, rfl, r5⟩ := k5.row; rw [unhide HGL]))
    all_goals (
      have hB5 := Below.chain (Below.chain (unhide HDB) hb4) hb5
      clear hb4 hb5 r3d r3e r4 k4 k5 HDB hb2 r3 hf3 m3 m39
      go_wp2_with (at_make; refine wpList_mkp _ rfl _ rfl n rfl (by omega) ?_; intro w6 k6 hb6 hlt6)
      rw [← unhide HZ] at k6
      clear HZ
      go_loopw [50] (fun i wr => ∃ k : Nat, k ≤ n ∧ i = .int .i64 k ∧ HasP wr w5.heap.size (.slice (some ⟨w5.heap.size, 0, none⟩) n n) (qz gs n k) ∧ Below w5.heap.size w5 wr) (fun i _ => n - (intOf i).toNat)
      case atStart => exact ⟨0, Nat.zero_le _, rfl, k6, hb6⟩
      case round =>
        obtain ⟨k, hk, rfl, hv, hB⟩ := hrel
        clear k6 hb6 hlt6
        by_cases hlt : k < n
        · obtain ⟨b1, off1, rfl, hb1, hc1⟩ := Bnd.cell_at (r5.below hB) (by rw [unhide HGL]; omega)
          have c1 := hc1 k (by rw [unhide HGL]; exact hlt)
          obtain ⟨G, hG⟩ : ∃ G, at0 gs k = G := ⟨_, rfl⟩
          rw [hG] at c1
          obtain ⟨c0, -⟩ := hv.get (qz_length _ _ _).symm (qz_at (gs := gs) (k := k) hlt)
          rw [if_neg (Nat.lt_irrefl _)] at c0
          have f0 := hv.frozen (qz_length _ _ _).symm (k * 2)
          obtain ⟨m1, m2⟩ := hv.put0 (qz_length _ _ _).symm (qz_at (gs := gs) (k := k) hlt) G
          rw [qz_set hlt hG] at m1
          have m3 : Below w5.heap.size w5 (wr.setCell ⟨w5.heap.size, k * 2, none⟩ (.int .i64 G)) := Below.setCell (p := ⟨w5.heap.size, k * 2, none⟩) hB (Nat.le_refl _) _
          have M1 := hide m1
          have M3 := hide m3
          clear hG m1 m2 m3 hv hB hc1
          go_wp2
          go_roundw
          case rel => exact ⟨k + 1, by omega, by go_num, unhide M1, unhide M3⟩
          case measure => simp [intOf]; omega
        · obtain rfl : n = k := by omega
          have HP := hide (unhide HOK2 _ wr (parts_mono hv hB5.size) (Below.chain hB5 hB))
          clear HOK2
          go_wp2
          go_ret2
          exact unhide HP)

end Go.Proofs.YtjojeifoddonnakGreatDoor.Pck

/-
  pack.readRanks: by its contract.
-/
namespace Go.Proofs.YtjojeifoddonnakGreatDoor.Pck
open Go.RowKit
open Go.Proofs.YtjojeifoddonnakGreatDoor.Tre Go.Proofs.YtjojeifoddonnakGreatDoor.Bnd Go.Proofs.YtjojeifoddonnakGreatDoor.Shr Go.Proofs.YtjojeifoddonnakGreatDoor.Frm Go.Proofs.YtjojeifoddonnakGreatDoor.Wid Go.Proofs.YtjojeifoddonnakGreatDoor.Hrn
set_option linter.unusedVariables false

/-- What readRanks tells. -/
def RkSays (x : ByteArray) (s gv : List Int) (w : World) (e : Ending) (w' : World) : Prop :=
  ((btF (byt x) ((6 * s.length + cost s gv : Nat) : Int) ≠ 0 ∧ ∃ E, e = .returned (.tuple #[.slice none 0 0, .iface 48 (.int .i64 E)])) ∨ (btF (byt x) ((6 * s.length + cost s gv : Nat) : Int) = 0 ∧ ∃ v, e = .returned (.tuple #[v, .nilIface]) ∧ Has w' w.heap.size v (upto (rr (opn (byt x)) s gv) s.length))) ∧ Below w.heap.size w w'

set_option maxRecDepth 100000 in
set_option maxHeartbeats 8000000 in
theorem readRanks (x : ByteArray) (a : Option Addr) (cap : Nat) (s gv : List Int) (w : World) (zx : x.size ≤ 9223372036854775807) (hr : Row w a (rws s gv)) (h8 : s.length ≤ 8) (hz : Hid (Sizes s)) (hp : Hid (Shr.Pls gv)) (hl : gv.length = s.length) :
    Calls Tryz.prog 49 #[.string x, .slice a s.length cap] w fun e w' => RkSays x s gv w e w' := by
  have HRL := hide (rws_length s gv)
  have HWD := hide (rws_wds (unhide hz) (unhide hp) hl)
  have CTO := hide (totalOf a cap (rws s gv) w hr (by rw [unhide HRL]; exact h8) HWD)
  rw [rws_total, unhide HRL] at CTO
  have hc15 := cs_le (unhide hz) (unhide hp) hl (Nat.le_refl _)
  obtain ⟨M, hM⟩ : ∃ M, 6 * s.length = M := ⟨_, rfl⟩
  have wM : IntKind.i64.wrap (6 * (s.length : Int)) = (M : Int) := by rw [IntWalk.i64_in _ (by omega)]; omega
  obtain ⟨T, hT⟩ : ∃ T, 6 * s.length + cost s gv = T := ⟨_, rfl⟩
  obtain ⟨C, hC⟩ : ∃ C, cost s gv = C := ⟨_, rfl⟩
  have hC120 : C ≤ 120 := by rw [← hC]; unfold cost; omega
  have hMT : M + C = T := by omega
  have wT : IntKind.i64.wrap ((M : Int) + (C : Int)) = (T : Int) := by rw [IntWalk.i64_in _ (by omega)]; omega
  have HNO : Hid (∀ E w', btF (byt x) (T : Int) ≠ 0 → Below w.heap.size w w' → RkSays x s gv w (.returned (.tuple #[.slice none 0 0, .iface 48 (.int .i64 E)])) w') := hide (fun E w' h hb => ⟨Or.inl ⟨by rw [hT]; exact h, E, rfl⟩, hb⟩)
  have HOK : Hid (∀ v w', btF (byt x) (T : Int) = 0 → Has w' w.heap.size v (upto (rr (opn (byt x)) s gv) s.length) → Below w.heap.size w w' → RkSays x s gv w (.returned (.tuple #[v, .nilIface])) w') := hide (fun v w' h hv hb => ⟨Or.inr ⟨by rw [hT]; exact h, v, rfl, hv⟩, hb⟩)
  rw [hC] at CTO
  by_cases hE : btF (byt x) (T : Int) = 0
  · have CBI := hide (fun W => bits_ok x T W zx (hide hE))
    obtain ⟨t1, t2, t3⟩ := btF_zero.1 hE
    have hlA : T ≤ (opn (byt x)).length := by rw [opn_length]; omega
    have hg := gets_rank (A := opn (byt x)) (opn_bit (byt_byts x)) (unhide hz) (unhide hp) hl (by rw [hT]; omega) (by rw [hT]; exact hlA)
    rw [hT, hM] at hg
    have HTL : Hid (((opn (byt x)).take T).length = T) := hide (by rw [List.length_take]; omega)
    have HDL : Hid ((((opn (byt x)).take T).drop M).length = C) := hide (by rw [List.length_drop, unhide HTL]; omega)
    have CGE := hide (fun W a' cap' h h' hm hm9 => get_ok a' cap' (((opn (byt x)).take T).drop M) a cap (rws s gv) W h h' hm hm9 (by rw [unhide HRL]; omega) (hide hg.1))
    rw [hg.2, unhide HDL, unhide HRL] at CGE
    have HP := hide (fun v w' => unhide HOK v w' hE)
    obtain ⟨A, hA⟩ : ∃ A, (opn (byt x)).take T = A := ⟨_, rfl⟩
    rw [hA] at CBI HTL HDL CGE
    obtain ⟨rs, hrs⟩ : ∃ rs, rws s gv = rs := ⟨_, rfl⟩
    rw [hrs] at CGE hr
    obtain ⟨N, hN⟩ : ∃ N, s.length = N := ⟨_, rfl⟩
    rw [hN] at CTO CGE HP wM h8 ⊢
    obtain ⟨us, hus⟩ : ∃ us, upto (rr (opn (byt x)) s gv) N = us := ⟨_, rfl⟩
    rw [hus] at CGE HP
    have hMC : T - M = C := by omega
    clear hus hrs hA hg HNO HOK t1 t2 t3 hlA hE hM hT hC hN hc15 hl HWD HRL
    go_enter Tryz.func49, Tryz.ntmps49
    go_wp2_with fail
    refine (unhide CTO).mono ?_
    rintro e w1 ⟨rfl, hw1⟩
    obtain rfl : w = w1 := hw1.symm
    clear CTO
    go_wp2_with fail
    refine (unhide CBI _).mono ?_
    rintro e w2 ⟨v2, rfl, k2, hb2⟩
    clear CBI
    obtain ⟨p2, q2, rfl, r2, m2, m29⟩ := Ev.has_room k2
    obtain ⟨p3, hf3, r3⟩ := row_rest r2 q2 m2 (t := M) (by rw [unhide HTL]; omega)
    rw [unhide HTL] at hf3 m2
    rw [unhide HTL]
    rw [hMC] at hf3
    have CG := unhide CGE w2 p3 (q2 - M) r3 (hr.below hb2) (by omega) (by omega)
    clear CGE k2 r2 r3
    go_wp2_with fail
    refine CG.mono ?_
    rintro e w4 ⟨v4, rfl, k4, hb4⟩
    obtain ⟨p9, n9, q9, rfl⟩ := k4.shape
    go_wp2
    go_ret2
    exact unhide HP _ _ (k4.mono hb2.size) (Below.chain hb2 hb4)
  · have CBI := hide (fun W => bits_no x (T : Int) _ W zx (hide rfl) (hide hE))
    have HP := hide (fun E w' => unhide HNO E w' hE)
    obtain ⟨F, hF⟩ : ∃ F, btF (byt x) (T : Int) = F := ⟨_, rfl⟩
    rw [hF] at CBI
    obtain ⟨N, hN⟩ : ∃ N, s.length = N := ⟨_, rfl⟩
    rw [hN] at CTO wM h8 ⊢
    clear HNO HOK hE hM hT hC hN hc15 hl HWD HRL hF
    go_enter Tryz.func49, Tryz.ntmps49
    go_wp2_with fail
    refine (unhide CTO).mono ?_
    rintro e w1 ⟨rfl, hw1⟩
    obtain rfl : w = w1 := hw1.symm
    clear CTO
    go_wp2_with fail
    refine (unhide CBI _).mono ?_
    rintro e w2 ⟨rfl, hb2⟩
    clear CBI
    go_wp2
    go_ret2
    exact unhide HP F w2 hb2

end Go.Proofs.YtjojeifoddonnakGreatDoor.Pck
