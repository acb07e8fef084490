/-
  HideSofter, over any player that answers as it is asked.
-/
import Derived.Test.Ytephagojpnfhcajhs41
import Derived.Test.Ytephagojpnfhcajhs42
import Derived.Test.Ytephagojpnfhcajhs01
import Derived.Test.Ytephagojpnfhcajhs05
import Derived.Test.Ytephagojpnfhcajhs33
import Derived.Deep.CutBlock
import Derived.Deep.DeepCutAuto
namespace Go.Proofs.Ytephagojpnfhcaj.Hid18
open Go.RowKit
open Go.Proofs.Ytephagojpnfhcaj.Tre Go.Proofs.Ytephagojpnfhcaj.Itr Go.Proofs.Ytephagojpnfhcaj.Bnd Go.Proofs.Ytephagojpnfhcaj.Frm Go.Proofs.Ytephagojpnfhcaj.Pck Go.Proofs.Ytephagojpnfhcaj.Hrn Go.Proofs.Ytephagojpnfhcaj.Ev
set_option linter.unusedVariables false

set_option maxRecDepth 100000 in
set_option maxHeartbeats 16000000 in
theorem softer_walk (H : PHolds) (C : PlayC H) (a : Option Addr) (cap : Nat) (s : List Int) (B : Int) (xb xc : ByteArray) (w : World) (hs : Row w a s) (zs : s.length ≤ 17592186044416) (zb : xb.size ≤ 9223372036854775807) (zc : xc.size ≤ 9223372036854775807) :
    Calls Try.prog 3 #[.slice a s.length cap, .int .i64 B, .string xb, .string xc] w fun e w' => e = .returned (.bool true) ∧ Below w.heap.size w w' := by
  have hrA := row_one w 2 3
  have hbA : Below w.heap.size w (w.alloc (.cells #[.int .i64 2] 3)) := (Below.refl _ _).alloc (Nat.le_refl _) _
  have CN1 := hide (C.new (some ⟨w.heap.size, 0, none⟩) 1 [2] 10 _ hrA (by decide))
  have HN1 : Hid (newF [2] 10 = 0) := hide (by decide +kernel)
  have HL1 : Hid (lostL [2] [] = [0, 0]) := hide (by decide +kernel)
  have CNS := hide (fun W h => C.new a cap s B W h zs)
  have CBA : Hid (newF s B = 0 → ∀ W, Row W a s → Calls Try.prog 9 #[.slice a s.length cap] W fun e w' => e = .returned (.tuple #[.int .i64 (total s : Int), .int .i64 0]) ∧ Below W.heap.size W w') := hide (fun h W hr => refBands_ok a cap s W (by omega) hr (hide (newF_zero.1 h).1))
  have HT32 : Hid (newF s B = 0 → total s ≤ 32 ∧ total s % 2 = 0) := hide (fun h => ⟨(bf_ok (newF_zero.1 h).1).2.2.2, (newF_zero.1 h).2.2.2⟩)
  obtain ⟨TT, hTT⟩ : ∃ TT, total s = TT := ⟨_, rfl⟩
  have HTT := hide hTT
  rw [hTT] at CBA HT32
  obtain ⟨N, hN⟩ : ∃ N, s.length = N := ⟨_, rfl⟩
  rw [hN] at CNS CBA ⊢
  have hWs : w.heap.size ≤ (w.alloc (.cells #[.int .i64 2] 3)).heap.size := hbA.size
  clear hTT hN zs
  go_enter Try.func3, Try.ntmps3
  go_wp2_with fail
  refine (unhide CN1).mono ?_
  rintro e w1 ⟨hsay, hb1⟩
  rcases hsay with ⟨hne, -⟩ | ⟨-, b1, Q1, rfl, hH1, hq1⟩
  · exact absurd (unhide HN1) hne
  have hB1 := Below.chain hbA hb1
  have hq1' : ∀ j, Q1 j → w.heap.size ≤ j := fun j hj => Nat.le_trans hWs (hq1 j hj)
  have CL := hide (C.lose hH1 (by omega) (by omega))
  rw [unhide HL1] at CL
  clear CN1 HN1 HL1 hb1 hbA hrA hq1 hWs hH1
  go_wp2_with fail
  refine (unhide CL).mono ?_
  rintro e w2 ⟨po, qo, rfl, r2, -, -, hl2⟩
  obtain ⟨Q2, hH2, hq2, hB2⟩ := hl2.on hq1' hB1 hB1.size
  obtain ⟨g, off, rfl, hgw, hc⟩ := r2.row.at (k := 0) (by simp)
  have c0 : w2.cell? ⟨g, off, none⟩ = some (.int .i64 0) := hc 0 (by simp)
  have CT := hide (C.lost hH2)
  have e01 : ((0 : Int) + 1) = 1 := by decide
  rw [e01] at CT
  clear CL hl2 hq1' hB1 hc r2 hH2
  go_wp2_with fail
  refine (unhide CT).mono ?_
  rintro e w3 ⟨rfl, hb3⟩
  have hB3 := Below.chain hB2 hb3
  have C1 := hide (unhide CNS w3 (hs.below hB3))
  clear CT hb3 hB2 hgw c0
  go_wp2_with fail
  refine (unhide C1).mono ?_
  rintro e w4 ⟨hsay4, hb4⟩
  have hB4 := Below.chain hB3 hb4
  have C2 := hide (unhide CNS w4 (hs.below hB4))
  clear C1 CNS
  rcases hsay4 with ⟨hne, rfl⟩ | ⟨h0, bp, Qp, rfl, hHp, hqp⟩
  · rw [errV_ne hne]
    go_wp2_with fail
    refine (unhide C2).mono ?_
    rintro e w5 ⟨hsay5, hb5⟩
    rcases hsay5 with ⟨hne, rfl⟩ | ⟨h0, _⟩
    · rw [errV_ne hne]
      go_wp2
      go_ret
      exact ⟨rfl, Below.chain hB4 hb5⟩
    · exact absurd h0 hne
  · go_wp2_with fail
    refine (unhide C2).mono ?_
    rintro e w5 ⟨hsay5, hb5⟩
    rcases hsay5 with ⟨hne, _⟩ | ⟨-, bq, Qq, rfl, hHq, hqq⟩
    · exact absurd h0 hne
    have T5 : Two H s B w w5 Qp Qq bp bq [] 0 [] 0 := ⟨C.below hHp hb5, hHq, fun j hj hq => by have h1 := C.old hHp j hj; have h2 := hqq j hq; omega, fun j hj => Nat.le_trans hB3.size (hqp j hj), fun j hj => Nat.le_trans hB4.size (hqq j hj), Below.chain hB4 hb5⟩
    have CPl := hide (C.play xb T5.p zb)
    have CB2 := hide (unhide CBA h0)
    obtain ⟨t32, te⟩ := unhide HT32 h0
    clear C2 CBA hHp hqp hHq hqq hb4 hb5 hB4 hB3 HT32 h0
    go_wp2_with fail
    refine (unhide CPl).mono ?_
    rintro e w6 ⟨E6, p6, q6, o6, lp, k6, rfl, hP6, hk6, hk6', -, -, -, hl6⟩
    have hk0 : k6 = 0 := by
      by_cases h : E6 = 0
      · exact hk6 h
      · exact hk6' h
    subst hk0
    obtain ⟨Q6, T6⟩ := T5.left C hl6
    have CB3 := hide (unhide CB2 w6 (hs.below T6.below))
    clear CPl CB2 T5 hl6 hk6 hk6' hP6
    go_wp2_with fail
    refine (unhide CB3).mono ?_
    rintro e w7 ⟨rfl, hb7⟩
    have T7 := T6.on C hb7
    have HWG := hide (C.ok T7.p).2
    have HLL : Hid (∀ i, (lostL s (softs i lp)).length = TT) := hide (fun i => by rw [lost_length (softs_was (unhide HWG).1 i) (by rw [unhide HTT]; exact te), unhide HTT])
    have HLZ : Hid (lostL s (softs 13 lp) = List.replicate TT 0) := hide (by rw [lost_silent (unhide HWG).1 (by rw [unhide HTT]; exact te) (unhide HWG).2 (Nat.le_refl _), unhide HTT])
    clear CB3 T6 hb7
    go_wp2
    go_loopw [16, 19] (fun v i wr => ∃ (I : Nat) (Q : Nat → Prop), I ≤ 14 ∧ i = .int .i64 I ∧ Two H s B w wr Q Qq bp bq (softs I lp) (I : Int) [] 0 ∧ Hid (I = 14 → ∃ po qo, v = .slice po TT qo ∧ Row wr po (List.replicate TT 0))) (fun _ i _ => 14 - (intOf i).toNat)
    case atStart => exact ⟨0, Q6, by omega, rfl, T7, hide (fun h => by omega)⟩
    case round =>
      obtain ⟨I, Q, hI, rfl, TI, HV⟩ := hrel
      clear T7
      by_cases hlt : I < 14
      · have e1 : decide ((I : Int) < 14) = true := decide_eq_true (by omega)
        have e1' : decide (I < 14) = true := decide_eq_true hlt
        have CLo := hide (C.lose TI.p (by omega) (by omega))
        rw [unhide HLL I] at CLo
        have dT : ((TT : Int) != (TT : Int)) = false := by simp
        go_wp2_with fail
        refine (unhide CLo).mono ?_
        rintro e w8 ⟨p8, q8, rfl, r8, -, -, hl8⟩
        obtain ⟨Q8, T8⟩ := TI.left C hl8
        have hV8 : Hid (I + 1 = 14 → ∃ po qo, (Value.slice p8 TT q8) = .slice po TT qo ∧ Row w8 po (List.replicate TT 0)) := hide (fun h => by
          obtain rfl : I = 13 := by omega
          have := r8.row
          rw [unhide HLZ] at this
          exact ⟨p8, q8, rfl, this⟩)
        have T8' : Two H s B w w8 Q8 Qq bp bq (softs (I + 1) lp) ((I + 1 : Nat) : Int) [] 0 := T8
        clear CLo hl8 TI HV T8 r8
        go_wp2
        go_roundw
        case rel => exact ⟨I + 1, Q8, by omega, by go_num, T8', hV8⟩
        case measure => simp [intOf]; omega
      · obtain rfl : I = 14 := by omega
        obtain ⟨po, qo, rfl, rz⟩ := unhide HV rfl
        have e1 : decide ((14 : Int) < 14) = false := by decide
        have HRZ := hide rz
        clear HV hlt hI rz
        go_wp2
        go_loopw [20] (fun i wx => ∃ J : Nat, J ≤ TT ∧ i = .int .i64 J ∧ wr = wx) (fun i _ => TT - (intOf i).toNat)
        case atStart => exact ⟨0, Nat.zero_le _, rfl, rfl⟩
        case round =>
          obtain ⟨J, hJ, rfl, hwx⟩ := hrel
          obtain rfl := hwx
          by_cases hltJ : J < TT
          · obtain ⟨g, off, rfl, _, hc⟩ := Bnd.cell_at (unhide HRZ) (by rw [List.length_replicate]; omega)
            have cJ := hc J (by rw [List.length_replicate]; exact hltJ)
            have eJ : at0 (List.replicate TT (0 : Int)) J = 0 := by unfold at0; rw [List.getElem?_replicate, if_pos hltJ]; rfl
            rw [eJ] at cJ
            clear hc eJ
            go_wp2
            go_roundw
            case rel => exact ⟨J + 1, by omega, by go_num, by first | trivial | rfl⟩
            case measure => simp [intOf]; omega
          · obtain rfl : TT = J := by omega
            have CP1 := hide (C.play xc TI.p zc)
            clear hltJ hJ HRZ
            go_wp2_with fail
            refine (unhide CP1).mono ?_
            rintro e w9 ⟨E9, p9, q9, o9, l9, k9, rfl, hP9, hk9, -, r9, m9, m99, hl9⟩
            obtain ⟨Q9, T9⟩ := TI.left C hl9
            have hold := C.old TI.q
            have CP2 := hide (C.play xc T9.q zc)
            clear CP1 hl9
            go_wp2_with fail
            refine (unhide CP2).mono ?_
            rintro e w10 ⟨E10, p10, q10, o10, l10, k10, rfl, hP10, -, -, r10, -, -, hl10⟩
            obtain ⟨⟨Q10, T10⟩, hk10⟩ := T9.right C hl10
            obtain ⟨hE, ho, -⟩ := PlayF.one (o := []) (o' := []) hP9 hP10
            subst hE ho
            have rx : Row w10 p9 o9 := Keeps.rowN hk10 r9 (fun j hj hq => by have := hold j hq; omega)
            have ry : Row w10 p10 o9 := r10.row
            have CI : Hid (∀ W : Cls w10, Calls Try.prog 10 #[.slice p9 o9.length q9, .slice p10 o9.length q10] W.val fun e w' => e = .returned (.bool true) ∧ Below W.val.heap.size W.val w') := hide (fun W => Same.ints_same p9 q9 p10 q10 o9 W.val (by omega) (rx.below W.ok) (ry.below W.ok))
            have CT : Hid (∀ W : Cls w10, Calls Try.prog 7 #[.pointer (some ⟨bp, 0, none⟩)] W.val fun e w' => e = .returned (.int .i64 k9) ∧ Below W.val.heap.size W.val w') := hide (fun W => C.lost (T10.on C W.ok).p)
            have hB10 := T10.below
            obtain ⟨NO, hNO⟩ : ∃ NO, o9.length = NO := ⟨_, rfl⟩
            rw [hNO] at CI ⊢
            clear CP2 hl10 hk10 T9 T10 TI rx ry r9 r10 hP9 hP10 hold m9 m99 hNO
            by_cases hE : E9 = 0
            · subst hE
              obtain rfl := hk9 rfl
              rw [errV_zero]
              have z0 : ((0 : Int) == 0) = true := by decide
              clear hk9
              go_upto_region 27 with fail
              refine region_calm (by kernel_rfl) (by kernel_rfl) ?_
              repeat (go_big_quiet_step (first | (go_at_call 10; exact calm_call (unhide CI _)) | (go_at_call 7; exact calm_call (unhide CT _))))
              refine wpQuiet_nil ?_
              intro _ hw'
              obtain ⟨WQ, hw''⟩ := hw'
              subst hw''
              go_wp2
              go_ret
              exact ⟨rfl, Below.chain hB10 WQ.ok⟩
            · rw [errV_ne hE]
              clear hk9
              go_upto_region 27 with fail
              refine region_calm (by kernel_rfl) (by kernel_rfl) ?_
              repeat (go_big_quiet_step (first | (go_at_call 10; exact calm_call (unhide CI _)) | (go_at_call 7; exact calm_call (unhide CT _))))
              refine wpQuiet_nil ?_
              intro _ hw'
              obtain ⟨WQ, hw''⟩ := hw'
              subst hw''
              go_wp2
              go_ret
              exact ⟨rfl, Below.chain hB10 WQ.ok⟩

end Go.Proofs.Ytephagojpnfhcaj.Hid18
