/-
  hornref1's Far, alone: by its contract.
-/
import Derived.Test.YthkibjhhlcfceaiDoorCh00
import Derived.Test.YthkibjhhlcfceaiDoorCh27
import Derived.Test.YthkibjhhlcfceaiDoorCh32
import Derived.Test.YthkibjhhlcfceaiDoorCh10
import Derived.Test.YthkibjhhlcfceaiDoorCh24
import Derived.Test.YthkibjhhlcfceaiDoorCh15
import Derived.Test.YthkibjhhlcfceaiDoorCh25
import Derived.Test.YthkibjhhlcfceaiDoorCh28
namespace Go.Proofs.YthkibjhhlcfceaiDoor.Gai
open Go.RowKit
set_option linter.unusedVariables false

theorem refFar1 (n : Int) (w : World) (h0 : -1000000 ≤ n) (h1 : n ≤ 1000000) :
    Calls Tryd.prog 14 #[.int .i64 n] w fun e w' => e = .returned (.int .i64 (n.natAbs : Int)) ∧ w' = w := by
  by_cases h : n < 0
  all_goals
    go_enter Tryd.func14, Tryd.ntmps14
    go_wp2
    go_ret
    exact ⟨ret_int (by omega), rfl⟩

end Go.Proofs.YthkibjhhlcfceaiDoor.Gai

/-
  The walk of hornlaw2.FrameRight.
-/
namespace Go.Proofs.YthkibjhhlcfceaiDoor.FrameRightLaw
open Go.RowKit
open Go.Proofs.YthkibjhhlcfceaiDoor.Tre Go.Proofs.YthkibjhhlcfceaiDoor.Frm Go.Proofs.YthkibjhhlcfceaiDoor.Ev Go.Proofs.YthkibjhhlcfceaiDoor.Aser
set_option linter.unusedVariables false

/-- The frame of two eights. -/
theorem fact (w : World) (t1 t2 : TypeId) :
    Calls Tryd.prog 5 #[.slice (some ⟨w.heap.size, 0, none⟩) 2 2, .slice (some ⟨w.heap.size + 1, 0, none⟩) 1 1, .int .i64 10] ((w.alloc (.cells #[.int .i64 8, .int .i64 8] t1)).alloc (.cells #[.int .i64 2] t2)) fun e w' =>
      ∃ b off c b2 off2 c2, e = .returned (.tuple #[.slice (some ⟨b, off, none⟩) 1 c, .nilIface]) ∧ w'.cell? ⟨b, off, none⟩ = some (.int .i64 13) ∧ w'.cell? ⟨b, off + 1, none⟩ = some (.slice (some ⟨b2, off2, none⟩) 2 c2) ∧ w'.cell? ⟨b2, off2, none⟩ = some (.int .i64 8) ∧ w'.cell? ⟨b2, off2 + 1, none⟩ = some (.int .i64 0) ∧ 1 ≤ c ∧ c ≤ 9223372036854775807 ∧ 2 ≤ c2 ∧ c2 ≤ 9223372036854775807 ∧ Below w.heap.size w w' := by
  have hb1 : Below w.heap.size w (w.alloc (.cells #[.int .i64 8, .int .i64 8] t1)) := (Below.refl _ _).alloc (Nat.le_refl _) _
  have r1 := row_two w 8 8 t1
  have e1 : (w.alloc (.cells #[.int .i64 8, .int .i64 8] t1)).heap.size = w.heap.size + 1 := by simp
  have hb2 : Below (w.alloc (.cells #[.int .i64 8, .int .i64 8] t1)).heap.size (w.alloc (.cells #[.int .i64 8, .int .i64 8] t1)) ((w.alloc (.cells #[.int .i64 8, .int .i64 8] t1)).alloc (.cells #[.int .i64 2] t2)) := (Below.refl _ _).alloc (Nat.le_refl _) _
  have r2 : Row ((w.alloc (.cells #[.int .i64 8, .int .i64 8] t1)).alloc (.cells #[.int .i64 2] t2)) (some ⟨w.heap.size + 1, 0, none⟩) [2] := row_one' e1
  have h := Frm.encode (some ⟨w.heap.size, 0, none⟩) 2 [8, 8] (some ⟨w.heap.size + 1, 0, none⟩) 1 [2] 10 _ (r1.below hb2) r2 (by simp) (by simp)
  refine h.mono ?_
  rintro e w' ⟨p, q, ps, he, hp, m3, m9, hl, hb⟩
  have hm : Made (Bnd.cuts (Lap.lap [8, 8]) [2]) [2] 10 ps := by
    rcases hl with ⟨h, _⟩ | ⟨_, h⟩
    · exact absurd fact_enc h
    · exact h
  obtain rfl := fact_made hm
  rw [fact_enc, errV_zero] at he
  obtain ⟨b, off, rfl, _, hc⟩ := hp.at (k := 0) (by simp)
  obtain ⟨x1, A, C, x2, x3, x4, x5, x6⟩ := hc 0 (by simp)
  obtain ⟨b2, off2, rfl, _, hc2⟩ := x6.at (k := 0) (by simp [prt])
  exact ⟨b, off, q, b2, off2, C, he, x1, x2, hc2 0 (by simp [prt]), hc2 1 (by simp [prt]), m3, m9, x4, x5, Below.chain (Below.chain hb1 hb2) hb⟩

set_option maxRecDepth 100000 in
set_option maxHeartbeats 64000000 in
theorem walk0 (a0 : Option Addr) (cap0 : Nat) (l : List Int) (a1 : Option Addr) (cap1 : Nat) (s : List Int) (B : Int) (w : World) (hL : Laid w) (hr0 : Row w a0 l) (zl : l.length ≤ 17592186044416) (hr1 : Row w a1 s) (zs : s.length ≤ 17592186044416) :
    Calls Tryd.prog 3 #[.slice a0 l.length cap0, .slice a1 s.length cap1, .int .i64 B] w fun e w' => e = .returned (.bool true) ∧ Below w.heap.size w w' := by
  have hgd := guard_err
  have hne := neq_err
  have CEN := hide (fun W h h' => Frm.encode a0 cap0 l a1 cap1 s B W h h' (by omega) zs)
  unfold EncSays at CEN
  obtain ⟨L, hLL⟩ : ∃ L, l.length = L := ⟨_, rfl⟩
  have HLL := hide hLL
  obtain ⟨N, hN⟩ : ∃ N, s.length = N := ⟨_, rfl⟩
  have HN := hide hN
  by_cases hEF : encF l s B = 0
  · obtain ⟨h1, h2, h3, h4, h5, h6, h7⟩ := encF_zero.1 hEF
    obtain ⟨n0, n8, hsz, n32⟩ := Bnd.bf_ok h1
    have HMM : Hid (∀ ps, EncL l s B ps → Made (Bnd.cuts (Lap.lap l) s) s B ps) := hide (fun ps h => by
      rcases h with ⟨h, _⟩ | ⟨_, h⟩
      · exact absurd hEF h
      · exact h)
    have HRT : Hid (∀ ps, EncL l s B ps → Right s B ps) := hide (fun ps h => made_right hEF (unhide HMM ps h))
    have HQT : Hid (∀ ps, EncL l s B ps → (∀ r, r < l.length → at0 l r = 0) → _) := hide (fun ps h hq => quiet_is hEF (unhide HMM ps h) hq)
    have HFR : Hid (∀ ps, Right s B ps → FrmF ps s B 0) := hide (fun ps h => h.frm h1 ⟨h5, h6⟩)
    have HCO : Hid (∀ ps, Right s B ps → (lds ps = given (gns ps) s B ∧ Shr.costF s (lds ps) = 0 ∧ (Shr.cost s (lds ps) : Int) ≤ B)) := hide (fun ps h => h.costs h1 h5)
    have HDE : Hid (∀ ps, Right s B ps → decF ps = if (all ps).any (out 4000) = true then 1 else 0) := hide (fun ps h => h.dec h1 h3)
    have HTO : Hid (∀ ps, Right s B ps → (all ps).length = l.length) := hide (fun ps h => h.told h2)
    have HCK := hide (fun p q ps W hp hs hz hz' => Frm.check p q ps a1 cap1 s B W hp hs hz hz' zs)
    rw [hEF, errV_zero] at CEN
    have hLe : L % 2 = 0 ∧ L ≤ 32 := by omega
    rw [hLL] at CEN HTO HQT ⊢
    rw [hN] at CEN HCK n0 n8 ⊢
    clear h1 h2 h3 h4 h7 hsz n32 hEF HMM hLL hN zl zs
    go_enter Tryd.func3, Tryd.ntmps3
    go_wp2_with fail
    refine (fact w _ _).mono ?_
    rintro e w1 ⟨b0, off0, c0, b2, off2, c2, rfl, f1, f2, f3, f4, f5, f6, f7, f8, hb1⟩
    go_wp2_with fail
    refine (unhide CEN w1 (hr0.below hb1) (hr1.below hb1)).mono ?_
    rintro e w3 ⟨p3, q3, ps, rfl, P3, m3, m9, L3, hb3⟩
    have R3 := unhide HRT ps L3
    obtain ⟨_, c2', c3'⟩ := unhide HCO ps R3
    have HC2 := hide c2'
    have HC3 := hide c3'
    have HF3 := hide (unhide HFR ps R3)
    have HD3 := hide (unhide HDE ps R3)
    have HT3 := hide (unhide HTO ps R3)
    have HQ3 := hide (unhide HQT ps L3)
    have HOK := hide R3.ok
    have HR3 := hide R3
    have hB3 := Below.chain hb1 hb3
    have HPN : Hid (ps.length = N) := hide (R3.len.trans (unhide HN))
    have HFL : Hid (∀ i, i < ps.length → (prt ps i).2.length ≤ 17592186044416) := hide (fun i hi => by
      have := (Pls.fault_ok (R3.ok i hi).2).1
      omega)
    have c4 := unhide HCK p3 q3 ps w3 P3 (hr1.below hB3) (by rw [unhide HPN]; omega) HFL
    have CDE := hide (fun W h => Frm.decode p3 q3 ps W h (by rw [unhide HPN]; omega) HFL)
    rw [unhide HPN] at m3 c4 CDE ⊢
    have hNN : ((N : Int) != (N : Int)) = false := by simp
    clear CEN HRT HCO HFR HDE HTO HQT HCK L3 R3 c2' c3' f1 f2 f3 f4 f5 f6 f7 f8 hb1 hb3
    go_wp2_with fail
    refine c4.mono ?_
    clear c4
    rintro e w4 ⟨E4, rfl, hf4, hb4⟩
    obtain rfl := hf4.one (unhide HF3)
    rw [errV_zero]
    have P4 := P3.below hb4
    have hB4 := Below.chain hB3 hb4
    clear hf4 HF3 P3 hB3 hb4
    go_wp2
    go_loopw [11, 12] (fun k i wr => ∃ j : Nat, j ≤ N ∧ i = .int .i64 j ∧ Has wr w4.heap.size k (lds (ps.take j)) ∧ Below w4.heap.size w4 wr) (fun _ i _ => N - (intOf i).toNat)
    case atStart => exact ⟨0, Nat.zero_le _, rfl, Has.nil _ _, Below.refl _ _⟩
    case round =>
      obtain ⟨j, hj, rfl, hk, hB⟩ := hrel
      by_cases hlt : j < N
      · have hlt1 : j < ps.length := by rw [unhide HPN]; exact hlt
        obtain ⟨b1, off1, rfl, hb1, hc1⟩ := (P4.below hB).at hlt1
        obtain ⟨x1, A, C, x2, x3, x4, x5, x6⟩ := hc1 j hlt1
        obtain ⟨o1, o2⟩ := unhide HOK j hlt1
        have CP := Pls.check_ok A C (prt ps j).2 wr x6 (hide o2)
        have HK1 : Hid (lds (ps.take (j + 1)) = lds (ps.take j) ++ [(Pls.loud (prt ps j).2 : Int)]) := hide (by
          unfold lds
          rw [List.take_succ_eq_append_getElem hlt1, List.map_append, prt_get hlt1]
          rfl)
        obtain ⟨X, hX⟩ : ∃ X, Pls.loud (prt ps j).2 = X := ⟨_, rfl⟩
        obtain ⟨LP, hLP⟩ : ∃ LP, (prt ps j).2.length = LP := ⟨_, rfl⟩
        rw [hX] at CP HK1
        rw [hLP] at x2 CP
        have hln1 : Hid ((lds (ps.take j)).length + [(X : Int)].length ≤ 1000000) := hide (by rw [lds_length, List.length_take, unhide HPN]; simp; omega)
        clear hc1 hX hLP o1 o2 x1 x3 x4 x5 x6 hlt1
        go_wp2_with fail
        refine CP.mono ?_
        rintro e w5 ⟨rfl, hb5⟩
        have hk5 := hk.below hb5
        have hB5 := Below.chain hB hb5
        have hWs := hB5.size
        clear CP hB hb5 x2 hk
        go_wp2_with (at_builtin; refine wpList_app _ rfl _ _ rfl w4.heap.size u11 (lds (ps.take j)) [(X : Int)] _ _ rfl (hk5.alloc _) rfl (row_one _ _ _) (unhide hln1) (by simp; omega) ?_; intro s6 w6 k6 g6 at6; have hB6 := hB5.trans (stepped_plain hk5 hWs k6 g6 at6).1)
        rw [← unhide HK1] at k6
        go_wp2
        go_roundw
        case rel => exact ⟨j + 1, by omega, by go_num, k6, hB6⟩
        case measure => simp [intOf]; omega
      · obtain rfl : N = j := by omega
        have eT : ps.take N = ps := by rw [← unhide HPN, List.take_length]
        rw [eT] at hk
        have hB6 := Below.chain hB4 hB
        have P6 := P4.below hB
        obtain ⟨pk, qk, hu, rk⟩ := hk.row
        have CC := Shr.cost_ok a1 cap1 s pk qk (lds ps) wr (hr1.below hB6) rk HC2
        rw [lds_length, unhide HPN, unhide HN] at CC
        rw [lds_length, unhide HPN] at hu
        rw [hu]
        have hc9 := unhide HC3
        obtain ⟨CST, hCS⟩ : ∃ CS, Shr.cost s (lds ps) = CS := ⟨_, rfl⟩
        rw [hCS] at CC hc9
        have dC : decide (B < (CST : Int)) = false := by simp; omega
        clear hCS hk hB hB4 P4 eT HC2 HC3 hu
        go_wp2_with fail
        refine CC.mono ?_
        clear CC
        rintro e w7 ⟨rfl, hb7⟩
        have hB7 := Below.chain hB6 hb7
        have P7 := P6.below hb7
        have rk7 := rk.below hb7
        have c8 := unhide CDE w7 P7
        clear hb7 hB6 P6 rk CDE
        by_cases hany : (all ps).any (out 4000) = true
        · have hd : decF ps = 1 := by rw [unhide HD3, if_pos hany]
          have hdl : decL ps = [] := by unfold decL; rw [if_neg (by rw [hd]; omega)]
          rw [hd, hdl] at c8
          clear hd hdl hany
          have d1 : decide ((1 : Int) ≠ 0) = true := by decide
          go_wp2_with fail
          refine c8.mono ?_
          clear c8
          rintro e w8 ⟨p8, q8, rfl, r8, m8, m89, hb8⟩
          have hB8 := Below.chain hB7 hb8
          go_wp2_with fail
          refine (error_any 1 _ (hL.below hB8)).mono ?_
          rintro e w9 ⟨rfl, hb9⟩
          go_wp2
          go_ret
          exact ⟨rfl, Below.chain hB8 hb9⟩
        · have hd : decF ps = 0 := by rw [unhide HD3, if_neg hany]
          have hdl : decL ps = Lap.unlap (all ps) := by unfold decL; rw [if_pos hd]
          have h4000 : In 4000 (all ps) := in_of_any (by simpa using hany)
          have hal := unhide HT3
          have hul : (Lap.unlap (all ps)).length = L := by rw [Lap.unlap_length (by omega), hal]
          have HLU : Hid (Lap.lap (Lap.unlap (all ps)) = all ps) := hide (Lap.lap_unlap (by omega))
          have HAB : Hid (∀ i q, i < ps.length → q < (prt ps i).2.length → (at0 (all ps) (Bnd.pre s i + q)).natAbs = (at0 (prt ps i).2 q).natAbs * Gai.vl (prt ps i).1.toNat / Pls.loud (prt ps i).2) := hide (fun i q hi hq => all_abs (unhide HR3) hi hq)
          have HIN : Hid (∀ i, i < ps.length → Bnd.pre s i + (prt ps i).2.length ≤ L) := hide (fun i hi => by rw [← hal]; exact (unhide HR3).inside hi)
          have HPR : Hid (∀ i, i < ps.length → Bnd.pre s (i + 1) = Bnd.pre s i + (prt ps i).2.length) := hide (fun i hi => (unhide HR3).pre hi)
          have H4K : Hid (∀ r, r < L → (at0 (all ps) r).natAbs ≤ 4000) := hide (fun r hr => by
            have e : at0 (all ps) r = (all ps)[r]'(by omega) := by simp [at0, show r < (all ps).length by omega]
            have := h4000 _ (List.getElem_mem (show r < (all ps).length by omega))
            rw [e]
            omega)
          rw [hd, hdl, errV_zero, hul] at c8
          have HUL := hide hul
          have HAL := hide hal
          have HQ4 : Hid ((∀ r, r < L → at0 l r = 0) → (∀ i, i < ps.length → (prt ps i).1 = 0) ∧ ∀ r, r < L → at0 (Lap.unlap (all ps)) r = 0) := HQ3
          obtain ⟨OUT, hOUT⟩ : ∃ OUT, Lap.unlap (all ps) = OUT := ⟨_, rfl⟩
          rw [hOUT] at c8 HUL HLU HQ4
          obtain ⟨AP, hAP⟩ : ∃ AP, all ps = AP := ⟨_, rfl⟩
          rw [hAP] at HLU HAB H4K HAL
          clear hd hdl hany h4000 hal hul hOUT hAP HD3 HT3 HR3 HQ3
          go_wp2_with fail
          refine c8.mono ?_
          clear c8
          rintro e w8 ⟨p8, q8, rfl, r8, m8, m89, hb8⟩
          have hB8 := Below.chain hB7 hb8
          have P8 := P7.below hb8
          have rk8 := rk7.below hb8
          clear hb8 hB7 P7 rk7
          by_cases hs1 : OUT.any (out 1000) = true
          · have CS := Lap.snd_no p8 q8 OUT w8 (by rw [unhide HUL]; omega) (hide hs1) r8
            rw [unhide HUL] at CS
            clear hs1
            go_wp2_with fail
            refine CS.mono ?_
            rintro e w9 ⟨rfl, hb9⟩
            go_wp2
            go_ret
            exact ⟨rfl, Below.chain hB8 hb9⟩
          · have hi1 : In 1000 OUT := in_of_any (by simpa using hs1)
            have CS := Lap.snd_ok p8 q8 OUT w8 (by rw [unhide HUL]; omega) hi1 r8
            have CF := hide (fun W h => Lap.fwd_ok p8 q8 OUT W (by rw [unhide HUL]; omega) h (hide (Lap.chk_of (by rw [unhide HUL]; omega) (by rw [unhide HUL]; omega) hi1)))
            rw [unhide HLU] at CF
            rw [unhide HUL] at CS CF
            clear hs1 hi1 HLU
            go_wp2_with fail
            refine CS.mono ?_
            clear CS
            rintro e w9 ⟨rfl, hb9⟩
            have hB9 := Below.chain hB8 hb9
            have P9 := P8.below hb9
            have rk9 := rk8.below hb9
            have r9 := r8.below hb9
            clear hb9 hB8 P8 rk8 r8
            go_wp2_with fail
            refine (unhide CF w9 r9).mono ?_
            clear CF
            rintro e wa ⟨va, rfl, ka, hba⟩
            obtain ⟨pa, qa, rfl, ra⟩ := ka.row
            rw [unhide HAL]
            have hBa := Below.chain hB9 hba
            have Pa := P9.below hba
            have rka := rk9.below hba
            have roa := r9.below hba
            have hLLi : ((L : Int) != (L : Int)) = false := by simp
            have hL32 : L ≤ 32 := hLe.2
            clear hba hB9 P9 rk9 r9 ka
            go_wp2
            go_loopw [19, 20, 21] (fun at_ t i wr => ∃ (j A : Nat) (T : Bool), j ≤ N ∧ i = .int .i64 j ∧ at_ = .int .i64 A ∧ Hid (A = Bnd.pre s j) ∧ t = .bool T ∧ Hid ((∀ r, r < L → at0 l r = 0) → T = true) ∧ wa = wr) (fun _ _ i _ => N - (intOf i).toNat)
            case atStart => exact ⟨0, 0, true, Nat.zero_le _, rfl, rfl, rfl, rfl, hide (fun _ => rfl), rfl⟩
            case round =>
              obtain ⟨j, A, T, hj, rfl, rfl, HA, rfl, HT, rfl⟩ := hrel
              by_cases hlt : j < N
              · have hlt1 : j < ps.length := by rw [unhide HPN]; exact hlt
                obtain ⟨b1, off1, rfl, hb1, hc1⟩ := Pa.at hlt1
                obtain ⟨x1, PA, PC, x2, x3, x4, x5, x6⟩ := hc1 j hlt1
                obtain ⟨o1, o2⟩ := unhide HOK j hlt1
                have hp6 := (Pls.fault_ok o2).1
                obtain ⟨y1, y2, y3⟩ : 0 ≤ (prt ps j).1 ∧ (prt ps j).1 ≤ 53 ∧ Gai.vo (prt ps j).1.toNat = true := by
                  unfold gok at o1
                  simp only [Bool.and_eq_true, decide_eq_true_eq] at o1
                  exact ⟨o1.1.1, o1.1.2, o1.2⟩
                have hlk : j < (lds ps).length := by rw [lds_length]; exact hlt1
                obtain ⟨bk, offk, rfl, _, hck⟩ := rka.at hlk
                have k1 := hck j hlk
                have ek : (lds ps).getD j 0 = (Pls.loud (prt ps j).2 : Int) := by rw [List.getD_eq_getElem?_getD]; exact lds_at hlt1
                rw [ek] at k1
                have HAJ : Hid (∀ q, q < (prt ps j).2.length → (at0 AP (A + q)).natAbs = (at0 (prt ps j).2 q).natAbs * Gai.vl (prt ps j).1.toNat / Pls.loud (prt ps j).2) := hide (fun q hq => by rw [unhide HA]; exact unhide HAB j q hlt1 hq)
                have hin := unhide HIN j hlt1
                rw [← unhide HA] at hin
                have HPJ : Hid (A + (prt ps j).2.length = Bnd.pre s (j + 1)) := hide (by rw [unhide HPR j hlt1, unhide HA])
                have HQJ : Hid ((∀ r, r < L → at0 l r = 0) → (prt ps j).1 = 0) := hide (fun h => (unhide HQ4 h).1 j hlt1)
                have HQB : Hid (0 < Pls.loud (prt ps j).2 → _) := hide (fun h => qs_bound (v := Gai.vl (prt ps j).1.toNat) h)
                have hvl := (Gai.vo_is y3).1
                obtain ⟨pl, hpl⟩ : ∃ pl, (prt ps j).2 = pl := ⟨_, rfl⟩
                rw [hpl] at x2 k1 HAJ hin HPJ HQB hp6
                obtain ⟨G, hG⟩ : ∃ G : Nat, (prt ps j).1 = G := ⟨(prt ps j).1.toNat, by omega⟩
                have eG : ((prt ps j).1).toNat = G := by omega
                rw [eG] at HAJ HQB hvl y3
                rw [hG] at x1 HQJ y1 y2
                have CG := Gai.value_ok G (by omega) (hide y3) wa
                obtain ⟨V, hV⟩ : ∃ V, Gai.vl G = V := ⟨_, rfl⟩
                obtain ⟨k, hk⟩ : ∃ k, Pls.loud pl = k := ⟨_, rfl⟩
                rw [hV] at CG HAJ HQB hvl
                rw [hk] at k1 HAJ HQB
                obtain ⟨M, hM⟩ : ∃ M, pl.length = M := ⟨_, rfl⟩
                have HM := hide hM
                rw [hM] at x2 HAJ hin HPJ HQB hp6
                have H4J : Hid (∀ q, q < M → (at0 AP (A + q)).natAbs ≤ 4000) := hide (fun q hq => unhide H4K (A + q) (by omega))
                have hraL : 0 < M → 0 < AP.length := fun h => by rw [unhide HAL]; omega
                clear hc1 o1 o2 hlk hck ek hpl hG eG hV hM x3 x4 x5 x6 hlt1
                go_wp2_with fail
                refine CG.mono ?_
                clear CG
                rintro e wb ⟨rfl, rfl⟩
                go_wp2
                go_loopw [19, 24, 25] (fun at_ n i wr => ∃ q U : Nat, q ≤ M ∧ i = .int .i64 q ∧ at_ = .int .i64 ((A + q : Nat) : Int) ∧ n = .int .i64 U ∧ Hid (U = qs V k (pl.take q)) ∧ U ≤ 4000 * q ∧ wb = wr) (fun _ _ i _ => M - (intOf i).toNat)
                case atStart => exact ⟨0, 0, Nat.zero_le _, rfl, rfl, rfl, rfl, by omega, rfl⟩
                case round =>
                  obtain ⟨q, U, hq, rfl, rfl, rfl, HU, hU4, rfl⟩ := hrel
                  by_cases hqM : q < M
                  · have hqp : q < pl.length := by rw [unhide HM]; exact hqM
                    obtain ⟨ba, offa, rfl, _, hca⟩ := ra.at (k := A + q) (by rw [unhide HAL]; omega)
                    have ca := hca (A + q) (by rw [unhide HAL]; omega)
                    have ea : AP.getD (A + q) 0 = at0 AP (A + q) := by rw [List.getD_eq_getElem?_getD]; rfl
                    rw [ea] at ca
                    have z1 := unhide HAJ q hqM
                    have z2 := unhide H4J q hqM
                    have HU2 : Hid (U + (at0 AP (A + q)).natAbs = qs V k (pl.take (q + 1))) := hide (by rw [qs_take hqp, ← unhide HU, z1])
                    obtain ⟨X, hX⟩ : ∃ X, at0 AP (A + q) = X := ⟨_, rfl⟩
                    rw [hX] at ca z2 HU2
                    have CFA := Gai.refFar1 X wb (by omega) (by omega)
                    obtain ⟨XA, hXA⟩ : ∃ XA, X.natAbs = XA := ⟨_, rfl⟩
                    rw [hXA] at CFA z2 HU2
                    have hAq : A + q < L := by omega
                    have hAqi : ((A + q : Nat) : Int) < (L : Int) := by omega
                    obtain ⟨AQ, hAQ⟩ : ∃ AQ, A + q = AQ := ⟨_, rfl⟩
                    have HAQ : Hid (AQ + 1 = A + (q + 1)) := hide (by omega)
                    have hoff : offa + (A + q) = offa + AQ := by rw [hAQ]
                    rw [hoff] at ca
                    rw [hAQ] at hAq hAqi ⊢
                    clear hqp hca ea z1 hX hXA hAQ hoff
                    go_wp2_with fail
                    refine CFA.mono ?_
                    clear CFA
                    rintro e wc ⟨rfl, rfl⟩
                    go_wp2
                    go_roundw
                    case rel => exact ⟨q + 1, U + XA, by omega, by go_num, by rw [← unhide HAQ]; go_num, by go_num, HU2, by omega, by first | trivial | rfl⟩
                    case measure => simp [intOf]; omega
                  · obtain rfl : M = q := by omega
                    have eT : pl.take M = pl := by rw [← unhide HM, List.take_length]
                    rw [eT] at HU
                    obtain ⟨A2, hA2⟩ : ∃ A2, A + M = A2 := ⟨_, rfl⟩
                    rw [hA2] at HPJ ⊢
                    have wVM : IntKind.i64.wrap ((V : Int) - (M : Int)) = (V : Int) - (M : Int) := IntWalk.i64_in _ (by omega)
                    have wVM1 : IntKind.i64.wrap ((V : Int) - (M : Int) + 1) = (V : Int) - (M : Int) + 1 := IntWalk.i64_in _ (by omega)
                    have hway : (0 < k ∧ U ≤ V ∧ V + 1 ≤ U + M) ∨ (k = 0 ∧ U = 0) := by
                      rcases Nat.eq_zero_or_pos k with h | h
                      · right
                        refine ⟨h, ?_⟩
                        rw [unhide HU, h]
                        exact qs_none V pl
                      · left
                        have := unhide HQB h
                        rw [← hk] at HU
                        rw [hk] at HU
                        have hU := unhide HU
                        rw [← hU] at this
                        exact ⟨h, this.1, this.2⟩
                    have hTT : (∃ _ : T = false, Hid ((∀ r, r < L → at0 l r = 0) → False)) ∨ (∃ _ : T = true, Hid ((∀ r, r < L → at0 l r = 0) → (G : Int) = 0)) := by
                      cases T with
                      | false => exact Or.inl ⟨rfl, hide (fun h => by have := unhide HT h; cases this)⟩
                      | true => exact Or.inr ⟨rfl, HQJ⟩
                    clear eT hA2 HU HQB HAJ H4J hq hqM
                    rcases hway with ⟨g1, g2, g3⟩ | ⟨g1, g2⟩
                    · have d1 : decide ((V : Int) < (U : Int)) = false := by simp; omega
                      have d2 : decide ((0 : Int) < (k : Int)) = true := by simp; omega
                      have d3 : decide ((U : Int) < (V : Int) - (M : Int) + 1) = false := by simp; omega
                      have d4 : ((k : Int) == 0) = false := by rw [beq_eq_false_iff_ne]; omega
                      rcases hTT with ⟨rfl, HF⟩ | ⟨rfl, HG⟩
                      · go_wp2
                        go_roundw
                        case rel => exact ⟨j + 1, A2, false, by omega, by go_num, rfl, HPJ, rfl, hide (fun h => absurd h (unhide HF)), by first | trivial | rfl⟩
                        case measure => simp [intOf]; omega
                      · obtain ⟨T2, hT2⟩ : ∃ T2, ((G : Int) == 0) = T2 := ⟨_, rfl⟩
                        have HT2 : Hid ((∀ r, r < L → at0 l r = 0) → T2 = true) := hide (fun h => by rw [← hT2, unhide HG h]; rfl)
                        go_wp2
                        go_roundw
                        case rel => exact ⟨j + 1, A2, T2, by omega, by go_num, rfl, HPJ, by first | rfl | rw [hT2], HT2, by first | trivial | rfl⟩
                        case measure => simp [intOf]; omega
                    · subst g1 g2
                      have d1 : decide ((V : Int) < ((0 : Nat) : Int)) = false := by simp
                      have d1' : decide ((V : Int) < 0) = false := by simp
                      rcases hTT with ⟨rfl, HF⟩ | ⟨rfl, HG⟩
                      · go_wp2
                        go_roundw
                        case rel => exact ⟨j + 1, A2, false, by omega, by go_num, rfl, HPJ, rfl, hide (fun h => absurd h (unhide HF)), by first | trivial | rfl⟩
                        case measure => simp [intOf]; omega
                      · obtain ⟨T2, hT2⟩ : ∃ T2, ((G : Int) == 0) = T2 := ⟨_, rfl⟩
                        have HT2 : Hid ((∀ r, r < L → at0 l r = 0) → T2 = true) := hide (fun h => by rw [← hT2, unhide HG h]; rfl)
                        go_wp2
                        go_roundw
                        case rel => exact ⟨j + 1, A2, T2, by omega, by go_num, rfl, HPJ, by first | rfl | rw [hT2], HT2, by first | trivial | rfl⟩
                        case measure => simp [intOf]; omega
              · obtain rfl : N = j := by omega
                have HQO : Hid ((∀ r, r < L → at0 l r = 0) → ∀ r, r < L → at0 OUT r = 0) := hide (fun h => (unhide HQ4 h).2)
                have rla := hr0.below hBa
                clear HA HQ4 HAB HIN HPR H4K HOK HPN HFL hj hlt Pa rka ra
                go_wp2
                go_loopw [20, 26] (fun t i wr => ∃ (j : Nat) (T : Bool), j ≤ L ∧ i = .int .i64 j ∧ t = .bool T ∧ Hid ((∀ r, r < L → at0 l r = 0) → T = true) ∧ wa = wr) (fun _ i _ => L - (intOf i).toNat)
                case atStart => exact ⟨0, T, Nat.zero_le _, rfl, rfl, HT, rfl⟩
                case round =>
                  clear HT
                  obtain ⟨j, T, hj, rfl, rfl, HT, rfl⟩ := hrel
                  by_cases hlt : j < L
                  · have hlo : j < OUT.length := by rw [unhide HUL]; exact hlt
                    obtain ⟨bo, offo, rfl, _, hco⟩ := roa.at hlo
                    have co := hco j hlo
                    have eo : OUT.getD j 0 = at0 OUT j := by rw [List.getD_eq_getElem?_getD]; rfl
                    rw [eo] at co
                    have HQJ : Hid ((∀ r, r < L → at0 l r = 0) → at0 OUT j = 0) := hide (fun h => unhide HQO h j hlt)
                    obtain ⟨X, hX⟩ : ∃ X, at0 OUT j = X := ⟨_, rfl⟩
                    rw [hX] at co HQJ
                    clear hX eo hco hlo
                    have hTT : (∃ _ : T = false, Hid ((∀ r, r < L → at0 l r = 0) → False)) ∨ (∃ _ : T = true, Hid ((∀ r, r < L → at0 l r = 0) → X = 0)) := by
                      cases T with
                      | false => exact Or.inl ⟨rfl, hide (fun h => by have := unhide HT h; cases this)⟩
                      | true => exact Or.inr ⟨rfl, HQJ⟩
                    rcases hTT with ⟨rfl, HF⟩ | ⟨rfl, HG⟩
                    · go_wp2
                      go_roundw
                      case rel => exact ⟨j + 1, false, by omega, by go_num, rfl, hide (fun h => absurd h (unhide HF)), by first | trivial | rfl⟩
                      case measure => simp [intOf]; omega
                    · obtain ⟨T2, hT2⟩ : ∃ T2, (X == 0) = T2 := ⟨_, rfl⟩
                      have HT2 : Hid ((∀ r, r < L → at0 l r = 0) → T2 = true) := hide (fun h => by rw [← hT2, unhide HG h]; rfl)
                      go_wp2
                      go_roundw
                      case rel => exact ⟨j + 1, T2, by omega, by go_num, by first | rfl | rw [hT2], HT2, by first | trivial | rfl⟩
                      case measure => simp [intOf]; omega
                  · obtain rfl : L = j := by omega
                    clear HQO roa hj hlt
                    go_wp2
                    go_loopw [27, 28] (fun t i wr => ∃ (j : Nat) (T2 : Bool), j ≤ L ∧ i = .int .i64 j ∧ t = .bool T2 ∧ Hid (T2 = true → ∀ r, r < j → at0 l r = 0) ∧ wa = wr) (fun _ i _ => L - (intOf i).toNat)
                    case atStart => exact ⟨0, true, Nat.zero_le _, rfl, rfl, hide (fun _ r hr => by omega), rfl⟩
                    case round =>
                      obtain ⟨j, T2, hj, rfl, rfl, HT2, rfl⟩ := hrel
                      by_cases hlt : j < L
                      · have hlo : j < l.length := by rw [unhide HLL]; exact hlt
                        obtain ⟨bo, offo, rfl, _, hco⟩ := rla.at hlo
                        have co := hco j hlo
                        have eo : l.getD j 0 = at0 l j := by rw [List.getD_eq_getElem?_getD]; rfl
                        rw [eo] at co
                        have HJ : Hid (at0 l j = 0 → T2 = true → ∀ r, r < j + 1 → at0 l r = 0) := hide (fun h h' r hr => by
                          by_cases e : r = j
                          · rw [e]; exact h
                          · exact unhide HT2 h' r (by omega))
                        obtain ⟨X, hX⟩ : ∃ X, at0 l j = X := ⟨_, rfl⟩
                        rw [hX] at co HJ
                        clear hX eo hco hlo HT2
                        cases T2 with
                        | false =>
                          go_wp2
                          go_roundw
                          case rel => exact ⟨j + 1, false, by omega, by go_num, rfl, hide (fun h => by cases h), by first | trivial | rfl⟩
                          case measure => simp [intOf]; omega
                        | true =>
                          obtain ⟨T3, hT3⟩ : ∃ T3, (X == 0) = T3 := ⟨_, rfl⟩
                          have HT3 : Hid (T3 = true → ∀ r, r < j + 1 → at0 l r = 0) := hide (fun h => unhide HJ (by rw [← hT3] at h; simpa using h) rfl)
                          clear HJ
                          go_wp2
                          go_roundw
                          case rel => exact ⟨j + 1, T3, by omega, by go_num, by first | rfl | rw [hT3], HT3, by first | trivial | rfl⟩
                          case measure => simp [intOf]; omega
                      · obtain rfl : L = j := by omega
                        cases T2 with
                        | false =>
                          clear HT2 HT
                          go_wp2
                          go_ret
                          exact ⟨rfl, hBa⟩
                        | true =>
                          obtain rfl : T = true := unhide HT (unhide HT2 rfl)
                          clear HT2 HT
                          go_wp2
                          go_ret
                          exact ⟨rfl, hBa⟩
  · have dE : decide (encF l s B ≠ 0) = true := by simpa using hEF
    obtain ⟨EF, hE2⟩ : ∃ EF, encF l s B = EF := ⟨_, rfl⟩
    rw [hE2] at CEN dE
    rw [hLL, hN] at CEN ⊢
    clear hEF hE2 zl zs hLL hN
    go_enter Tryd.func3, Tryd.ntmps3
    go_wp2_with fail
    refine (fact w _ _).mono ?_
    rintro e w1 ⟨b0, off0, c0, b2, off2, c2, rfl, f1, f2, f3, f4, f5, f6, f7, f8, hb1⟩
    go_wp2_with fail
    refine (unhide CEN w1 (hr0.below hb1) (hr1.below hb1)).mono ?_
    rintro e w3 ⟨p3, q3, ps, rfl, P3, m3, m9, L3, hb3⟩
    obtain ⟨PL, hPL⟩ : ∃ PL, ps.length = PL := ⟨_, rfl⟩
    rw [hPL]
    clear hPL f1 f2 f3 f4 f5 f6 f7 f8
    go_wp2
    go_ret
    exact ⟨rfl, Below.chain hb1 hb3⟩

end Go.Proofs.YthkibjhhlcfceaiDoor.FrameRightLaw
