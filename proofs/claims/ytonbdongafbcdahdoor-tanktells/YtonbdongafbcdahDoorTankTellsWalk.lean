/-
  The walk of hornlaw2.TankTells.
-/
import Derived.Test.YtonbdongafbcdahDoorTankFaces
import Derived.Test.YtonbdongafbcdahDoorTankMay
import Derived.Test.YtonbdongafbcdahDoorRefTank
import Derived.Test.YtonbdongafbcdahDoorErrTold
import Derived.Test.YtonbdongafbcdahDoorScaleBase
import Derived.Deep.CutBlock
import Derived.Deep.DeepCutAuto
namespace Go.Proofs.YtonbdongafbcdahDoor.TankTellsLaw
open Go.RowKit
open Go.Proofs.YtonbdongafbcdahDoor.Tre Go.Proofs.YtonbdongafbcdahDoor.Tnk Go.Proofs.YtonbdongafbcdahDoor.Ev Go.Proofs.YtonbdongafbcdahDoor.Aser Go.Proofs.YtonbdongafbcdahDoor.Scl
set_option linter.unusedVariables false

/-- Turn by turn: where one is. -/
def TI (S E H RF : Int) (l : List Int) (E1 X Y Z : Int) (j : Nat) : Prop :=
  (E1 = 0 ∧ X = S ∧ Y = E ∧ Ok S E Z ∧ RF = (from_ S E Z l j).1 ∧ from_ S E Z l j = from_ S E H l 0) ∨ (E1 ≠ 0 ∧ E1 = RF)

set_option maxRecDepth 100000 in
set_option maxHeartbeats 32000000 in
theorem walk0 (S E H b : Int) (a : Option Addr) (cap : Nat) (l : List Int) (w : World) (hL : Laid w) (hr : Row w a l) (zl : l.length ≤ 9223372036854775807) :
    Calls Tryd.prog 4 #[.agg #[.int .i64 S, .int .i64 E, .int .i64 H], .int .i64 b, .slice a l.length cap] w fun e w' => e = .returned (.bool true) ∧ Below w.heap.size w w' := by
  have CRT := hide (fun W => refTank S E H W)
  have CCK := hide (fun W => check S E H W)
  have CRU := hide (fun W => refTurn S E H b W)
  have CTU := hide (fun W => turn S E H b W)
  have CRM := hide (fun W h => refMay S E H W h)
  have CMA := hide (fun W => mayG S E H W)
  have CRN := hide (fun W h => run S E H a cap l W h zl)
  unfold TurnPost at CRU
  obtain ⟨W0, hW0⟩ : ∃ W0, w.alloc (.cells #[.int .i64 S, .int .i64 E, .int .i64 H] 38) = W0 := ⟨_, rfl⟩
  have hb0 : Below w.heap.size w W0 := by rw [← hW0]; exact (Below.refl _ _).alloc (Nat.le_refl _) _
  have t0 : Tk W0 w.heap.size S E H := by rw [← hW0]; exact Tk.new w S E H
  have HM1 : Hid (tankF S E H = 0 → mayN S E H = may S E H) := hide (fun h => by unfold mayN; rw [if_pos h])
  have HM2 : Hid (tankF S E H ≠ 0 → mayN S E H = 0) := hide (fun h => by unfold mayN; rw [if_neg h])
  have HOK : Hid (tankF S E H = 0 → Ok S E H) := hide (fun h => tankF_zero.1 h)
  have HRF : Hid (runF S E H l = if 60 < l.length then 4 else if tankF S E H = 0 then (from_ S E H l 0).1 else tankF S E H) := hide (by
    unfold runF
    rw [from_zero]
    split
    · rfl
    · by_cases h : Ok S E H
      · rw [if_pos h, if_pos (tankF_zero.2 h)]
      · rw [if_neg h, if_neg (fun e => h (tankF_zero.1 e))]
        unfold tankF
        rw [if_neg h])
  have HRN : Hid (lastN S E H l = if runF S E H l = 0 then (from_ S E H l 0).2 else 0) := hide (by unfold lastN; rw [from_zero])
  have HEN : Hid (∀ Z, from_ S E Z l l.length = (0, Z)) := hide (fun Z => from_end S E Z l)
  obtain ⟨F, hF⟩ : ∃ F, tankF S E H = F := ⟨_, rfl⟩
  obtain ⟨MN, hMN⟩ : ∃ F, mayN S E H = F := ⟨_, rfl⟩
  obtain ⟨RF, hRF⟩ : ∃ F, runF S E H l = F := ⟨_, rfl⟩
  obtain ⟨RN, hRN⟩ : ∃ F, lastN S E H l = F := ⟨_, rfl⟩
  obtain ⟨FT, hFT⟩ : ∃ F, turnF S E H b = F := ⟨_, rfl⟩
  obtain ⟨TS, hTS⟩ : ∃ F, tS S E H b = F := ⟨_, rfl⟩
  obtain ⟨TE, hTE⟩ : ∃ F, tE S E H b = F := ⟨_, rfl⟩
  obtain ⟨TH, hTH⟩ : ∃ F, tH S E H b = F := ⟨_, rfl⟩
  rw [hF] at CRT CCK CMA HM1 HM2 HOK HRF
  rw [hMN] at HM1 HM2 CMA
  rw [hRF] at HRF HRN CRN
  rw [hRN] at HRN CRN
  rw [hFT, hTS, hTE, hTH] at CRU CTU
  obtain ⟨N, hN⟩ : ∃ N, l.length = N := ⟨_, rfl⟩
  have HN := hide hN
  rw [hN] at CRN zl HRF HEN ⊢
  have a0 := t0.c0
  have a1 := t0.c1
  have a2 := t0.c2
  clear hF hMN hRF hRN hFT hTS hTE hTH hN
  go_enter Tryd.func4, Tryd.ntmps4
  go_wp2_with fail
  refine (unhide CRT _).mono ?_
  rintro e w1 ⟨rfl, hb1⟩
  have t1 := t0.below hb1 t0.lt
  have hB1 := Below.chain hb0 hb1
  clear a0 a1 a2 t0 hb0 hb1 CRT hW0
  have a0 := t1.c0
  have a1 := t1.c1
  have a2 := t1.c2
  go_wp2_with fail
  refine (unhide CCK _).mono ?_
  rintro e w2 ⟨rfl, hb2⟩
  have t2 := t1.below hb2 t1.lt
  have hB2 := Below.chain hB1 hb2
  clear a0 a1 a2 t1 hB1 hb2 CCK
  have a0 := t2.c0
  have a1 := t2.c1
  have a2 := t2.c2
  go_wp2_with fail
  refine (error_any _ _ (hL.below hB2)).mono ?_
  rintro e w3 ⟨rfl, hb3⟩
  have t3 := t2.below hb3 t2.lt
  have hB3 := Below.chain hB2 hb3
  clear a0 a1 a2 t2 hB2 hb3
  have a0 := t3.c0
  have a1 := t3.c1
  have a2 := t3.c2
  go_wp2_with fail
  refine (unhide CRU _).mono ?_
  rintro e w4 ⟨rfl, hb4⟩
  have t4 := t3.below hb4 t3.lt
  have hB4 := Below.chain hB3 hb4
  clear a0 a1 a2 t3 hB3 hb4 CRU
  obtain ⟨W5, hW5⟩ : ∃ W5, w4.alloc (.cells #[.int .i64 TS, .int .i64 TE, .int .i64 TH] 38) = W5 := ⟨_, rfl⟩
  have hB5 : Below w.heap.size w W5 := by rw [← hW5]; exact hB4.alloc hB4.size _
  have t5 : Tk W5 w.heap.size S E H := by rw [← hW5]; exact t4.alloc _
  have x5 : Tk W5 w4.heap.size TS TE TH := by rw [← hW5]; exact Tk.new _ _ _ _
  have a0 := t5.c0
  have a1 := t5.c1
  have a2 := t5.c2
  go_wp2_with fail
  refine (unhide CTU _).mono ?_
  rintro e w6 ⟨rfl, hb6⟩
  have t6 := t5.below hb6 t5.lt
  have x6 := x5.below hb6 x5.lt
  have hB6 := Below.chain hB5 hb6
  obtain ⟨B1, hB1⟩ : ∃ B1, w4.heap.size = B1 := ⟨_, rfl⟩
  rw [hB1] at x6 ⊢
  clear a0 a1 a2 t4 t5 x5 hB4 hB5 hb6 CTU hW5 hB1
  obtain ⟨W7, hW7⟩ : ∃ W7, w6.alloc (.cells #[.int .i64 TS, .int .i64 TE, .int .i64 TH] 38) = W7 := ⟨_, rfl⟩
  have hB7 : Below w.heap.size w W7 := by rw [← hW7]; exact hB6.alloc hB6.size _
  have t7 : Tk W7 w.heap.size S E H := by rw [← hW7]; exact t6.alloc _
  have x7 : Tk W7 B1 TS TE TH := by rw [← hW7]; exact x6.alloc _
  have y7 : Tk W7 w6.heap.size TS TE TH := by rw [← hW7]; exact Tk.new _ _ _ _
  go_wp2_with fail
  refine (error_any _ _ (hL.below hB7)).mono ?_
  rintro e w8 ⟨rfl, hb8⟩
  have t8 := t7.below hb8 t7.lt
  have x8 := x7.below hb8 x7.lt
  have y8 := y7.below hb8 y7.lt
  have hB8 := Below.chain hB7 hb8
  obtain ⟨B2, hB2⟩ : ∃ B2, w6.heap.size = B2 := ⟨_, rfl⟩
  rw [hB2] at y8 ⊢
  clear t6 t7 x6 x7 y7 hB6 hB7 hb8 hW7 hB2
  have x0 := x8.c0
  have x1 := x8.c1
  have x2 := x8.c2
  have y0 := y8.c0
  have y1 := y8.c1
  have y2 := y8.c2
  go_upto_if 48 with fail
  go_cut [14, 48] (fun s14 c wx => s14 = .int .i64 MN ∧ Tk wx w.heap.size S E H ∧ Below w.heap.size w wx)
  case first =>
    as_aux_lemma =>
    have a0 := t8.c0
    have a1 := t8.c1
    have a2 := t8.c2
    by_cases hF : F = 0
    · have dF : (F == 0) = true := by rw [hF]; rfl
      have c := unhide CRM w8 (hide (unhide HOK hF))
      rw [← unhide HM1 hF] at c
      clear hF CRM HM1 HM2 HOK
      go_wp2_with fail
      refine c.mono ?_
      clear c
      rintro e w9 ⟨rfl, hb9⟩
      have t9 := t8.below hb9 t8.lt
      have hB9 := Below.chain hB8 hb9
      clear a0 a1 a2 x0 x1 x2 y0 y1 y2
      go_wp2
      go_meet
      exact ⟨rfl, t9, hB9⟩
    · have dF : (F == 0) = false := by rw [beq_eq_false_iff_ne]; exact hF
      have HE := hide (unhide HM2 hF)
      clear hF CRM HM1 HM2 HOK
      go_wp2
      go_meet
      exact ⟨by rw [unhide HE], t8, hB8⟩
  case rest =>
  obtain ⟨rfl, t9, hB9⟩ := hcut
  clear t8 x8 y8 hB8 x0 x1 x2 y0 y1 y2 CRM HM1 HM2
  have hMM : (MN == MN) = true := by simp
  have a0 := t9.c0
  have a1 := t9.c1
  have a2 := t9.c2
  go_wp2_with fail
  refine (unhide CMA _).mono ?_
  rintro e w10 ⟨rfl, hb10⟩
  have t10 := t9.below hb10 t9.lt
  have hB10 := Below.chain hB9 hb10
  clear a0 a1 a2 t9 hB9 hb10 CMA
  go_wp2_with fail
  refine (error_any _ _ (hL.below hB10)).mono ?_
  rintro e w11 ⟨rfl, hb11⟩
  have t11 := t10.below hb11 t10.lt
  have hB11 := Below.chain hB10 hb11
  clear t10 hB10 hb11
  have HE0 : Hid ((if 60 < N then 4 else F) = (if 60 < N then 4 else F)) := hide rfl
  obtain ⟨E0, hE0⟩ : ∃ E0, (if 60 < N then 4 else F) = E0 := ⟨_, rfl⟩
  have HEA : Hid (60 < N → E0 = 4) := hide (fun h => by rw [← hE0, if_pos h])
  have HEB : Hid (¬ 60 < N → F = E0) := hide (fun h => by rw [← hE0, if_neg h])
  have HST : Hid ((E0 = 0 → RF = (from_ S E H l 0).1 ∧ Ok S E H) ∧ (E0 ≠ 0 → E0 = RF)) := hide (by
    by_cases h : 60 < N
    · have e := unhide HRF
      rw [if_pos h] at e
      have e2 := unhide HEA h
      exact ⟨fun k => by omega, fun _ => by omega⟩
    · have e := unhide HRF
      rw [if_neg h] at e
      have e2 := unhide HEB h
      refine ⟨fun k => ?_, fun k => ?_⟩
      · rw [if_pos (by omega)] at e
        exact ⟨e, unhide HOK (by omega)⟩
      · rw [if_neg (by omega)] at e
        omega)
  clear HE0 hE0 HRF HOK
  go_upto_if 66 with fail
  go_cut [7, 66] (fun s7 c wx => s7 = .int .i64 E0 ∧ w11 = wx)
  case first =>
    as_aux_lemma =>
    by_cases h : 60 < N
    · have HE := hide (unhide HEA h)
      clear HEA HEB HST
      go_wp2
      go_meet
      exact ⟨by rw [unhide HE], by first | trivial | rfl⟩
    · have HE := hide (unhide HEB h)
      clear HEA HEB HST
      go_wp2
      go_meet
      exact ⟨by rw [unhide HE], by first | trivial | rfl⟩
  case rest =>
  obtain ⟨rfl, rfl⟩ := hcut
  clear HEA HEB
  have a0 := t11.c0
  have a1 := t11.c1
  have a2 := t11.c2
  obtain ⟨W12, hW12⟩ : ∃ W, w11.alloc (.cells #[.int .i64 S, .int .i64 E, .int .i64 H] 38) = W := ⟨_, rfl⟩
  have hB12 : Below w.heap.size w W12 := by rw [← hW12]; exact hB11.alloc hB11.size _
  have t12 : Tk W12 w.heap.size S E H := by rw [← hW12]; exact t11.alloc _
  have x12 : Tk W12 w11.heap.size S E H := by rw [← hW12]; exact Tk.new _ _ _ _
  have hs12 : w.heap.size ≤ w11.heap.size := hB11.size
  have hne12 : w.heap.size ≠ w11.heap.size := by have := t11.lt; omega
  obtain ⟨B3, hB3⟩ : ∃ B3, w11.heap.size = B3 := ⟨_, rfl⟩
  have HB3 := hide hB3
  rw [hB3] at x12 hs12 hne12
  clear hB3
  go_upto_block 0 with fail
  rw [unhide HB3]
  clear HB3 hW12 a0 a1 a2 t11
  go_cut [7] (fun s7 wx => ∃ X Y Z : Int, s7 = .int .i64 RF ∧ Hid (RF = 0 → Z = (from_ S E H l 0).2) ∧ Tk wx B3 X Y Z ∧ Tk wx w.heap.size S E H ∧ Below w.heap.size w wx)
  case first =>
    as_aux_lemma =>
    have h0 : Hid (TI S E H RF l E0 S E H 0) := hide (by
      obtain ⟨h1, h2⟩ := unhide HST
      by_cases h : E0 = 0
      · exact Or.inl ⟨h, rfl, rfl, (h1 h).2, (h1 h).1, rfl⟩
      · exact Or.inr ⟨h, h2 h⟩)
    clear HST
    go_wp2_with fail
    go_loopw [7, 18] (fun e i wr => ∃ (j : Nat) (E1 X Y Z : Int), j ≤ N ∧ i = .int .i64 j ∧ e = .int .i64 E1 ∧ Hid (TI S E H RF l E1 X Y Z j) ∧ Tk wr B3 X Y Z ∧ Tk wr w.heap.size S E H ∧ Below w.heap.size w wr) (fun _ i _ => N - (intOf i).toNat)
    case atStart => exact ⟨0, E0, S, E, H, Nat.zero_le _, rfl, rfl, h0, x12, t12, hB12⟩
    case round =>
      obtain ⟨j, E1, X, Y, Z, hj, rfl, rfl, HW, x1, t1, hB1⟩ := hrel
      clear h0 x12 t12 hB12
      rcases unhide HW with ⟨rfl, hX, hY, hok, hrf, hfr⟩ | ⟨hE, hEW⟩
      · have HRF := hide hrf
        have HFR := hide hfr
        obtain rfl : X = S := hX
        obtain rfl : Y = E := hY
        clear HW hok hrf hfr
        by_cases hlt : j < N
        · have hlt' : j < l.length := by rw [unhide HN]; exact hlt
          obtain ⟨b1, off1, rfl, _, hc1⟩ := cell_at (hr.below hB1) (by omega)
          have c1 := hc1 j hlt'
          have HFS := hide (from_step (S := X) (E := Y) (H := Z) hlt')
          have HC := hide (fun W => refTurn X Y Z (at0 l j) W)
          have HT0 : Hid (turnF X Y Z (at0 l j) = 0 → _) := hide (fun h => turn_is h)
          have HT1 : Hid (turnF X Y Z (at0 l j) = 0 → _) := hide (fun h => turn_ok h)
          unfold TurnPost at HC
          obtain ⟨V, hV⟩ : ∃ V, at0 l j = V := ⟨_, rfl⟩
          rw [hV] at c1 HFS HC HT0 HT1
          obtain ⟨FT2, hFT⟩ : ∃ F, turnF X Y Z V = F := ⟨_, rfl⟩
          obtain ⟨TS2, hTS⟩ : ∃ F, tS X Y Z V = F := ⟨_, rfl⟩
          obtain ⟨TE2, hTE⟩ : ∃ F, tE X Y Z V = F := ⟨_, rfl⟩
          obtain ⟨TH2, hTH⟩ : ∃ F, tH X Y Z V = F := ⟨_, rfl⟩
          rw [hFT] at HFS HC HT0 HT1
          rw [hTS, hTE, hTH] at HC HT0
          have HW2 : Hid (TI X Y H RF l FT2 TS2 TE2 TH2 (j + 1)) := hide (by
            by_cases h : FT2 = 0
            · obtain ⟨e1, e2, e3⟩ := unhide HT0 h
              have e4 := unhide HT1 h
              have e5 := unhide HFS
              rw [if_pos h, ← e3] at e5
              rw [← e3] at e4
              exact Or.inl ⟨h, e1, e2, e4, by rw [unhide HRF, e5], by rw [← e5]; exact unhide HFR⟩
            · have e5 := unhide HFS
              rw [if_neg h] at e5
              exact Or.inr ⟨h, by rw [unhide HRF, e5]⟩)
          have y0 := x1.c0
          have y1 := x1.c1
          have y2 := x1.c2
          clear hV hFT hTS hTE hTH hc1 hlt' HFS HT0 HT1 HFR HRF
          have hBd : Below w.heap.size w wr.drew := hB1.trans ⟨rfl, rfl, rfl, Nat.le_refl _, fun _ _ => rfl⟩
          have x1d : Tk wr.drew B3 X Y Z := x1
          have t1d : Tk wr.drew w.heap.size X Y H := t1
          go_wp2
          go_region_with (
            go_at_call 16
            refine (unhide HC _).mono ?_
            rintro e w2 ⟨rfl, hb2⟩
            have x2 := x1d.below hb2 x1d.lt
            have t2 := t1d.below hb2 t1d.lt
            have hB2 := Below.trans hBd (hb2.mono hBd.size)
            have v0 := x2.c0
            have v1 := x2.c1
            have v2 := x2.c2
            have z0 := x2.fz 0
            have z1 := x2.fz 1
            have z2 := x2.fz 2)
          all_goals (
            go_wp2
            go_roundw
            case rel => exact ⟨j + 1, FT2, TS2, TE2, TH2, by omega, by go_num, rfl, HW2, x2.put TS2 TE2 TH2, t2.aside (fun e => hne12 e.symm) _ _ _, below_put hB2 hs12 _ _ _⟩
            case measure => simp [intOf]; omega)
        · obtain rfl : j = N := by omega
          have e := unhide HEN Z
          have HR0 : Hid (RF = 0) := hide (by rw [unhide HRF, e])
          have HRZ : Hid (RF = 0 → Z = (from_ X Y H l 0).2) := hide (fun _ => by rw [← unhide HFR, e])
          clear e HRF HFR
          go_wp2
          go_meet
          exact ⟨X, Y, Z, by rw [unhide HR0], HRZ, x1, t1, hB1⟩
      · have dE : (E1 == 0) = false := by rw [beq_eq_false_iff_ne]; exact hE
        have HEW := hide hEW
        have HRZ : Hid (RF = 0 → Z = (from_ S E H l 0).2) := hide (fun h => absurd (hEW.trans h) hE)
        clear HW hEW hE
        by_cases hlt : j < N
        · go_wp2
          go_meet
          exact ⟨X, Y, Z, by rw [unhide HEW], HRZ, x1, t1, hB1⟩
        · obtain rfl : j = N := by omega
          go_wp2
          go_meet
          exact ⟨X, Y, Z, by rw [unhide HEW], HRZ, x1, t1, hB1⟩
  case rest =>
  obtain ⟨X, Y, Z, rfl, HZ, x13, t13, hB13⟩ := hcut
  clear x12 t12 hB12 HST hB11
  have HR1 : Hid (RF = 0 → RN = Z) := hide (fun h => by rw [unhide HRN, if_pos h, unhide HZ h])
  have HR2 : Hid (RF ≠ 0 → RN = 0) := hide (fun h => by rw [unhide HRN, if_neg h])
  clear HZ HRN HEN
  have x2 := x13.c2
  go_upto_if 88 with fail
  go_cut [19, 88] (fun s19 c wx => s19 = .int .i64 RN ∧ wc = wx)
  case first =>
    as_aux_lemma =>
    by_cases hF : RF = 0
    · have dF : (RF == 0) = true := by rw [hF]; rfl
      have HE := hide (unhide HR1 hF)
      clear hF HR1 HR2
      go_wp2
      go_meet
      exact ⟨by rw [unhide HE], by first | trivial | rfl⟩
    · have dF : (RF == 0) = false := by rw [beq_eq_false_iff_ne]; exact hF
      have HE := hide (unhide HR2 hF)
      clear hF HR1 HR2
      go_wp2
      go_meet
      exact ⟨by rw [unhide HE], by first | trivial | rfl⟩
  case rest =>
  obtain ⟨rfl, rfl⟩ := hcut
  clear HR1 HR2 x2
  have hRR : (RN == RN) = true := by simp
  have a0 := t13.c0
  have a1 := t13.c1
  have a2 := t13.c2
  go_wp2_with fail
  refine (unhide CRN _ (hr.below hB13)).mono ?_
  rintro e w14 ⟨rfl, hb14⟩
  have hB14 := Below.chain hB13 hb14
  clear a0 a1 a2 t13 x13 hB13 hb14 CRN
  go_wp2_with fail
  refine (error_any _ _ (hL.below hB14)).mono ?_
  rintro e w15 ⟨rfl, hb15⟩
  go_wp2
  go_ret
  exact ⟨rfl, Below.chain hB14 hb15⟩

end Go.Proofs.YtonbdongafbcdahDoor.TankTellsLaw
