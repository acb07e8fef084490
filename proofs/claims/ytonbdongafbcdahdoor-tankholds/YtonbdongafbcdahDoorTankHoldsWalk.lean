/-
  The walk of hornlaw2.TankHolds.
-/
import Derived.Test.YtonbdongafbcdahDoorTankFaces
import Derived.Test.YtonbdongafbcdahDoorTankMay
import Derived.Test.YtonbdongafbcdahDoorErrTwo
import Derived.Test.YtonbdongafbcdahDoorScaleBase
import Derived.Deep.CutBlock
import Derived.Deep.DeepCutAuto
namespace Go.Proofs.YtonbdongafbcdahDoor.TankHoldsLaw
open Go.RowKit
open Go.Proofs.YtonbdongafbcdahDoor.Tre Go.Proofs.YtonbdongafbcdahDoor.Tnk Go.Proofs.YtonbdongafbcdahDoor.Ev Go.Proofs.YtonbdongafbcdahDoor.Aser Go.Proofs.YtonbdongafbcdahDoor.Scl
set_option linter.unusedVariables false

set_option maxRecDepth 100000 in
set_option maxHeartbeats 32000000 in
theorem walk0 (S E H : Int) (a : Option Addr) (cap : Nat) (l : List Int) (w : World) (hL : Laid w) (hr : Row w a l) (zl : l.length ≤ 9223372036854775807) :
    Calls Tryd.prog 5 #[.agg #[.int .i64 S, .int .i64 E, .int .i64 H], .slice a l.length cap] w fun e w' => e = .returned (.bool true) ∧ Below w.heap.size w w' := by
  have hgd := guard_err
  have hne := neq_err
  have CF := hide (fun W => turn 10 4 3 5 W)
  have e0 : turnF 10 4 3 5 = 0 := by decide
  have e1 : tS 10 4 3 5 = 10 := by decide
  have e2 : tE 10 4 3 5 = 4 := by decide
  have e3 : tH 10 4 3 5 = 2 := by decide
  rw [e0, e1, e2, e3, errV_zero] at CF
  have CMA := hide (fun W => mayG S E H W)
  have CCK := hide (fun W => check S E H W)
  clear e0 e1 e2 e3
  obtain ⟨W0, hW0⟩ : ∃ W0, w.alloc (.cells #[.int .i64 S, .int .i64 E, .int .i64 H] 38) = W0 := ⟨_, rfl⟩
  have hb0 : Below w.heap.size w W0 := by rw [← hW0]; exact (Below.refl _ _).alloc (Nat.le_refl _) _
  have t0 : Tk W0 w.heap.size S E H := by rw [← hW0]; exact Tk.new w S E H
  have CRN := hide (fun W h => run S E H a cap l W h zl)
  have HOK : Hid (tankF S E H = 0 → Ok S E H) := hide (fun h => tankF_zero.1 h)
  have HMN : Hid (tankF S E H = 0 → mayN S E H = may S E H) := hide (fun h => by unfold mayN; rw [if_pos h])
  have HRZ : Hid (runF S E H l = 0 → _) := hide (fun h => runF_zero h)
  have HRH : Hid (runF S E H l = 0 → _) := hide (fun h => run_holds h)
  obtain ⟨F, hF⟩ : ∃ F, tankF S E H = F := ⟨_, rfl⟩
  obtain ⟨MN, hMN⟩ : ∃ F, mayN S E H = F := ⟨_, rfl⟩
  obtain ⟨RF, hRF⟩ : ∃ F, runF S E H l = F := ⟨_, rfl⟩
  obtain ⟨RN, hRN⟩ : ∃ F, lastN S E H l = F := ⟨_, rfl⟩
  rw [hF] at CCK CMA HOK HMN
  rw [hMN] at CMA HMN
  rw [hRF] at CRN HRZ HRH
  rw [hRN] at CRN HRH
  obtain ⟨N, hN⟩ : ∃ N, l.length = N := ⟨_, rfl⟩
  have HN := hide hN
  rw [hN] at CRN zl HRZ HRH ⊢
  clear hF hMN hRF hRN hN
  go_enter Tryd.func5, Tryd.ntmps5
  go_wp2_with fail
  refine (unhide CF _).mono ?_
  rintro e w1 ⟨rfl, hb1⟩
  have t1 := t0.below hb1 t0.lt
  have hB1 := Below.chain hb0 hb1
  clear t0 hb0 hb1 CF hW0
  obtain ⟨W2, hW2⟩ : ∃ W, w1.alloc (.cells #[.int .i64 10, .int .i64 4, .int .i64 2] 38) = W := ⟨_, rfl⟩
  have hB2 : Below w.heap.size w W2 := by rw [← hW2]; exact hB1.alloc hB1.size _
  have t2 : Tk W2 w.heap.size S E H := by rw [← hW2]; exact t1.alloc _
  have x2 : Tk W2 w1.heap.size 10 4 2 := by rw [← hW2]; exact Tk.new _ _ _ _
  have a0 := t2.c0
  have a1 := t2.c1
  have a2 := t2.c2
  have b0 := x2.c0
  have b2 := x2.c2
  go_wp2_with fail
  refine (unhide CMA _).mono ?_
  rintro e w3 ⟨rfl, hb3⟩
  have t3 := t2.below hb3 t2.lt
  have hB3 := Below.chain hB2 hb3
  clear a0 a1 a2 b0 b2 t1 t2 x2 hB1 hB2 hb3 CMA hW2
  have a0 := t3.c0
  have a1 := t3.c1
  have a2 := t3.c2
  by_cases hF : F = 0
  · have dF : decide (F ≠ 0) = false := by simpa using hF
    have hok := unhide HOK hF
    have HMM := hide (unhide HMN hF)
    obtain ⟨m1, m2⟩ := turn_may hok
    have hm := may_in hok
    have h6 := hok.2.1
    have hE0 := hok.2.2.1
    have hES := hok.2.2.2.1
    rw [← unhide HMM] at m1 m2 hm
    have CT1 := hide (fun W => turn S E H MN W)
    obtain ⟨q1, q2, q3⟩ := turn_is m1
    rw [m1, q1, q2, q3, ← unhide HMM, errV_zero] at CT1
    obtain ⟨Z0, hZ0⟩ : ∃ Z, MN - MN = Z := ⟨_, rfl⟩
    rw [hZ0] at CT1
    have nZ : (Z0 != 0) = false := by simp; omega
    clear hZ0
    have CT2 := hide (fun W => turn S E H (MN + 1) W)
    obtain ⟨FT2, hFT2⟩ : ∃ F, turnF S E H (MN + 1) = F := ⟨_, rfl⟩
    obtain ⟨TS2, hTS2⟩ : ∃ F, tS S E H (MN + 1) = F := ⟨_, rfl⟩
    obtain ⟨TE2, hTE2⟩ : ∃ F, tE S E H (MN + 1) = F := ⟨_, rfl⟩
    obtain ⟨TH2, hTH2⟩ : ∃ F, tH S E H (MN + 1) = F := ⟨_, rfl⟩
    rw [hFT2, hTS2, hTE2, hTH2] at CT2
    rw [hFT2] at m2
    have hne2 : FT2 ≠ 0 := by omega
    rw [errV_ne hne2] at CT2
    have HM2 := hide m2
    obtain ⟨M1, hM1⟩ : ∃ M1, MN + 1 = M1 := ⟨_, rfl⟩
    have w1' : IntKind.i64.wrap (MN + 1) = M1 := by rw [hM1]; exact IntWalk.i64_in _ (by omega)
    rw [hM1] at CT2
    clear HOK HMN HMM hok m1 m2 q1 q2 q3 hFT2 hTS2 hTE2 hTH2 hne2 CCK hF hM1
    go_wp2_with fail
    refine (unhide CT1 _).mono ?_
    rintro e w4 ⟨rfl, hb4⟩
    have t4 := t3.below hb4 t3.lt
    have hB4 := Below.chain hB3 hb4
    clear a0 a1 a2 t3 hB3 hb4 CT1
    obtain ⟨W5, hW5⟩ : ∃ W, w4.alloc (.cells #[.int .i64 S, .int .i64 E, .int .i64 Z0] 38) = W := ⟨_, rfl⟩
    have hB5 : Below w.heap.size w W5 := by rw [← hW5]; exact hB4.alloc hB4.size _
    have t5 : Tk W5 w.heap.size S E H := by rw [← hW5]; exact t4.alloc _
    have x5 : Tk W5 w4.heap.size S E Z0 := by rw [← hW5]; exact Tk.new _ _ _ _
    have a0 := t5.c0
    have a1 := t5.c1
    have a2 := t5.c2
    go_wp2_with fail
    refine (unhide CT2 _).mono ?_
    rintro e w6 ⟨rfl, hb6⟩
    have t6 := t5.below hb6 t5.lt
    have x6 := x5.below hb6 x5.lt
    have hB6 := Below.chain hB5 hb6
    obtain ⟨B1, hB1⟩ : ∃ B1, w4.heap.size = B1 := ⟨_, rfl⟩
    rw [hB1] at x6 ⊢
    clear a0 a1 a2 t4 t5 x5 hB4 hB5 hb6 CT2 hW5 hB1
    obtain ⟨W7, hW7⟩ : ∃ W, w6.alloc (.cells #[.int .i64 TS2, .int .i64 TE2, .int .i64 TH2] 38) = W := ⟨_, rfl⟩
    have hB7 : Below w.heap.size w W7 := by rw [← hW7]; exact hB6.alloc hB6.size _
    have t7 : Tk W7 w.heap.size S E H := by rw [← hW7]; exact t6.alloc _
    have x7 : Tk W7 B1 S E Z0 := by rw [← hW7]; exact x6.alloc _
    clear t6 x6 hB6
    have hSS : (S != S) = false := by simp
    have hEE : (E != E) = false := by simp
    have a0 := t7.c0
    have a1 := t7.c1
    have b0 := x7.c0
    have b1 := x7.c1
    have b2 := x7.c2
    go_upto_region 9 with fail
    go_cut [86] (fun c wx => c = .bool false ∧ Tk wx w.heap.size S E H ∧ Below w.heap.size w wx)
    case first =>
      as_aux_lemma =>
      have CE := hide (fun W h => error_two FT2 8 W h)
      rcases unhide HM2 with rfl | ⟨rfl, rfl⟩
      · go_wp2_with fail
        refine (unhide CE _ (hL.below hB7)).mono ?_
        rintro e w8 ⟨rfl, hb8⟩
        have t8 := t7.below hb8 t7.lt
        have hB8 := Below.chain hB7 hb8
        go_wp2
        go_meet
        exact ⟨by first | rfl | simp, t8, hB8⟩
      · go_wp2_with fail
        refine (unhide CE _ (hL.below hB7)).mono ?_
        rintro e w8 ⟨rfl, hb8⟩
        have t8 := t7.below hb8 t7.lt
        have hB8 := Below.chain hB7 hb8
        go_wp2
        go_meet
        exact ⟨by first | rfl | simp, t8, hB8⟩
    case rest =>
    obtain ⟨rfl, t8, hB8⟩ := hcut
    clear a0 a1 b0 b1 b2 t7 x7 hB7 hSS hEE hW7 HM2 w1'
    have a0 := t8.c0
    have a1 := t8.c1
    have a2 := t8.c2
    have hr8 := hr.below hB8
    go_wp2_with fail
    refine (unhide CRN _ hr8).mono ?_
    rintro e w9 ⟨rfl, hb9⟩
    have t9 := t8.below hb9 t8.lt
    have hB9 := Below.chain hB8 hb9
    have hr9 := hr.below hB9
    clear a0 a1 a2 t8 hB8 hb9 CRN hr8
    by_cases hR : RF = 0
    · have dR : decide (RF ≠ 0) = false := by simpa using hR
      obtain ⟨n60, -, -⟩ := unhide HRZ hR
      obtain ⟨k1, k2, k3, k4⟩ := unhide HRH hR
      have HK1 := hide k1
      have HK2 := hide k2
      have HSN : Hid (∀ i k, i + k ≤ N → 0 ≤ Tnk.sums l i k ∧ Tnk.sums l i k ≤ 1000000 * k) := hide (fun i k hk => Tnk.sums_nonneg (l := l) (by rw [unhide HN]; exact k1) (by rw [unhide HN]; exact hk))
      have a0 := t9.c0
      have a1 := t9.c1
      clear HRZ HRH hR k1 k2
      go_wp2
      go_loopw [14] (fun i wr => ∃ j : Nat, j ≤ N ∧ i = .int .i64 j ∧ w9 = wr) (fun i _ => N - (intOf i).toNat)
      case atStart => exact ⟨0, Nat.zero_le _, rfl, rfl⟩
      case round =>
        obtain ⟨j, hj, rfl, rfl⟩ := hrel
        by_cases hlt : j < N
        · have HS0 : Hid (Tnk.sums l j 0 = 0) := hide rfl
          go_wp2
          go_loopw [15, 16] (fun s i wr => ∃ (q K : Nat) (T : Int), K ≤ N ∧ K = j + q ∧ i = .int .i64 K ∧ s = .int .i64 T ∧ Hid (Tnk.sums l j q = T) ∧ w9 = wr) (fun _ i _ => N - (intOf i).toNat)
          case atStart => exact ⟨0, j, 0, by omega, by omega, rfl, rfl, HS0, rfl⟩
          case round =>
            obtain ⟨q, K, T, hK, hKq, rfl, rfl, HT, rfl⟩ := hrel
            clear HS0
            by_cases hlt2 : K < N
            · have hlt' : K < l.length := by rw [unhide HN]; exact hlt2
              obtain ⟨b1, off1, rfl, _, hc1⟩ := cell_at hr9 (by omega)
              have c1 := hc1 K hlt'
              have g1 := unhide HK1 K hlt2
              have g2 := unhide HK2 j (q + 1) (by omega)
              have g3 := unhide HSN j (q + 1) (by omega)
              have HS1 : Hid (Tnk.sums l j (q + 1) = T + at0 l K) := hide (by rw [Tnk.sums, unhide HT, hKq])
              rw [unhide HS1] at g2 g3
              obtain ⟨V, hV⟩ : ∃ V, at0 l K = V := ⟨_, rfl⟩
              rw [hV] at c1 g1 g2 g3 HS1
              obtain ⟨T2, hT2⟩ : ∃ T2, T + V = T2 := ⟨_, rfl⟩
              rw [hT2] at g2 g3 HS1
              have w1 : IntKind.i64.wrap (T + V) = T2 := by rw [hT2]; exact IntWalk.i64_in _ (by omega)
              have w2 : IntKind.i64.wrap ((K : Int) - (j : Int)) = (q : Int) := by rw [IntWalk.i64_in _ (by omega)]; omega
              obtain ⟨q1, hq1⟩ : ∃ q1, q + 1 = q1 := ⟨_, rfl⟩
              rw [hq1] at g2 g3 HS1
              have w3 : IntKind.i64.wrap ((q : Int) + 1) = (q1 : Int) := by rw [IntWalk.i64_in _ (by omega)]; omega
              have hP : (q1 : Int) * E ≤ 60 * 1000000 := Int.mul_le_mul (by omega) (by omega) hE0 (by omega)
              have hP0 : 0 ≤ (q1 : Int) * E := Int.mul_nonneg (by omega) hE0
              obtain ⟨P, hPP⟩ : ∃ P, (q1 : Int) * E = P := ⟨_, rfl⟩
              rw [hPP] at g2 hP hP0
              have w4 : IntKind.i64.wrap ((q1 : Int) * E) = P := by rw [hPP]; exact IntWalk.i64_in _ (by omega)
              obtain ⟨U, hU⟩ : ∃ U, S + P = U := ⟨_, rfl⟩
              have w5 : IntKind.i64.wrap (S + P) = U := by rw [hU]; exact IntWalk.i64_in _ (by omega)
              rw [hU] at g2
              have d1 : decide (V < 0) = false := by simp; omega
              have d2 : decide (U < T2) = false := by simp; omega
              have hK1 : K + 1 ≤ N := by omega
              have hKq1 : K + 1 = j + q1 := by omega
              have hKq1' := hide hKq1
              clear hV hT2 hq1 hPP hU hc1 hlt' g1 g2 g3 hP hP0 hKq HT hKq1
              go_wp2
              go_roundw
              case rel => exact ⟨q1, K + 1, T2, hK1, unhide hKq1', by go_num, by first | rfl | go_num, HS1, by first | trivial | rfl⟩
              case measure => simp [intOf]; omega
            · obtain rfl : K = N := by omega
              clear HT
              go_wp2
              go_roundw
              case rel => exact ⟨j + 1, by omega, by go_num, by first | trivial | rfl⟩
              case measure => simp [intOf]; omega
        · obtain rfl : j = N := by omega
          have d3 : decide (0 ≤ RN) = true := by simpa using k3
          have d4 : decide (RN ≤ S) = true := by simpa using k4
          go_wp2
          go_ret
          exact ⟨rfl, hB9⟩
    · have dR : decide (RF ≠ 0) = true := by simpa using hR
      clear HRZ HRH
      go_wp2
      go_ret
      exact ⟨rfl, hB9⟩
  · have dF : decide (F ≠ 0) = true := by simpa using hF
    clear HOK HMN HRZ HRH CRN
    go_wp2_with fail
    refine (unhide CCK _).mono ?_
    rintro e w4 ⟨rfl, hb4⟩
    go_wp2
    go_ret
    exact ⟨rfl, Below.chain hB3 hb4⟩

end Go.Proofs.YtonbdongafbcdahDoor.TankHoldsLaw
