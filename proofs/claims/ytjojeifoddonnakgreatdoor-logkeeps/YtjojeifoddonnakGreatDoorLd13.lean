/-
  hornref2.Share, of what is right: by its contract.
-/
import Derived.Test.YtjojeifoddonnakGreatDoorLd12
import Derived.Test.YtjojeifoddonnakGreatDoorLd08
import Derived.Deep.QuietTactic
import Derived.BigQuiet
import Derived.Deep.CutBlock
import Derived.RangeFuncBox
namespace Go.Proofs.YtjojeifoddonnakGreatDoor.Shr
open Go.RowKit
open Go.Proofs.YtjojeifoddonnakGreatDoor.Tre Go.Proofs.YtjojeifoddonnakGreatDoor.Cnt Go.Proofs.YtjojeifoddonnakGreatDoor.Bnd
set_option linter.unusedVariables false

/-- What a slice of this call's own holds, as its cells say. -/
def lst (w : World) (g n : Nat) : List Int := upto (fun j => intOf ((w.cell? ⟨g, j, none⟩).getD undef)) n
theorem lst_is {w : World} {base g n c : Nat} {l : List Int} (h : Has w base (.slice (some ⟨g, 0, none⟩) n c) l) : lst w g n = l := by
  obtain ⟨e, _⟩ := h.inRow rfl
  subst e
  refine eq_of_at (upto_length _ _) fun i hi => ?_
  unfold lst at hi ⊢
  rw [upto_length] at hi
  rw [upto_at _ hi, h.get hi]
  rfl
set_option maxRecDepth 100000 in
set_option maxHeartbeats 16000000 in
theorem refShare (a : Option Addr) (cap : Nat) (s : List Int) (b : Option Addr) (capb : Nat) (d : List Int) (B : Int) (w : World) (hr : Row w a s) (hd : Row w b d) (h0 : 1 ≤ s.length) (h8 : s.length ≤ 8) (hl : d.length = s.length) (hs : Hid (Sizes s)) (hld : Hid (Lds d)) (hB0 : 0 ≤ B) (hB4 : B ≤ 400) :
    Calls Tryz.prog 37 #[.slice a s.length cap, .slice b s.length capb, .int .i64 B] w fun e w' => ∃ v, e = .returned v ∧ Has w' w.heap.size v (share s d B) ∧ Below w.heap.size w w' := by
  have HI0 := hide (inv_zero (d := d) (unhide hs) hB0)
  have HG0 : Hid (go s d B 100 (upto (fun _ => 0) s.length) = share s d B) := hide rfl
  have HS0 : Hid (64 < sm (upto (fun _ => 0) s.length) s.length + ((100 : Nat) : Int)) := hide (by rw [sm_zeros _ _ (Nat.le_refl _)]; omega)
  have HL := hide hl
  have CC := hide (fun (P : List Int) (g : Nat) W (h1 : Row W a s) (h2 : Row W (some ⟨g, 0, none⟩) P) h3 h4 => refCost a cap s (some ⟨g, 0, none⟩) s.length P W h1 h2 h8 h3 hs h4)
  obtain ⟨R, hR⟩ : ∃ R, share s d B = R := ⟨_, rfl⟩
  rw [hR] at HG0 ⊢
  obtain ⟨N, hN⟩ : ∃ N, s.length = N := ⟨_, rfl⟩
  have HN := hide hN
  rw [hN] at h0 h8 HI0 HG0 HS0 CC ⊢
  clear hN hR hl
  go_enter Tryz.func37, Tryz.ntmps37
  go_wp2_with (at_make; refine wpList_mk _ rfl _ rfl N rfl (by omega) ?_; intro w2 hv2 hb2)
  obtain ⟨g, hg⟩ : ∃ g, w.heap.size = g := ⟨_, rfl⟩
  rw [hg] at hv2 ⊢
  have hg0 : w.heap.size ≤ g := by omega
  have hmv : Has w2 w.heap.size (.slice (some ⟨g, 0, none⟩) N N) (upto (fun _ => 0) N) := by rw [hg]; exact hv2
  rw [← hg]
  clear hv2
  rw [hg]
  have HGG := hide hg
  clear hg
  go_wp2
  go_loopw [8] (fun _ wr => ∃ (O : List Int) (f : Nat), Has wr w.heap.size (.slice (some ⟨g, 0, none⟩) N N) O ∧ Hid (Inv s d B O) ∧ Hid (go s d B f O = R) ∧ Hid (64 < sm O N + (f : Int)) ∧ Below w.heap.size w wr) (fun _ wr => (64 - sm (lst wr g N) N).toNat)
  case atStart => exact ⟨_, 100, hmv, HI0, HG0, HS0, hb2⟩
  case round =>
    obtain ⟨O, f, hv, HI, HG, HF, hB⟩ := hrel
    clear hmv HI0 HG0 HS0 hb2
    have HOL : Hid (O.length = N) := hide ((unhide HI).len.trans (unhide HN))
    have HLS := hide (lst_is hv)
    have HB0 : Hid (bst s d O B 0 = none) := hide rfl
    have HPL : Hid (Pls O) := hide (unhide HI).pls
    have HCR : Hid (∀ W, Below w.heap.size w W → Row W a s) := hide (fun W h => hr.below h)
    have HCD : Hid (∀ j, j < N → ∀ W, Below w.heap.size w W → ∃ b1 off1, b = some ⟨b1, off1, none⟩ ∧ W.cell? ⟨b1, off1 + j, none⟩ = some (.int .i64 (at0 d j))) := hide (fun j hj W h => by
      obtain ⟨b1, off1, e, _, hc⟩ := cell_shr (hd.below h) (by rw [unhide HL, unhide HN]; omega)
      exact ⟨b1, off1, e, hc j (by rw [unhide HL, unhide HN]; exact hj)⟩)
    have HDB : Hid (∀ j, j < N → 0 ≤ at0 d j ∧ at0 d j ≤ 8000) := hide (fun j hj => unhide hld j (by rw [unhide HL, unhide HN]; exact hj))
    have HOB : Hid (∀ j, j < N → 0 ≤ at0 O j ∧ at0 O j ≤ 8) := hide (fun j hj => unhide HPL j (by rw [unhide HOL]; exact hj))
    go_wp2
    go_loopw [8, 9] (fun z i wr => ∃ (j : Nat) (Z : Int), j ≤ N ∧ i = .int .i64 j ∧ z = .int .i64 Z ∧ Hid (bv (bst s d O B j) = Z) ∧ Has wr w.heap.size (.slice (some ⟨g, 0, none⟩) N N) O ∧ Below w.heap.size w wr) (fun _ i _ => N - (intOf i).toNat)
    case atStart => exact ⟨0, -1, Nat.zero_le _, rfl, rfl, hide rfl, hv, hB⟩
    case round =>
      clear hv hB
      obtain ⟨j, Z, hj, rfl, rfl, HZ, hv, hB⟩ := hrel
      by_cases hlt : j < N
      · obtain ⟨b1, off1, rfl, c1⟩ := unhide HCD j hlt wr hB
        obtain ⟨d0, d9⟩ := unhide HDB j hlt
        obtain ⟨o0, o9⟩ := unhide HOB j hlt
        have c2 := hv.get (j := j) (by rw [unhide HOL]; exact hlt)
        have f2 := hv.frozen j
        have HNC : Hid (¬ Can s d O B j → bv (bst s d O B (j + 1)) = Z) := hide (fun h => by rw [bst_can h]; exact unhide HZ)
        have HIA : Hid (at0 (inc O j) j = at0 O j + 1) := hide (inc_at (by rw [unhide HOL]; exact hlt))
        have HID : Hid ((inc O j).set j (at0 O j) = O) := hide inc_dec
        have HIN : Hid (O.set j (at0 O j + 1) = inc O j) := hide rfl
        have HIP : Hid (at0 O j ≠ 8 → Pls (inc O j)) := hide (fun h => inc_pls (unhide HPL) (by rw [unhide HOL]; exact hlt) h)
        have HCN : Hid (at0 d j ≠ 0 → at0 O j ≠ 8 → (cost s (inc O j) : Int) ≤ B → Can s d O B j) := hide (fun h1 h2 h3 => ⟨h1, h2, h3⟩)
        have HCX : Hid (Can s d O B j → at0 d j ≠ 0 ∧ at0 O j ≠ 8 ∧ (cost s (inc O j) : Int) ≤ B) := hide (fun h => h)
        have HOV : Hid (∀ q, Over d O j q ↔ at0 d q * (at0 O j + 1) * (at0 O j + 1) < at0 d j * (at0 O q + 1) * (at0 O q + 1)) := hide (fun q => Iff.rfl)
        obtain ⟨D, hD⟩ : ∃ D, at0 d j = D := ⟨_, rfl⟩
        obtain ⟨P, hP⟩ : ∃ P, at0 O j = P := ⟨_, rfl⟩
        rw [hD] at c1 d0 d9 HCN HCX HOV
        rw [hP] at c2 o0 o9 HIA HID HIN HIP HCN HCX HOV
        have HPP := hide hP
        have HDD := hide hD
        clear hD hP
        by_cases hD0 : D = 0
        · have dD : (D == 0) = true := by rw [hD0]; rfl
          have HZ2 := hide (unhide HNC (fun h => (unhide HCX h).1 hD0))
          clear hD0 HNC HIA HID HIN HIP HCN HCX HOV
          go_wp2
          go_roundw
          case rel => exact ⟨j + 1, Z, by omega, by go_num, rfl, HZ2, hv, hB⟩
          case measure => simp [intOf]; omega
        · have dD : (D == 0) = false := by rw [beq_eq_false_iff_ne]; exact hD0
          by_cases hP8 : P = 8
          · have dP : (P == 8) = true := by rw [hP8]; rfl
            have HZ2 := hide (unhide HNC (fun h => (unhide HCX h).2.1 hP8))
            clear hD0 hP8 HNC HIA HID HIN HIP HCN HCX HOV
            go_wp2
            go_roundw
            case rel => exact ⟨j + 1, Z, by omega, by go_num, rfl, HZ2, hv, hB⟩
            case measure => simp [intOf]; omega
          · have dP : (P == 8) = false := by rw [beq_eq_false_iff_ne]; exact hP8
            have HPI := hide (unhide HIP hP8)
            obtain ⟨m1, m2⟩ := hv.put j (P + 1)
            rw [unhide HIN] at m1
            have hB1 : Below w.heap.size w (wr.setCell ⟨g, j, none⟩ (.int .i64 (P + 1))) := Below.setCell (p := ⟨g, j, none⟩) hB hg0 _
            have wP : IntKind.i64.wrap (P + 1) = P + 1 := IntWalk.i64_in _ (by omega)
            have wP2 : IntKind.i64.wrap (P + 1 - 1) = P := by rw [show P + 1 - 1 = P by omega]; exact IntWalk.i64_in _ (by omega)
            have hcc := unhide CC (inc O j) g _ (unhide HCR _ hB1) (m1.inRow rfl).2 (by rw [inc_length]; exact unhide HOL) HPI
            have HIL : Hid ((inc O j).length = N) := hide (by rw [inc_length]; exact unhide HOL)
            obtain ⟨C, hC⟩ : ∃ C, cost s (inc O j) = C := ⟨_, rfl⟩
            rw [hC] at hcc HCN HCX
            have M1 := hide m1
            have HB1 := hide hB1
            clear hC m1 m2 hB1 HPI HIP hv
            go_wp2_with fail
            refine hcc.mono ?_
            clear hcc
            rintro e w3 ⟨rfl, hb3⟩
            have k3 := (unhide M1).below hb3
            have hB3 := Below.chain (unhide HB1) hb3
            have c3 := k3.get (j := j) (by rw [unhide HIL]; exact hlt)
            rw [unhide HIA] at c3
            have f3 := k3.frozen j
            obtain ⟨m3, m4⟩ := k3.put j P
            rw [unhide HID] at m3
            have hB4' : Below w.heap.size w (w3.setCell ⟨g, j, none⟩ (.int .i64 P)) := Below.setCell (p := ⟨g, j, none⟩) hB3 hg0 _
            obtain ⟨w4, hw4⟩ : ∃ w4, w3.setCell ⟨g, j, none⟩ (.int .i64 P) = w4 := ⟨_, rfl⟩
            rw [hw4] at m3 hB4'
            have c4 := m3.get (j := j) (by rw [unhide HOL]; exact hlt)
            rw [unhide HPP] at c4
            obtain ⟨b4, off4, e4, c5⟩ := unhide HCD j hlt w4 hB4'
            rw [unhide HDD] at c5
            cases e4
            have HC5 := hide c5
            clear m4 k3 M1 HB1 hb3 HIA HID HIN HIL c1 c2 f2 hB c5
            go_upto_region 10 with fail
            clear hw4 hB3 c3 f3
            by_cases hCB : (C : Int) ≤ B
            · have dC : decide (B < (C : Int)) = false := by simp; omega
              have HCA := hide (unhide HCN hD0 hP8 hCB)
              clear HNC HCN HCX hD0 hP8 hCB
              cases hb : bst s d O B j with
              | none =>
                obtain rfl : Z = -1 := by rw [← unhide HZ, hb]; rfl
                have HZ2 : Hid (bv (bst s d O B (j + 1)) = (j : Int)) := hide (by rw [bst_first (unhide HCA) hb]; rfl)
                clear hb HZ HCA HOV
                go_wp2
                go_roundw
                case rel => exact ⟨j + 1, j, by omega, by go_num, by first | rfl | go_num, HZ2, m3, hB4'⟩
                case measure => simp [intOf]; omega
              | some q =>
                obtain rfl : Z = (q : Int) := by rw [← unhide HZ, hb]; rfl
                have hq := (bst_lt hb).1
                have hqN : q < N := by omega
                have c6 := m3.get (j := q) (by rw [unhide HOL]; exact hqN)
                obtain ⟨b6, off6, e6, c7⟩ := unhide HCD q hqN w4 hB4'
                cases e6
                have HOQ := hide (unhide HOV q)
                have HZO : Hid (Over d O j q → bv (bst s d O B (j + 1)) = (j : Int)) := hide (fun h => by rw [bst_over (unhide HCA) hb h]; rfl)
                have HZS : Hid (¬ Over d O j q → bv (bst s d O B (j + 1)) = (q : Int)) := hide (fun h => by rw [bst_stay (unhide HCA) hb h]; rfl)
                obtain ⟨g0, g9⟩ := unhide HDB q hqN
                obtain ⟨h0', h9'⟩ := unhide HOB q hqN
                obtain ⟨E, hE⟩ : ∃ E, at0 d q = E := ⟨_, rfl⟩
                obtain ⟨Q, hQ⟩ : ∃ Q, at0 O q = Q := ⟨_, rfl⟩
                rw [hE] at c7 g0 g9 HOQ
                rw [hQ] at c6 h0' h9' HOQ
                have c8 := unhide HC5
                clear hE hQ hb HZ HCA HOV HC5
                obtain ⟨A1, hA1⟩ : ∃ A, P + 1 = A := ⟨_, rfl⟩
                obtain ⟨B1, hB1⟩ : ∃ A, Q + 1 = A := ⟨_, rfl⟩
                have wA : IntKind.i64.wrap (P + 1) = A1 := by rw [← hA1]; exact IntWalk.i64_in _ (by omega)
                have wB : IntKind.i64.wrap (Q + 1) = B1 := by rw [← hB1]; exact IntWalk.i64_in _ (by omega)
                have a0' : 1 ≤ A1 ∧ A1 ≤ 9 := by omega
                have b0' : 1 ≤ B1 ∧ B1 ≤ 9 := by omega
                rw [hA1, hB1] at HOQ
                obtain ⟨X1, hX1⟩ : ∃ X, D * B1 = X := ⟨_, rfl⟩
                obtain ⟨X2, hX2⟩ : ∃ X, X1 * B1 = X := ⟨_, rfl⟩
                obtain ⟨Y1, hY1⟩ : ∃ X, E * A1 = X := ⟨_, rfl⟩
                obtain ⟨Y2, hY2⟩ : ∃ X, Y1 * A1 = X := ⟨_, rfl⟩
                rw [hX1, hX2, hY1, hY2] at HOQ
                have x1 : 0 ≤ X1 ∧ X1 ≤ 72000 := by
                  rw [← hX1]
                  exact ⟨Int.mul_nonneg (by omega) (by omega), by have := Int.mul_le_mul (a := D) (b := B1) (c := 8000) (d := 9) (by omega) (by omega) (by omega) (by omega); omega⟩
                have x2 : 0 ≤ X2 ∧ X2 ≤ 648000 := by
                  rw [← hX2]
                  exact ⟨Int.mul_nonneg (by omega) (by omega), by have := Int.mul_le_mul (a := X1) (b := B1) (c := 72000) (d := 9) (by omega) (by omega) (by omega) (by omega); omega⟩
                have y1 : 0 ≤ Y1 ∧ Y1 ≤ 72000 := by
                  rw [← hY1]
                  exact ⟨Int.mul_nonneg (by omega) (by omega), by have := Int.mul_le_mul (a := E) (b := A1) (c := 8000) (d := 9) (by omega) (by omega) (by omega) (by omega); omega⟩
                have y2 : 0 ≤ Y2 ∧ Y2 ≤ 648000 := by
                  rw [← hY2]
                  exact ⟨Int.mul_nonneg (by omega) (by omega), by have := Int.mul_le_mul (a := Y1) (b := A1) (c := 72000) (d := 9) (by omega) (by omega) (by omega) (by omega); omega⟩
                have w1' : IntKind.i64.wrap (D * B1) = X1 := by rw [hX1]; exact IntWalk.i64_in _ (by omega)
                have w2' : IntKind.i64.wrap (X1 * B1) = X2 := by rw [hX2]; exact IntWalk.i64_in _ (by omega)
                have w3' : IntKind.i64.wrap (E * A1) = Y1 := by rw [hY1]; exact IntWalk.i64_in _ (by omega)
                have w4' : IntKind.i64.wrap (Y1 * A1) = Y2 := by rw [hY2]; exact IntWalk.i64_in _ (by omega)
                have dq : decide ((q : Int) < 0) = false := by simp
                have HB5 : Hid (∀ n, Below w.heap.size w (w4.drewN n)) := hide (fun n => hB4'.trans ⟨rfl, rfl, rfl, Nat.le_refl _, fun _ _ => rfl⟩)
                have HM5 : Hid (∀ n, Has (w4.drewN n) w.heap.size (.slice (some ⟨g, 0, none⟩) N N) O) := hide (fun n => m3)
                clear hX1 hX2 hY1 hY2 hA1 hB1 wP wP2
                by_cases hov : Y2 < X2
                · have dO : decide (Y2 < X2) = true := by simpa using hov
                  have HZ2 := hide (unhide HZO ((unhide HOQ).2 hov))
                  clear HOQ HZO HZS hov
                  go_wp2
                  go_quiet (fail)
                  go_wp2
                  go_roundw
                  case rel => exact ⟨j + 1, j, by omega, by go_num, by first | rfl | go_num, HZ2, unhide HM5 _, unhide HB5 _⟩
                  case measure => simp [intOf]; omega
                · have dO : decide (Y2 < X2) = false := by simpa using hov
                  have HZ2 := hide (unhide HZS (fun h => hov ((unhide HOQ).1 h)))
                  clear HOQ HZO HZS hov
                  go_wp2
                  go_quiet (fail)
                  go_wp2
                  go_roundw
                  case rel => exact ⟨j + 1, q, by omega, by go_num, by first | rfl | go_num, HZ2, unhide HM5 _, unhide HB5 _⟩
                  case measure => simp [intOf]; omega
            · have dC : decide (B < (C : Int)) = true := by simp; omega
              have HZ2 := hide (unhide HNC (fun h => hCB (unhide HCX h).2.2))
              clear hD0 hP8 hCB HNC HCN HCX HOV
              go_wp2
              go_roundw
              case rel => exact ⟨j + 1, Z, by omega, by go_num, rfl, HZ2, m3, hB4'⟩
              case measure => simp [intOf]; omega
      · obtain rfl : j = N := by omega
        cases hb : bst s d O B j with
        | none =>
          obtain rfl : Z = -1 := by rw [← unhide HZ, hb]; rfl
          have e : O = R := by rw [← unhide HG, go_none (by rw [unhide HN]; exact hb)]
          rw [e] at hv
          clear hb HZ e
          go_wp2
          go_ret
          exact ⟨_, rfl, hv, hB⟩
        | some q =>
          obtain rfl : Z = (q : Int) := by rw [← unhide HZ, hb]; rfl
          obtain ⟨hq, hcan⟩ := bst_lt hb
          have HI2 := hide (inv_inc (unhide HI) (by rw [unhide HN]; exact hq) hcan)
          have hs1 := sm_le (unhide HPL) (j := j) (by rw [unhide HOL]; exact Nat.le_refl _)
          have hs2 := sm_le (unhide HI2).pls (j := j) (by rw [inc_length, unhide HOL]; exact Nat.le_refl _)
          have hs3 := sm_inc (o := O) (b := q) (j := j) (by rw [unhide HOL]; exact Nat.le_refl _)
          rw [if_pos hq] at hs3
          have hf := unhide HF
          obtain ⟨f', rfl⟩ : ∃ f', f = f' + 1 := ⟨f - 1, by omega⟩
          have HG2 : Hid (go s d B f' (inc O q) = R) := hide (by rw [← go_some (by rw [unhide HN]; exact hb)]; exact unhide HG)
          have HF2 : Hid (64 < sm (inc O q) j + (f' : Int)) := hide (by rw [hs3]; omega)
          have HM : Hid (sm (inc O q) j = sm O j + 1 ∧ sm O j + 1 ≤ 64) := hide ⟨hs3, by omega⟩
          obtain ⟨q0, q9⟩ := unhide HOB q hq
          have c1 := hv.get (j := q) (by rw [unhide HOL]; exact hq)
          have f1 := hv.frozen q
          have HIN : Hid (O.set q (at0 O q + 1) = inc O q) := hide rfl
          obtain ⟨Q, hQ⟩ : ∃ Q, at0 O q = Q := ⟨_, rfl⟩
          rw [hQ] at c1 HIN q0 q9
          obtain ⟨m1, m2⟩ := hv.put q (Q + 1)
          rw [unhide HIN] at m1
          have hB1 : Below w.heap.size w (wr.setCell ⟨g, q, none⟩ (.int .i64 (Q + 1))) := Below.setCell (p := ⟨g, q, none⟩) hB hg0 _
          have wQ : IntKind.i64.wrap (Q + 1) = Q + 1 := IntWalk.i64_in _ (by omega)
          have dq : decide ((q : Int) < 0) = false := by simp
          have M1 := hide m1
          have HB1 := hide hB1
          have HL1 := hide (lst_is m1)
          clear hb HZ hcan hs1 hs2 hs3 hf hQ HG HF HI m1 m2 hB1 hv hB
          go_wp2
          go_roundw
          case rel => exact ⟨_, f', unhide M1, HI2, HG2, HF2, unhide HB1⟩
          case measure =>
            rw [unhide HL1, unhide HLS]
            have := unhide HM
            omega

end Go.Proofs.YtjojeifoddonnakGreatDoor.Shr

/-
  the functions that share.next makes: by their contracts.
-/
namespace Go.Proofs.YtjojeifoddonnakGreatDoor.Shr
open Go.RowKit
open Go.Proofs.YtjojeifoddonnakGreatDoor.Tre Go.Proofs.YtjojeifoddonnakGreatDoor.Cnt Go.Proofs.YtjojeifoddonnakGreatDoor.Bnd
set_option linter.unusedVariables false

theorem boxed_below {W W' : World} {n B : Nat} {t : TypeId} {v : Value} (h : Boxed W B t v) (hb : Below n W W') (hn : B < n) : Boxed W' B t v := (hb.block B hn).trans h
/-- A list of numbers in a box. -/
def BoxR (W : World) (B : Nat) (l : List Int) : Prop := ∃ g off c, Boxed W B 22 (.slice (some ⟨g, off, none⟩) l.length c) ∧ g < W.heap.size ∧ ∀ i, i < l.length → W.cell? ⟨g, off + i, none⟩ = some (.int .i64 (at0 l i))
theorem BoxR.below {W w : World} {B : Nat} {l : List Int} (h : BoxR W B l) (hb : Below W.heap.size W w) : BoxR w B l := by
  obtain ⟨g, off, c, h1, h3, h4⟩ := h
  exact ⟨g, off, c, boxed_below h1 hb h1.lt, Nat.lt_of_lt_of_le h3 hb.size, fun i hi => (hb.cell (p := ⟨g, off + i, none⟩) h3).trans (h4 i hi)⟩
theorem BoxR.drew {W : World} {B : Nat} {l : List Int} (h : BoxR W B l) (n : Nat) : BoxR (W.drewN n) B l := h
theorem boxR_new {w : World} {a : Option Addr} {c : Nat} {l : List Int} (h0 : 0 < l.length) (hr : Row w a l) : BoxR (w.alloc (.cells #[.slice a l.length c] 22)) w.heap.size l := by
  have hb1 := below_box w (.slice a l.length c) 22
  obtain ⟨b, off, rfl, hb, hc⟩ := cell_shr' (hr.below hb1) h0
  exact ⟨b, off, c, Boxed.new _ _ _, hb, hc⟩

set_option maxHeartbeats 2000000 in
theorem square (i B : Nat) (o : List Int) (w : World) (hi : i < o.length) (h8 : o.length ≤ 8) (hp : Pls o) (hbx : BoxR w B o) :
    Calls Tryz.prog 98 #[.int .i64 i, .pointer (some ⟨B, 0, none⟩)] w fun e w' => e = .returned (.int .i64 ((at0 o i + 1) * (at0 o i + 1))) ∧ ∃ q, w' = w.drewN q := by
  obtain ⟨g, off, c, h1, h3, h4⟩ := hbx
  have c0 := h1.cell
  have c1 := h4 i hi
  have hq := hp i hi
  obtain ⟨P, hP⟩ : ∃ P, at0 o i = P := ⟨_, rfl⟩
  obtain ⟨N, hN⟩ : ∃ N, o.length = N := ⟨_, rfl⟩
  rw [hP] at c1 hq ⊢
  rw [hN] at c0 hi h8
  obtain ⟨A, hA⟩ : ∃ A, P + 1 = A := ⟨_, rfl⟩
  have wA : IntKind.i64.wrap (P + 1) = A := by rw [← hA]; exact IntWalk.i64_in _ (by omega)
  have hA9 : 1 ≤ A ∧ A ≤ 9 := by omega
  rw [hA]
  obtain ⟨Q, hQ⟩ : ∃ Q, A * A = Q := ⟨_, rfl⟩
  have hQ1 : 0 ≤ Q ∧ Q ≤ 81 := by
    rw [← hQ]
    exact ⟨Int.mul_nonneg (by omega) (by omega), by have := Int.mul_le_mul (a := A) (b := A) (c := 9) (d := 9) (by omega) (by omega) (by omega) (by omega); omega⟩
  have wQ : IntKind.i64.wrap (A * A) = Q := by rw [hQ]; exact IntWalk.i64_in _ (by omega)
  rw [hQ]
  clear h1 h3 h4 hP hN hA hQ hp hq hA9 hQ1
  go_enter Tryz.func98, Tryz.ntmps98
  go_wp2
  go_quiet (fail)
  go_wp2
  go_ret
  exact ⟨rfl, _, rfl⟩

/-- The function of a square, in its box. -/
def Sq (W : World) (B Bp : Nat) : Prop := Boxed W B 66 (.func (.func 98) #[] #[.pointer (some ⟨Bp, 0, none⟩)])

set_option maxHeartbeats 4000000 in
theorem louder (i b Bd Bs Bp : Nat) (d o : List Int) (w : World) (hi : i < o.length) (hb : b < o.length) (h8 : o.length ≤ 8) (hl : d.length = o.length) (hp : Pls o) (hld : Lds d) (hbd : BoxR w Bd d) (hbp : BoxR w Bp o) (hsq : Sq w Bs Bp) :
    Calls Tryz.prog 99 #[.int .i64 i, .int .i64 b, .pointer (some ⟨Bd, 0, none⟩), .pointer (some ⟨Bs, 0, none⟩)] w fun e w' => e = .returned (.bool (decide (Over d o i b))) ∧ ∃ q, w' = w.drewN q := by
  have S1 := hide (fun (k : Nat) (hk : k = i ∨ k = b) n => square k Bp o (w.drewN n) (by rcases hk with rfl | rfl <;> assumption) h8 hp (hbp.drew n))
  obtain ⟨sq, hsq2⟩ : ∃ sq : Nat → Int, ∀ k, (at0 o k + 1) * (at0 o k + 1) = sq k := ⟨_, fun _ => rfl⟩
  simp only [hsq2] at S1
  have c3 := hsq.cell
  obtain ⟨g, off, c, h1, h3, h4⟩ := hbd
  have c0 := h1.cell
  have c1 := h4 i (by omega)
  have c2 := h4 b (by omega)
  have d1 := hld i (by omega)
  have d2 := hld b (by omega)
  have o1 := hp i hi
  have o2 := hp b hb
  have HO : Hid (Over d o i b ↔ at0 d b * ((at0 o i + 1) * (at0 o i + 1)) < at0 d i * ((at0 o b + 1) * (at0 o b + 1))) := hide (by unfold Over; rw [Int.mul_assoc, Int.mul_assoc])
  rw [hsq2, hsq2] at HO
  obtain ⟨T, hT⟩ : ∃ T, decide (Over d o i b) = T := ⟨_, rfl⟩
  obtain ⟨N, hN⟩ : ∃ N, o.length = N := ⟨_, rfl⟩
  rw [hl, hN] at c0
  rw [hN] at hi hb h8
  obtain ⟨D, hD⟩ : ∃ D, at0 d i = D := ⟨_, rfl⟩
  obtain ⟨E, hE⟩ : ∃ E, at0 d b = E := ⟨_, rfl⟩
  obtain ⟨P, hP⟩ : ∃ P, at0 o i = P := ⟨_, rfl⟩
  obtain ⟨Q, hQ⟩ : ∃ Q, at0 o b = Q := ⟨_, rfl⟩
  rw [hD] at c1 d1 HO
  rw [hE] at c2 d2 HO
  have hX := hsq2 i
  have hY := hsq2 b
  rw [hP] at o1 hX
  rw [hQ] at o2 hY
  obtain ⟨X, hX'⟩ : ∃ X, sq i = X := ⟨_, rfl⟩
  obtain ⟨Y, hY'⟩ : ∃ Y, sq b = Y := ⟨_, rfl⟩
  rw [hX'] at hX HO
  rw [hY'] at hY HO
  have x1 : 0 ≤ X ∧ X ≤ 81 := by
    rw [← hX]
    exact ⟨Int.mul_nonneg (by omega) (by omega), by have := Int.mul_le_mul (a := P + 1) (b := P + 1) (c := 9) (d := 9) (by omega) (by omega) (by omega) (by omega); omega⟩
  have y1 : 0 ≤ Y ∧ Y ≤ 81 := by
    rw [← hY]
    exact ⟨Int.mul_nonneg (by omega) (by omega), by have := Int.mul_le_mul (a := Q + 1) (b := Q + 1) (c := 9) (d := 9) (by omega) (by omega) (by omega) (by omega); omega⟩
  obtain ⟨U, hU⟩ : ∃ U, D * Y = U := ⟨_, rfl⟩
  obtain ⟨V, hV⟩ : ∃ V, E * X = V := ⟨_, rfl⟩
  have u1 : 0 ≤ U ∧ U ≤ 648000 := by
    rw [← hU]
    exact ⟨Int.mul_nonneg (by omega) (by omega), by have := Int.mul_le_mul (a := D) (b := Y) (c := 8000) (d := 81) (by omega) (by omega) (by omega) (by omega); omega⟩
  have v1 : 0 ≤ V ∧ V ≤ 648000 := by
    rw [← hV]
    exact ⟨Int.mul_nonneg (by omega) (by omega), by have := Int.mul_le_mul (a := E) (b := X) (c := 8000) (d := 81) (by omega) (by omega) (by omega) (by omega); omega⟩
  rw [hU, hV] at HO
  have wU : IntKind.i64.wrap (D * sq b) = U := by rw [hY', hU]; exact IntWalk.i64_in _ (by omega)
  have wV : IntKind.i64.wrap (E * sq i) = V := by rw [hX', hV]; exact IntWalk.i64_in _ (by omega)
  have dT : decide (V < U) = T := by rw [← hT]; exact decide_eq_decide.2 (unhide HO).symm
  rw [hT]
  clear h1 h3 h4 hbp hsq hD hE hP hQ hX hY hX' hY' hsq2 hU hV hT HO hN hl hp hld x1 y1 u1 v1 d1 d2 o1 o2
  go_enter Tryz.func99, Tryz.ntmps99
  go_wp2
  go_quiet ((go_at_call 98; exact Calls.quiet_of (unhide S1 _ (by first | exact Or.inl rfl | exact Or.inr rfl) _)))
  go_wp2
  go_ret
  exact ⟨rfl, _, rfl⟩

end Go.Proofs.YtjojeifoddonnakGreatDoor.Shr
