/-
  hornref1.Scale, of counts that are right: by its contract.
-/
import Derived.Test.YtgffpljnhadigagDoorRefSum
import Derived.Deep.QuietTactic
import Derived.BigQuiet
namespace Go.Proofs.YtgffpljnhadigagDoor.Scl
open Go.RowKit
open Go.Proofs.YtgffpljnhadigagDoor.Tre
set_option linter.unusedVariables false

/-- What a slice of this call's own holds, as its cells say. -/
def lst (w : World) (g n : Nat) : List Int := upto (fun j => intOf ((w.cell? ⟨g, j, none⟩).getD undef)) n
theorem lst_is {w : World} {base g n c : Nat} {l : List Int} (h : Has w base (.slice (some ⟨g, 0, none⟩) n c) l) : lst w g n = l := by
  obtain ⟨e, _⟩ := h.inRow rfl
  subst e
  refine eq_of_at (upto_length _ _) fun i hi => ?_
  unfold lst at hi ⊢
  rw [upto_length] at hi
  rw [upto_at _ hi, h.get hi]
  rfl

theorem fit_set {l : List Int} (h : Good l) {b : Nat} (hb : IsBest l b) : (256 < tot l → nxt l = l.set b (at0 l b - 1)) ∧ (tot l < 256 → nxt l = l.set b (at0 l b + 1)) :=
  ⟨fun hh => by rw [nxt_is hb, if_pos hh]; rfl, fun hh => by rw [nxt_is hb, if_neg (by omega)]⟩

theorem tdiv_is {x y : Int} (hx : 0 ≤ x) : Int.tdiv x y = x / y := Int.tdiv_eq_ediv_of_nonneg hx

set_option maxHeartbeats 4000000 in
theorem refScale (a : Option Addr) (cap : Nat) (c : List Int) (w : World) (hr : Row w a c) (h : Hid (cf c = 0)) :
    Calls Tryd.prog 5 #[.slice a c.length cap] w fun e w' => ∃ v, e = .returned v ∧ Has w' w.heap.size v (scale c) ∧ Below w.heap.size w w' := by
  obtain ⟨f1, f2, f3, f4⟩ := cf_ok (unhide h)
  have hsm := hide (small_of f3 f2)
  have HG := hide (base_good (unhide h))
  have HF3 := hide f3
  have HLE : Hid (∀ i, i < c.length → at0 c i ≤ tot c) := hide (fun i hi => at_le_tot (fun i hi => (f3 i hi).1) hi)
  have hT9 : tot c ≤ 1000000000 := (unhide hsm c.length (Nat.le_refl _)).2
  obtain ⟨N, hN⟩ : ∃ N, c.length = N := ⟨_, rfl⟩
  obtain ⟨A, hA⟩ : ∃ A, tot c = A := ⟨_, rfl⟩
  have HN := hide hN
  have HA := hide hA
  have hsum := refSum a cap N c w (hide hN.symm) (by omega) hr hsm
  rw [hA] at hsum f4 hT9
  rw [hN] at f1 f2 ⊢
  clear hN hA f3
  go_enter Tryd.func5, Tryd.ntmps5
  go_wp2_with fail
  refine hsum.mono ?_
  clear hsum
  rintro e w1 ⟨rfl, hw1⟩
  obtain rfl : w = w1 := hw1.symm
  clear hw1
  go_wp2
  go_loopw [3, 5] (fun o i wr => ∃ j : Nat, j ≤ N ∧ i = .int .i64 j ∧ Has wr w.heap.size o (upto (fun i => shr A (at0 c i)) j) ∧ Below w.heap.size w wr) (fun _ i _ => N - (intOf i).toNat)
  case atStart => exact ⟨0, Nat.zero_le _, rfl, Has.nil _ _, Below.refl _ _⟩
  case round =>
    obtain ⟨j, hj, rfl, h1, hB⟩ := hrel
    by_cases hlt : j < N
    · have hlt' : j < c.length := by rw [unhide HN]; exact hlt
      obtain ⟨b, off, rfl, hb, hc⟩ := cell_at (hr.below hB) (by omega)
      have c1 := hc j hlt'
      have h2 := unhide HF3 j hlt'
      have h3 := unhide HLE j hlt'
      rw [unhide HA] at h3
      have e1 : Hid (upto (fun i => shr A (at0 c i)) (j + 1) = upto (fun i => shr A (at0 c i)) j ++ [shr A (at0 c j)]) := hide (upto_succ _ _)
      have hln : Hid ((upto (fun i => shr A (at0 c i)) j).length + 1 ≤ 1000000) := hide (by rw [upto_length]; omega)
      have HS : Hid (shr A (at0 c j) = if at0 c j ≤ 0 then 0 else if at0 c j * 256 / A = 0 then 1 else at0 c j * 256 / A) := hide rfl
      have h4 : 0 ≤ at0 c j * 256 / A := Int.ediv_nonneg (by omega) (by omega)
      have h5 : at0 c j * 256 / A ≤ 256 := by
        have h6 : at0 c j * 256 / A < 257 := (Int.ediv_lt_iff_lt_mul f4).2 (by omega)
        omega
      have hdv : Int.tdiv (at0 c j * 256) A = at0 c j * 256 / A := tdiv_is (by omega)
      obtain ⟨X, hX⟩ : ∃ X, at0 c j = X := ⟨_, rfl⟩
      rw [hX] at c1 h2 h3 e1 HS h4 h5 hdv
      obtain ⟨Z, hZ⟩ : ∃ Z, shr A X = Z := ⟨_, rfl⟩
      rw [hZ] at e1 HS
      obtain ⟨Y, hY⟩ : ∃ Y, X * 256 = Y := ⟨_, rfl⟩
      have hmul : IntKind.i64.wrap (X * 256) = Y := by rw [hY]; exact IntWalk.i64_in _ (by omega)
      rw [hY] at h4 h5 hdv HS
      have HXD : Hid (X = 0 → Y / A = 0) := hide (fun e => by rw [← hY, e]; simp)
      obtain ⟨D, hD⟩ : ∃ D, Y / A = D := ⟨_, rfl⟩
      rw [hD] at h4 h5 hdv HS HXD
      have hA0 : (A == 0) = false := by rw [beq_eq_false_iff_ne]; omega
      have hWs := hB.size
      obtain ⟨x0, x9⟩ := h2
      clear hX hZ hY hD hc hlt'
      have hway : (X = 0 ∧ D = 0 ∧ Z = 0) ∨ (0 < X ∧ decide (0 < X) = true ∧ D = 0 ∧ Z = 1) ∨ (0 < X ∧ (D == 0) = false ∧ Z = D) := by
        have hs := unhide HS
        by_cases hx : X = 0
        · exact Or.inl ⟨hx, unhide HXD hx, by rw [hs, if_pos (by omega)]⟩
        · by_cases hd : D = 0
          · exact Or.inr (Or.inl ⟨by omega, by simp; omega, hd, by rw [hs, if_neg (by omega), if_pos hd]⟩)
          · exact Or.inr (Or.inr ⟨by omega, by rw [beq_eq_false_iff_ne]; exact hd, by rw [hs, if_neg (by omega), if_neg hd]⟩)
      clear HS HXD
      rcases hway with ⟨rfl, rfl, rfl⟩ | ⟨p1, p2, rfl, rfl⟩ | ⟨p1, p2, rfl⟩
      all_goals (
        go_wp2_with (at_builtin; refine wpList_app _ rfl _ _ rfl w.heap.size u3 (upto (fun i => shr A (at0 c i)) j) _ _ _ rfl (h1.alloc _) rfl (row_one _ _ _) (unhide hln) (by simp; omega) ?_; intro s1 w1 k1 g1 at1)
        obtain ⟨d1, d2⟩ := stepped_plain h1 hWs k1 g1 at1
        go_wp2
        go_roundw
        case rel => exact ⟨j + 1, by omega, by go_num, by rw [unhide e1]; exact k1, hB.trans d1⟩
        case measure => simp [intOf]; omega)
    · obtain rfl : j = N := by omega
      have eb : upto (fun i => shr A (at0 c i)) j = base c := by unfold base; rw [unhide HA, unhide HN]
      rw [eb] at h1
      have HL : Hid ((base c).length = j) := hide (by rw [base_length]; exact unhide HN)
      have HT : Hid (tot (base c) ≤ 20000) := hide (by
        have h2 := pfx_le (l := base c) (b := 256) (n := (base c).length) (fun i hi => by
          rw [base_length] at hi
          rw [base_at c hi]
          exact (shr_in (unhide HF3 i hi).1 (unhide HLE i hi)).2.1) (Nat.le_refl _)
        rw [unhide HL] at h2
        unfold tot
        rw [unhide HL]
        omega)
      clear eb hj
      obtain ⟨g, cc, rfl, hg0, hg1, hcc, hc9⟩ := h1.one (by rw [unhide HL]; exact f1)
      rw [unhide HL] at h1 hcc ⊢
      go_wp2
      go_loopw [7] (fun _ wr => ∃ cur : List Int, Has wr w.heap.size (.slice (some ⟨g, 0, none⟩) j cc) cur ∧ Hid (Good cur) ∧ Hid (cur.length = j) ∧ Hid (fit cur = scale c) ∧ Hid (tot cur ≤ 20000) ∧ Below w.heap.size w wr) (fun _ wr => (tot (lst wr g j) - 256).natAbs)
      case atStart => exact ⟨base c, h1, HG, HL, hide rfl, HT, hB⟩
      case round =>
        obtain ⟨cur, k1, G1, L1, F1, T1, hB2⟩ := hrel
        clear h1 hB HT HL HG hlt
        have r1 : Row wr (some ⟨g, 0, none⟩) cur := (k1.inRow rfl).2
        have GN := hide (unhide G1).2.1
        have TP := (unhide G1).2.2
        have hsm2 : Hid (Small cur) := hide (fun i hi => ⟨by have := pfx_nonneg (unhide GN) hi; omega, by
          have h2 := pfx_mono (unhide GN) hi (Nat.le_refl _)
          have h3 := unhide T1
          unfold tot at h3
          omega⟩)
        have CS := hide (fun W r => refSum (some ⟨g, 0, none⟩) cc j cur W (hide (unhide L1).symm) (by omega) r hsm2)
        have T2 := unhide T1
        have HLS := hide (lst_is k1)
        obtain ⟨T, hT⟩ : ∃ T, tot cur = T := ⟨_, rfl⟩
        have HTT := hide hT
        rw [hT] at CS TP T2
        clear hT
        go_wp2_with fail
        refine (unhide CS wr r1).mono ?_
        rintro e w2 ⟨rfl, hw2⟩
        obtain rfl : wr = w2 := hw2.symm
        clear hw2
        by_cases ht : T = 256
        · have hq : (T == 256) = true := by rw [ht]; rfl
          have hq2 : (T != 256) = false := by rw [ht]; rfl
          have ec : cur = scale c := by rw [← unhide F1, fit_done (by rw [unhide HTT]; exact ht)]
          rw [ec] at k1
          clear ht ec
          go_wp2
          go_ret
          exact ⟨_, rfl, k1, hB2⟩
        · have hq : (T == 256) = false := by rw [beq_eq_false_iff_ne]; exact ht
          have hq2 : (T != 256) = true := by rw [bne_iff_ne]; exact ht
          have HNE : Hid (tot cur ≠ 256) := hide (by rw [unhide HTT]; exact ht)
          have HW := hide hB2
          have W0 := wr
          go_wp2
          go_loopw [7, 8] (fun bb i wq => ∃ k B : Nat, k ≤ j ∧ i = .int .i64 k ∧ bb = .int .i64 B ∧ Hid (B = bst cur k) ∧ B < j ∧ Has wq w.heap.size (.slice (some ⟨g, 0, none⟩) j cc) cur ∧ Below w.heap.size w wq) (fun _ i _ => j - (intOf i).toNat)
          case atStart => exact ⟨0, 0, Nat.zero_le _, rfl, rfl, rfl, f1, k1, hB2⟩
          case round =>
            obtain ⟨k, B, hk, rfl, rfl, HB, hBj, k3, hB3⟩ := hrel
            have hcur : Hid (cur.length = j) := L1
            by_cases hlt : k < j
            · have c1 := k3.get (j := k) (by rw [unhide L1]; exact hlt)
              have c2 := k3.get (j := B) (by rw [unhide L1]; exact hBj)
              have HS : Hid (bst cur (k + 1) = if at0 cur B < at0 cur k then k else B) := hide (by rw [bst, unhide HB])
              by_cases hkB : k = B
              · subst hkB
                have HS2 : Hid (bst cur (k + 1) = k) := hide (by rw [unhide HS]; split <;> rfl)
                obtain ⟨X, hX⟩ : ∃ X, at0 cur k = X := ⟨_, rfl⟩
                rw [hX] at c1
                clear c2 hX HS
                go_wp2
                go_quiet (fail)
                go_wp2
                go_roundw
                case rel => exact ⟨k + 1, k, by omega, by go_num, rfl, hide (unhide HS2).symm, hBj, k3, hB3.trans ⟨rfl, rfl, rfl, Nat.le_refl _, fun _ _ => rfl⟩⟩
                case measure => simp [intOf]; omega
              · obtain ⟨X, hX⟩ : ∃ X, at0 cur k = X := ⟨_, rfl⟩
                obtain ⟨Y, hY⟩ : ∃ Y, at0 cur B = Y := ⟨_, rfl⟩
                rw [hX] at c1 HS
                rw [hY] at c2 HS
                clear hX hY
                by_cases hx : Y < X
                · have hd : decide (Y < X) = true := by simpa using hx
                  have HS2 : Hid (bst cur (k + 1) = k) := hide (by rw [unhide HS, if_pos hx])
                  clear HS
                  go_wp2
                  go_quiet (fail)
                  go_wp2
                  go_roundw
                  case rel => exact ⟨k + 1, k, by omega, by go_num, rfl, hide (unhide HS2).symm, hlt, k3, hB3.trans ⟨rfl, rfl, rfl, Nat.le_refl _, fun _ _ => rfl⟩⟩
                  case measure => simp [intOf]; omega
                · have hd : decide (Y < X) = false := by simpa using hx
                  have HS2 : Hid (bst cur (k + 1) = B) := hide (by rw [unhide HS, if_neg hx])
                  clear HS
                  go_wp2
                  go_quiet (fail)
                  go_wp2
                  go_roundw
                  case rel => exact ⟨k + 1, B, by omega, by go_num, rfl, hide (unhide HS2).symm, hBj, k3, hB3.trans ⟨rfl, rfl, rfl, Nat.le_refl _, fun _ _ => rfl⟩⟩
                  case measure => simp [intOf]; omega
            · obtain rfl : k = j := by omega
              have HBS : Hid (IsBest cur B) := hide (by
                have h2 := bst_best cur (by rw [unhide L1]; exact f1)
                rw [unhide L1, ← unhide HB] at h2
                exact h2)
              have c2 := k3.get (j := B) (by rw [unhide L1]; exact hBj)
              have fz := k3.frozen B
              have r3 : Row wr (some ⟨g, 0, none⟩) cur := (k3.inRow rfl).2
              have hle : Hid (at0 cur B ≤ 20000 ∧ 0 ≤ at0 cur B) := hide ⟨by
                have h2 := at_le_tot (unhide GN) (i := B) (by rw [unhide L1]; exact hBj)
                have h3 := unhide T1
                omega, unhide GN B (by rw [unhide L1]; exact hBj)⟩
              obtain ⟨s1, s2⟩ := fit_set (unhide G1) (unhide HBS)
              have S1 := hide s1
              have S2 := hide s2
              have NG := hide (nxt_good (unhide G1))
              have NL : Hid ((nxt cur).length = k) := hide (by rw [nxt_length]; exact unhide L1)
              have NF : Hid (fit (nxt cur) = scale c) := hide (by rw [fit_next (unhide G1) (unhide HNE)]; exact unhide F1)
              have NT : Hid (tot (nxt cur) ≤ 20000) := hide (by
                have h2 := unhide T1
                have h3 := unhide HTT
                rw [nxt_tot (unhide G1)]
                split <;> omega)
              have NM := hide (nxt_less (unhide G1) (unhide HNE))
              obtain ⟨h20, h00⟩ := unhide hle
              rw [unhide HTT] at S1 S2
              obtain ⟨Y, hY⟩ : ∃ Y, at0 cur B = Y := ⟨_, rfl⟩
              rw [hY] at c2 S1 S2 h20 h00
              clear hY hle s1 s2
              go_wp2_with fail
              refine (unhide CS wr r3).mono ?_
              rintro e w2 ⟨rfl, hw2⟩
              obtain rfl : wr = w2 := hw2.symm
              clear hw2
              by_cases hgt : 256 < T
              · obtain ⟨m1, m2⟩ := k3.put B (Y - 1)
                rw [← unhide S1 hgt] at m1
                have M1 := hide m1
                have M2 := hide (Below.setCell (p := ⟨g, B, none⟩) hB3 hg0 (.int .i64 (Y - 1)))
                have ML := hide (lst_is m1)
                clear m1 m2 S1 S2
                go_wp2
                exact ⟨⟨nxt cur, unhide M1, NG, NL, NF, NT, unhide M2⟩, by rw [unhide ML, unhide HLS]; have := unhide NM; omega⟩
              · have hlt2 : T < 256 := by omega
                obtain ⟨m1, m2⟩ := k3.put B (Y + 1)
                rw [← unhide S2 hlt2] at m1
                have M1 := hide m1
                have M2 := hide (Below.setCell (p := ⟨g, B, none⟩) hB3 hg0 (.int .i64 (Y + 1)))
                have ML := hide (lst_is m1)
                clear m1 m2 S1 S2
                go_wp2
                exact ⟨⟨nxt cur, unhide M1, NG, NL, NF, NT, unhide M2⟩, by rw [unhide ML, unhide HLS]; have := unhide NM; omega⟩

end Go.Proofs.YtgffpljnhadigagDoor.Scl
