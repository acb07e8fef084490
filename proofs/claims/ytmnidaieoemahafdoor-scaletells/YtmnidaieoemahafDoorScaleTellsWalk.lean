/-
  The walk of hornlaw1.ScaleTells.
-/
import Derived.Test.YtmnidaieoemahafDoorRefScaleTwo
import Derived.Test.YtmnidaieoemahafDoorRefCounts
import Derived.Test.YtmnidaieoemahafDoorRefShares
import Derived.Test.YtmnidaieoemahafDoorRefFind
import Derived.Test.YtmnidaieoemahafDoorScaleOf
import Derived.Test.YtmnidaieoemahafDoorScaleFind
import Derived.Test.YtmnidaieoemahafDoorInts
import Derived.Test.YtmnidaieoemahafDoorTold
namespace Go.Proofs.YtmnidaieoemahafDoor.ScaleTellsLaw
open Go.RowKit
open Go.Proofs.YtmnidaieoemahafDoor.Tre Go.Proofs.YtmnidaieoemahafDoor.Scl Go.Proofs.YtmnidaieoemahafDoor.Same Go.Proofs.YtmnidaieoemahafDoor.Aser
set_option linter.unusedVariables false

theorem same_below {w w' : World} (h : w' = w) : Below w.heap.size w w' := by rw [h]; exact Below.refl _ _
theorem error_nilB (w : World) : Calls Tryd.prog 8 #[.nilIface, .int .i64 0] w fun e w' => e = .returned (.bool true) ∧ Below w.heap.size w w' :=
  (error_nil w).mono fun e w' ⟨he, hw⟩ => ⟨he, same_below hw⟩
theorem nil_ints (w : World) : Calls Tryd.prog 9 #[.slice none 0 0, .slice none 0 0] w fun e w' => e = .returned (.bool true) ∧ Below w.heap.size w w' :=
  ints_same none 0 none 0 [] w (by simp) (Or.inl rfl) (Or.inl rfl)

set_option maxRecDepth 100000 in
set_option maxHeartbeats 16000000 in
theorem walk (a0 : Option Addr) (cap0 : Nat) (c : List Int) (a1 : Option Addr) (cap1 : Nat) (f : List Int) (p : Int) (w : World) (hL : Laid w)
    (hr0 : Row w a0 c) (hw0 : ∀ n ∈ c, (Lit.int .i64 n).wf = true) (hz0 : c.length * 8 ≤ 140737488351232)
    (hr1 : Row w a1 f) (hw1 : ∀ n ∈ f, (Lit.int .i64 n).wf = true) (hz1 : f.length * 8 ≤ 140737488351232) (hq1 : (a1 = none → cap1 = 0) ∧ f.length ≤ cap1 ∧ cap1 ≤ 9223372036854775807) (hwp : (Lit.int .i64 p).wf = true) :
    Calls Tryd.prog 3 #[.slice a0 c.length cap0, .slice a1 f.length cap1, .int .i64 p] w fun e w' => e = .returned (.bool true) ∧ Below w.heap.size w w' := by
  obtain ⟨q1, q2, q3⟩ := hq1
  have z0 : c.length ≤ 9223372036854775807 := by omega
  have z1 : f.length ≤ 9223372036854775807 := by omega
  have hway : (∃ E, Hid (cf c = E) ∧ Hid (cf c ≠ 0) ∧ (E == 0) = false) ∨ Hid (cf c = 0) := by
    by_cases h : cf c = 0
    · exact Or.inr h
    · exact Or.inl ⟨_, rfl, h, by rw [beq_eq_false_iff_ne]; exact h⟩
  have hway2 : Hid (¬ Scl.right f) ∨ (Hid (Scl.right f) ∧ (p < 0 ∨ (0 ≤ p ∧ 256 ≤ p) ∨ (0 ≤ p ∧ p ≤ 255 ∧ ∃ k, Hid (IsAt f p k)))) := by
    by_cases h : Scl.right f
    · refine Or.inr ⟨h, ?_⟩
      by_cases h1 : p < 0
      · exact Or.inl h1
      · by_cases h2 : 256 ≤ p
        · exact Or.inr (Or.inl ⟨by omega, h2⟩)
        · exact Or.inr (Or.inr ⟨by omega, by omega, is_at (by omega) (by rw [h.2.2.2]; omega)⟩)
    · exact Or.inl h
  clear hw0 hw1 hwp hz0 hz1 q1
  have cA := refCounts a0 cap0 c w z0 hr0
  have CS := hide (fun W h => refShares a1 cap1 f W z1 h)
  obtain ⟨M, hM⟩ : ∃ M, f.length = M := ⟨_, rfl⟩
  have HM := hide hM
  obtain ⟨N, hN⟩ : ∃ N, c.length = N := ⟨_, rfl⟩
  have HN := hide hN
  rw [hN] at cA ⊢
  rw [hM] at CS q2 ⊢
  clear hN hM
  go_enter Tryd.func3, Tryd.ntmps3
  go_wp2_with fail
  rcases hway with ⟨E, HE, HF0, hE0⟩ | HF1
  all_goals (first
    | (have cB := fun W h => of_no a0 cap0 c W z0 h HF0
       rw [unhide HE] at cA cB
       rw [unhide HN] at cB
       refine cA.mono ?_
       clear cA
       rintro e w1 ⟨rfl, hw1⟩
       obtain rfl : w = w1 := hw1.symm
       clear hw1
       go_wp2_with fail
       refine (cB w hr0).mono ?_
       clear cB
       rintro e w2 ⟨rfl, hB2⟩
       go_wp2_with fail
       refine (error_is E w2 (hL.below hB2)).mono ?_
       rintro e w3 ⟨rfl, hb3⟩
       have hB3 := Below.chain hB2 hb3
       clear hB2 hb3
       go_wp2_with fail
       refine (nil_ints w3).mono ?_
       rintro e wA ⟨rfl, hb4⟩
       have hB := Below.chain hB3 hb4
       clear hB3 hb4)
    | (have cB := refScale a0 cap0 c w hr0 HF1
       have cC := fun W h => of_ok a0 cap0 c W h HF1
       have HSL := hide (scale_is (unhide HF1)).1
       rw [unhide HF1] at cA
       rw [unhide HN] at cB cC HSL
       have cD := fun p q p' q' W h h' => ints_same p q p' q' (scale c) W (by rw [unhide HSL, ← unhide HN]; exact z0) h h'
       rw [unhide HSL] at cD
       refine cA.mono ?_
       clear cA
       rintro e w1 ⟨rfl, hw1⟩
       obtain rfl : w = w1 := hw1.symm
       clear hw1
       go_wp2_with fail
       refine cB.mono ?_
       clear cB
       rintro e w2 ⟨v2, rfl, k2, hB2⟩
       obtain ⟨p2, q2', rfl, r2⟩ := k2.row
       rw [unhide HSL]
       clear k2
       go_wp2_with fail
       refine (cC w2 (hr0.below hB2)).mono ?_
       clear cC
       rintro e w3 ⟨v3, rfl, k3, hb3⟩
       have hB3 := Below.chain hB2 hb3
       have r2' := r2.below hb3
       obtain ⟨p3, q3', rfl, r3⟩ := k3.row
       rw [unhide HSL]
       clear k3 hB2 r2 hb3
       go_wp2_with fail
       refine (error_nilB w3).mono ?_
       rintro e w4 ⟨rfl, hb4⟩
       have hB4 := Below.chain hB3 hb4
       have r2 := r2'.below hb4
       have r3' := r3.below hb4
       clear hB3 r2' r3 hb4
       go_wp2_with fail
       refine (cD p3 q3' p2 q2' w4 r3' r2).mono ?_
       clear cD r2 r3'
       rintro e wA ⟨rfl, hb5⟩
       have hB := Below.chain hB4 hb5
       clear hB4 hb5))
  all_goals (
    go_wp2_with fail
    refine (unhide CS wA (hr1.below hB)).mono ?_
    rintro e w6 ⟨t, rfl, HT, hw6⟩
    obtain rfl : wA = w6 := hw6.symm
    clear hw6
    rcases hway2 with HR0 | ⟨HR1, hpw⟩)
  all_goals (first
    | (obtain rfl : t = false := by
         cases t
         · rfl
         · exact absurd ((unhide HT).1 rfl) (unhide HR0)
       have cE := fun W h => starts_no a1 cap1 f W z1 h HR0
       have cF := fun W h => find_no a1 cap1 f p W z1 h HR0
       rw [unhide HM] at cE cF
       go_wp2
       go_loopw [8, 13] (fun v i wr => v = .slice none 0 0 ∧ i = .int .i64 0 ∧ wr = wA) (fun _ _ _ => 0)
       case atStart => exact ⟨rfl, rfl, rfl⟩
       case round =>
         obtain ⟨rfl, rfl, rfl⟩ := hrel
         have hz : M = 0 ∨ 0 < M := by omega
         rcases hz with rfl | hz
         all_goals (
           first
             | (have hd : decide ((0 : Int) < (M : Int)) = true := by simp; omega
                go_wp2_with fail)
             | go_wp2_with fail
           refine (cE _ (hr1.below hB)).mono ?_
           rintro e w7 ⟨rfl, hb7⟩
           have hB7 := Below.chain hB hb7
           go_wp2_with fail
           refine (error_is 3 w7 (hL.below hB7)).mono ?_
           rintro e w8 ⟨rfl, hb8⟩
           have hB8 := Below.chain hB7 hb8
           go_wp2_with fail
           refine (nil_ints w8).mono ?_
           rintro e w9 ⟨rfl, hb9⟩
           have hB9 := Below.chain hB8 hb9
           go_wp2_with fail
           refine (cF w9 (hr1.below hB9)).mono ?_
           rintro e w10 ⟨rfl, hb10⟩
           have hB10 := Below.chain hB9 hb10
           go_wp2_with fail
           refine (error_is 3 w10 (hL.below hB10)).mono ?_
           rintro e w11 ⟨rfl, hb11⟩
           go_wp2
           go_ret
           exact ⟨rfl, Below.chain hB10 hb11⟩))
    | (obtain rfl : t = true := (unhide HT).2 (unhide HR1)
       have h40 := (unhide HR1).2.1
       have h1M := (unhide HR1).1
       rw [unhide HM] at h40 h1M
       have HP := hide (right_pfx (unhide HR1))
       have HSM : Hid (∀ j, j ≤ f.length → Small (f.take j)) := hide (fun j hj => by
         have f3 := (unhide HR1).2.2.1
         refine small_of (fun i hi => ?_) (by rw [List.length_take, unhide HM]; omega)
         rw [List.length_take] at hi
         rw [at0_take (by omega)]
         have h1 := at_le_tot f3 (i := i) (by omega)
         have h2 := (unhide HR1).2.2.2
         exact ⟨f3 i (by omega), by omega⟩)
       have cE := fun W h => starts_ok a1 cap1 f W h HR1
       rw [unhide HM] at cE
       have cI := fun p q p' q' W h h' => ints_same p q p' q' (upto (pfx f) M) W (by rw [upto_length, ← unhide HM]; exact z1) h h'
       rw [upto_length] at cI
       have CE := hide cE
       have CI := hide cI
       clear cE cI
       go_wp2
       go_loopw [8, 13] (fun v i wr => ∃ j : Nat, j ≤ M ∧ i = .int .i64 j ∧ Has wr w.heap.size v (upto (pfx f) j) ∧ Below w.heap.size w wr) (fun _ i _ => M - (intOf i).toNat)
       case atStart => exact ⟨0, Nat.zero_le _, rfl, Has.nil _ _, hB⟩
       case round =>
         obtain ⟨j, hj, rfl, hv, hBj⟩ := hrel
         clear hB
         by_cases hlt : j < M
         · have hlt' : j < f.length := by rw [unhide HM]; exact hlt
           have hsum := refSum a1 cap1 j (f.take j) wr (hide (by rw [List.length_take]; omega)) (by omega) ((hr1.below hBj).take j) (hide (unhide HSM j (by omega)))
           rw [tot_take f (by omega)] at hsum
           have er : Hid (upto (pfx f) (j + 1) = upto (pfx f) j ++ [pfx f j]) := hide (upto_succ _ _)
           have hln : Hid ((upto (pfx f) j).length + 1 ≤ 1000000) := hide (by rw [upto_length]; omega)
           have hWs := hBj.size
           have hjc : j ≤ cap1 := by omega
           obtain ⟨T, hT⟩ : ∃ T, pfx f j = T := ⟨_, rfl⟩
           rw [hT] at hsum er
           obtain ⟨b1, off1, rfl, -, -⟩ := cell_at hr1 (by omega)
           clear hT hlt'
           go_wp2_with fail
           refine hsum.mono ?_
           clear hsum
           rintro e wS ⟨rfl, hwS⟩
           obtain rfl : wr = wS := hwS.symm
           clear hwS
           go_wp2_with (at_builtin; refine wpList_app _ rfl _ _ rfl w.heap.size u8 (upto (pfx f) j) _ _ _ rfl (hv.alloc _) rfl (row_one _ _ _) (unhide hln) (by simp; omega) ?_; intro s' w1 k1 g1 at1)
           obtain ⟨d1, d2⟩ := stepped_plain hv hWs k1 g1 at1
           go_wp2
           go_roundw
           case rel => exact ⟨j + 1, by omega, by go_num, by rw [unhide er]; exact k1, hBj.trans d1⟩
           case measure => simp [intOf]; omega
         · obtain rfl : j = M := by omega
           obtain ⟨pv, qv, rfl, rv⟩ := hv.row
           rw [upto_length]
           clear hv HSM
           go_wp2_with fail
           refine (unhide CE wr (hr1.below hBj)).mono ?_
           rintro e w7 ⟨v7, rfl, k7, hb7⟩
           have hB7 := Below.chain hBj hb7
           have rv7 := rv.below hb7
           obtain ⟨p7, q7, rfl, r7⟩ := k7.row
           rw [upto_length]
           clear k7 rv hBj hb7 CE
           go_wp2_with fail
           refine (error_nilB w7).mono ?_
           rintro e w8 ⟨rfl, hb8⟩
           have hB8 := Below.chain hB7 hb8
           have rv8 := rv7.below hb8
           have r8 := r7.below hb8
           clear rv7 r7 hB7 hb8
           go_wp2_with fail
           refine (unhide CI p7 q7 pv qv w8 r8 rv8).mono ?_
           rintro e w9 ⟨rfl, hb9⟩
           have hB9 := Below.chain hB8 hb9
           clear rv8 r8 hB8 hb9 CI
           rcases hpw with hp | ⟨hp, hp'⟩ | ⟨hp, hp', k, HK⟩
           · have hfr := find_range a1 cap1 f p w9 (hr1.below hB9) HR1 (Or.inl hp)
             rw [unhide HM] at hfr
             have e1 : decide (p < 0) = true := by simpa using hp
             go_wp2_with fail
             refine hfr.mono ?_
             clear hfr
             rintro e w10 ⟨rfl, hb10⟩
             have hB10 := Below.chain hB9 hb10
             go_wp2_with fail
             refine (error_is 1 w10 (hL.below hB10)).mono ?_
             rintro e w11 ⟨rfl, hb11⟩
             go_wp2
             go_ret
             exact ⟨rfl, Below.chain hB10 hb11⟩
           · have hfr := find_range a1 cap1 f p w9 (hr1.below hB9) HR1 (Or.inr ⟨hp, hp'⟩)
             rw [unhide HM] at hfr
             have e1 : decide (p < 0) = false := by simp; omega
             have e2 : decide (255 < p) = true := by simp; omega
             go_wp2_with fail
             refine hfr.mono ?_
             clear hfr
             rintro e w10 ⟨rfl, hb10⟩
             have hB10 := Below.chain hB9 hb10
             go_wp2_with fail
             refine (error_is 1 w10 (hL.below hB10)).mono ?_
             rintro e w11 ⟨rfl, hb11⟩
             go_wp2
             go_ret
             exact ⟨rfl, Below.chain hB10 hb11⟩
           · have hrf := refFind a1 cap1 f p k w9 (hr1.below hB9) (by rw [unhide HM]; exact q2) q3 hp hp' HR1 HK
             have hfo := fun W h => find_ok a1 cap1 f p k W h HR1 hp hp' HK
             rw [unhide HM] at hrf hfo
             have e1 : decide (p < 0) = false := by simp; omega
             have e2 : decide (255 < p) = false := by simp; omega
             have ekk : ((k : Int) == (k : Int)) = true := by simp
             go_wp2_with fail
             refine hrf.mono ?_
             clear hrf
             rintro e wS ⟨rfl, hwS⟩
             obtain rfl : w9 = wS := hwS.symm
             clear hwS
             go_wp2_with fail
             refine (hfo w9 (hr1.below hB9)).mono ?_
             clear hfo
             rintro e w10 ⟨rfl, hb10⟩
             have hB10 := Below.chain hB9 hb10
             go_wp2_with fail
             refine (error_nilB w10).mono ?_
             rintro e w11 ⟨rfl, hb11⟩
             go_wp2
             go_ret
             exact ⟨rfl, Below.chain hB10 hb11⟩))

end Go.Proofs.YtmnidaieoemahafDoor.ScaleTellsLaw
