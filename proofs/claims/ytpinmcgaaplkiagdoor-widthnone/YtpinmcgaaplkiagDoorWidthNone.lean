/-
  It is proved that hornlaw4.WidthNone returns true for every number and every width: in no bit only 0 goes, and in so many the greatest is all ones; the card's listed variable (errors.errorType) is tied to the program's text. No condition.
-/
import Derived.Test.YtpinmcgaaplkiagDoorWidthOne
import Derived.Test.YtpinmcgaaplkiagDoorRefPut
import Derived.Test.YtpinmcgaaplkiagDoorTiedFrame
namespace Go.Proofs.YtpinmcgaaplkiagDoor.WidthNoneLaw
open Go.ChangeShapes Go.WideShapes Go.ChangeAt Go.RowKit
open Go.Proofs.YtpinmcgaaplkiagDoor.Tre Go.Proofs.YtpinmcgaaplkiagDoor.Scl Go.Proofs.YtpinmcgaaplkiagDoor.Bnd Go.Proofs.YtpinmcgaaplkiagDoor.Wid Go.Proofs.YtpinmcgaaplkiagDoor.Aser
set_option linter.unusedVariables false

set_option maxRecDepth 100000 in
set_option maxHeartbeats 8000000 in
theorem walk (n k : Int) (w : World) (hL : Laid w) (hwn : (Lit.int .i64 n).wf = true) (hwk : (Lit.int .i64 k).wf = true) :
    Calls Tryd.prog 5 #[.int .i64 n, .int .i64 k] w fun e w' => e = .returned (.bool true) ∧ Below w.heap.size w w' := by
  clear hwn hwk
  go_enter Tryd.func5, Tryd.ntmps5
  go_wp2_with fail
  have hway : (∃ _ : Hid (Fit n 0), (n == 0) = true) ∨ (∃ _ : Hid (¬ Fit n 0), (n == 0) = false) := by
    by_cases h : n = 0
    · exact Or.inl ⟨hide (by rw [h]; exact ⟨by omega, by omega, by omega, by decide⟩), by rw [h]; rfl⟩
    · refine Or.inr ⟨hide (fun hf => ?_), by rw [beq_eq_false_iff_ne]; exact h⟩
      obtain ⟨h1, h2, h3, h4⟩ := hf
      simp at h4
      omega
  rcases hway with ⟨HF, hn⟩ | ⟨HN, hn⟩
  all_goals (first
    | (refine (one_ok n 0 _ _ w _ _ rfl (by simp) (unhide HF)).mono ?_
       rintro e w1 ⟨v, rfl, hv, hB⟩
       obtain ⟨p1, q1, rfl, -⟩ := hv.row
       have e0 : (bin (0 : Int).toNat n).length = 0 := rfl
       rw [e0]
       clear hv HF e0)
    | (refine (one_no n 0 _ _ w _ _ rfl (by simp) (unhide HN)).mono ?_
       rintro e w1 ⟨rfl, hB⟩
       clear HN))
  all_goals (
    by_cases h1 : k < 0
    · have d1 : decide (k < 0) = true := by simpa using h1
      go_wp2_with fail
      refine (one_no 0 k _ _ w1 _ _ rfl (by simp) (fun h => by have := h.1; omega)).mono ?_
      rintro e w2 ⟨rfl, hb2⟩
      have hB2 := Below.chain hB hb2
      go_wp2_with fail
      refine (error_is 1 w2 (hL.below hB2)).mono ?_
      rintro e w3 ⟨rfl, hb3⟩
      go_wp2
      go_ret
      exact ⟨rfl, Below.chain hB2 hb3⟩
    · have d1 : decide (k < 0) = false := by simpa using h1
      by_cases h2 : 20 < k
      · have d2 : decide (20 < k) = true := by simpa using h2
        go_wp2_with fail
        refine (one_no 0 k _ _ w1 _ _ rfl (by simp) (fun h => by have := h.2.1; omega)).mono ?_
        rintro e w2 ⟨rfl, hb2⟩
        have hB2 := Below.chain hB hb2
        go_wp2_with fail
        refine (error_is 1 w2 (hL.below hB2)).mono ?_
        rintro e w3 ⟨rfl, hb3⟩
        go_wp2
        go_ret
        exact ⟨rfl, Below.chain hB2 hb3⟩
      · have d2 : decide (20 < k) = false := by simpa using h2
        obtain ⟨K, rfl⟩ : ∃ K : Nat, k = K := ⟨k.toNat, by omega⟩
        have hK : K ≤ 20 := by omega
        have HQ0 : Hid ((1 : Int) = 2 ^ 0) := hide rfl
        go_wp2
        go_loopw [9, 10] (fun p i wr => ∃ (j : Nat) (Q : Int), j ≤ K ∧ i = .int .i64 j ∧ p = .int .i64 Q ∧ Hid (Q = 2 ^ j) ∧ w1 = wr) (fun _ i _ => K - (intOf i).toNat)
        case atStart => exact ⟨0, 1, Nat.zero_le _, rfl, rfl, HQ0, rfl⟩
        case round =>
          obtain ⟨j, Q, hj, rfl, rfl, HQ, rfl⟩ := hrel
          clear HQ0
          obtain ⟨g1, g9⟩ := two_le (k := j) (by omega)
          rw [← unhide HQ] at g1 g9
          by_cases hjl : j < K
          · have HQ2 : Hid (2 * Q = 2 ^ (j + 1)) := hide (by rw [two_succ, ← unhide HQ])
            have wq : IntKind.i64.wrap (2 * Q) = 2 * Q := IntWalk.i64_in _ (by omega)
            clear HQ
            go_wp2
            go_roundw
            case rel => exact ⟨j + 1, 2 * Q, by omega, by go_num, by first | rfl | go_num, HQ2, by first | trivial | rfl⟩
            case measure => simp [intOf]; omega
          · obtain rfl : j = K := by omega
            have HF1 : Hid (Fit (Q - 1) j) := hide ⟨by omega, by omega, by omega, by rw [Int.toNat_natCast, ← unhide HQ]; omega⟩
            have HF2 : Hid (¬ Fit Q j) := hide (fun h => by
              have := h.2.2.2
              rw [Int.toNat_natCast, ← unhide HQ] at this
              omega)
            have HBO : Hid (bin (j : Int).toNat (Q - 1) = upto (fun _ => 1) j) := hide (by rw [Int.toNat_natCast, unhide HQ, bin_ones])
            obtain ⟨P, hP⟩ : ∃ P, Q - 1 = P := ⟨_, rfl⟩
            rw [hP] at HF1 HBO
            have wq : IntKind.i64.wrap (Q - 1) = P := by rw [hP]; exact IntWalk.i64_in _ (by omega)
            clear HQ hP
            go_wp2_with fail
            refine (one_ok P j _ _ w1 _ _ rfl (by simp) (unhide HF1)).mono ?_
            rintro e w2 ⟨v2, rfl, k2, hb2⟩
            have hB2 := Below.chain hB hb2
            rw [unhide HBO] at k2
            obtain ⟨p2, q2, rfl, r2⟩ := k2.row
            have HUL : Hid ((upto (fun _ => 1) j).length = j) := hide (upto_length _ _)
            rw [unhide HUL]
            clear k2 HF1 HBO hb2
            go_wp2_with fail
            refine (one_no Q j _ _ w2 _ _ rfl (by simp) (unhide HF2)).mono ?_
            rintro e w3 ⟨rfl, hb3⟩
            have hB3 := Below.chain hB2 hb3
            have r3 := r2.below hb3
            clear r2 hb3 HF2
            go_wp2_with fail
            refine (error_is 1 w3 (hL.below hB3)).mono ?_
            rintro e w4 ⟨rfl, hb4⟩
            have hB4 := Below.chain hB3 hb4
            have r4 := r3.below hb4
            have hjj : ((j : Int) == (j : Int)) = true := by simp
            clear r3 hb4 hB3 hB2
            go_wp2
            go_loopw [15] (fun i wr => ∃ m : Nat, m ≤ j ∧ i = .int .i64 m ∧ w4 = wr) (fun i _ => j - (intOf i).toNat)
            case atStart => exact ⟨0, Nat.zero_le _, rfl, rfl⟩
            case round =>
              obtain ⟨m, hm, rfl, rfl⟩ := hrel
              by_cases hml : m < j
              · obtain ⟨b1, off1, rfl, _, hc1⟩ := cell_at r4 (by rw [unhide HUL]; omega)
                have c1 := hc1 m (by rw [unhide HUL]; exact hml)
                rw [upto_at _ hml] at c1
                clear hc1
                go_wp2
                go_roundw
                case rel => exact ⟨m + 1, by omega, by go_num, by first | trivial | rfl⟩
                case measure => simp [intOf]; omega
              · obtain rfl : m = j := by omega
                go_wp2
                go_ret
                exact ⟨rfl, hB4⟩)

set_option maxRecDepth 100000 in
theorem lifted (os : Os) (started : os.Started) (H : Type) (enc : TypeId × Value → H) :
    ReturnsInHanded {} Tryd.checked os 5 .any (fun w args => (Rows.widthNoneSpec.pre enc Tryd.prog Tryd.f5 [] false w args ∧ laidMetH Tryd.prog [("errors.errorType", Rows.laid_errors_errorType)] w) ∧ sizedMet enc Tryd.prog Tryd.f5 (OpenSpec.ofChange Rows.widthNoneSpec) false w args)
      (Rows.widthNoneSpec.post enc Tryd.prog Tryd.f5 false true false false) := by
  refine returnsInHanded_of_change_and (C := Tryd.checked) (X := fun w _ => laidMetH Tryd.prog [("errors.errorType", Rows.laid_errors_errorType)] w) (fun _ _ _ hh h => h.of_heap hh) own started (by kernel_rfl) Tryd.func5
    (ChangeSpec.witness_shaped (enc := enc) (C := Tryd.checked) (os := os) (X := fun w _ => laidMetH Tryd.prog [("errors.errorType", Rows.laid_errors_errorType)] w) false (World.doorLaid Tryd.prog 400 os) #[.int .i64 0, .int .i64 0] 8 rfl (World.shaped_of_RefB (by kernel_rfl) (by kernel_rfl)) (by kernel_rfl) (by kernel_rfl) (by kernel_rfl) (door_met os _)) ?_
  intro W base args ds gs before hval0 hW hcnd hsz0 hL0 _
  have hL := handle_of_laid hL0
  have hsz : (DataW.weightsEach Tryd.prog (Tryd.f5.params.toList ++ Rows.widthNoneSpec.plain.varTypes Tryd.prog) (ds ++ gs)).all (· ≤ reachBytes) = true := hsz0
  have hval : ∀ (j : Nat) t v, Tryd.f5.params[j]? = some t → args[j]? = some v → Value.okWide Tryd.prog W .any base t v := hval0
  have hW' := hW
  obtain ⟨p, q, hA0, hV, rfl, hfz, hnd⟩ := hW
  have hA : DataW.TrodAll enc Tryd.prog W 0 (fun _ => true) true Tryd.f5.params.toList args.toList ds p := hA0
  rw [Tryd.params5] at hA hval hsz
  obtain ⟨v0, vs0, d0, ds0, p0, q0, hargs, rfl, rfl, h0, r0⟩ := trodAll_cons hA
  obtain ⟨v1, vs1, d1, ds1, p1, q1, rfl, rfl, rfl, h1, r1⟩ := trodAll_cons r0
  obtain ⟨rfl, rfl, rfl⟩ := trodAll_nil r1
  obtain rfl : args = #[v0, v1] := by cases args; simp_all
  obtain ⟨rfl, rfl⟩ := trodVars_none hV
  obtain ⟨n0, rfl, rfl, rfl, hw0⟩ := open_int Tryd.underlying3 (hval 0 3 v0 rfl rfl) h0
  obtain ⟨n1, rfl, rfl, rfl, hw1⟩ := open_int Tryd.underlying3 (hval 1 3 v1 rfl rfl) h1
  clear hA0 hval0 hsz0
  refine (walk n0 n1 W hL hw0 hw1).mono fun e W' ⟨he, bel⟩ => ?_
  subst he
  exact ⟨_, rfl, _, _, _, [], _, [], hW', trodAll_mk1 (shut_bool Tryd.underlying4 _), (trodAll_cons_mk (shut_int Tryd.underlying3 hw0) (trodAll_cons_mk (shut_int Tryd.underlying3 hw1) trodAll_mk0)), rfl, bel.frame _, fun h => by cases h⟩
end Go.Proofs.YtpinmcgaaplkiagDoor.WidthNoneLaw
namespace Go.Proofs.YtpinmcgaaplkiagDoor
open Go.ChangeShapes Go.WideShapes Go.ChangeAt Go.RowKit

theorem widthNone_holds : Rows.WidthNoneSaid :=
  OpenClaim.holds_of_wide 5 Tryd.f5 rfl rfl rfl rfl rfl rfl rfl ⟨rfl, rfl, rfl, rfl, rfl⟩ rfl rfl rfl rfl rfl (by kernel_rfl) Tryd.func5 (by kernel_rfl)
    (of_decide_eq_true (by kernel_rfl)) (by unfold Func.isWrapper; first | (rw [if_pos (by decide +kernel)]; kernel_rfl) | (rw [if_neg (by decide +kernel)]; exact ⟨rfl, rfl⟩))
    (fun os started H enc _ => WidthNoneLaw.lifted os started H enc)
theorem widthNone_card : Rows.WidthNoneCardSaid :=
  Claim7.holds_tied_plain_at .later [] [.handle] true (true, "2c3ac6ee091973054e7ab3938ed8eeebb1b30b8eeebfd3ebe59184578d7f0d39") true
    widthNone_holds (fun _ h => by cases h) (by kernel_rfl) (fun _ h => by cases h) widthNone_row_tie rfl ⟨rfl, rfl⟩ (by kernel_rfl) rfl
    (fun f fn hf hfn => by
      obtain rfl : f = 5 := Option.some.inj ((show Tryd.prog.funcNamed "pulsehorn/hornlaw4.WidthNone" = some 5 by kernel_rfl).symm.trans hf) |>.symm
      obtain rfl : fn = Tryd.f5 := (Option.some.inj (Tryd.func5.symm.trans hfn)).symm
      exact ⟨by kernel_rfl, fun j t ht => by
        rw [Tryd.params5] at ht
        have hm : t ∈ [3, 3] := by simpa using Array.mem_of_getElem? ht
        have hall : ([3, 3].all fun u => !Tryd.prog.wantsStandIn u) = true := by kernel_rfl
        exact (show Tryd.prog.wantsStandIn t = false by simpa using List.all_eq_true.1 hall t hm)⟩)
    (by kernel_rfl)
end Go.Proofs.YtpinmcgaaplkiagDoor
