/-
  It is proved that hornlaw4.PulseEnds returns true for every two numbers: of the first rank all pulses are below 0, at the first number; of the last one above; behind it there is none; the card's listed variable (errors.errorType) is tied to the program's text. No other condition.
-/
import Derived.Test.YtmbicnjciddcmadDoorPulseRow
import Derived.Test.YtmbicnjciddcmadDoorTiedFrame
namespace Go.Proofs.YtmbicnjciddcmadDoor.PulseEndsLaw
open Go.ChangeShapes Go.WideShapes Go.ChangeAt Go.RowKit
open Go.Proofs.YtmbicnjciddcmadDoor.Tre Go.Proofs.YtmbicnjciddcmadDoor.Cnt Go.Proofs.YtmbicnjciddcmadDoor.Pls Go.Proofs.YtmbicnjciddcmadDoor.Aser Go.Proofs.YtmbicnjciddcmadDoor.Mid
set_option linter.unusedVariables false

theorem fact (w : World) : Calls Tryd.prog 4 #[.int .i64 1, .int .i64 1, .int .i64 0] w fun e w' => ∃ b off c, e = .returned (.tuple #[.slice (some ⟨b, off, none⟩) 1 c, .nilIface]) ∧ w'.cell? ⟨b, off, none⟩ = some (.int .i64 (-1)) ∧ Below w.heap.size w w' := by
  have h := row_ok 1 1 0 (by omega) (by omega) (by omega) (hide (by decide +kernel)) w
  refine h.mono ?_
  rintro e w' ⟨v, l, rfl, hv, HI, hb⟩
  have e1 : l = [-1] := Is.one (by omega) (by omega) (by refine ⟨rfl, rfl, ?_⟩; decide +kernel) (unhide HI)
  subst e1
  obtain ⟨p, q, rfl, hr⟩ := hv.row
  obtain ⟨b, off, rfl, _, hc⟩ := row_cell hr (by simp)
  exact ⟨b, off, q, rfl, hc 0 (by simp), hb⟩

set_option maxRecDepth 100000 in
set_option maxHeartbeats 8000000 in
theorem walk_in (N K : Nat) (hN : N ≤ 6) (hK : K ≤ 8) (w : World) (hL : Laid w) :
    Calls Tryd.prog 3 #[.int .i64 N, .int .i64 K] w fun e w' => e = .returned (.bool true) ∧ Below w.heap.size w w' := by
  have f1 := of_ok N K hN hK
  have f2 := fun h => row_ok N K 0 hN hK (Int.le_refl 0) h
  have f3 := fun h0 h => row_ok N K (V K N - 1) hN hK h0 h
  have f4 := fun h0 h => row_out N K (V K N) hN hK (Or.inr ⟨h0, h⟩)
  have f5 : ∀ l, Is N K (V K N - 1) l → 0 < N → at0 l 0 = (K : Int) := fun l h h0 => h.last hN hK h0
  obtain ⟨C0, C9⟩ := V_in K N (by omega) (by omega)
  obtain ⟨C, hC⟩ : ∃ C, V K N = C := ⟨_, rfl⟩
  rw [hC] at f1 f2 f3 f4 f5 C0 C9
  clear hC
  have F1 := hide f1
  have F5 := hide f5
  by_cases hz : C = 0
  · subst hz
    clear f1 f2 f3 f4 f5
    go_enter Tryd.func3, Tryd.ntmps3
    go_wp2_with fail
    refine (fact w).mono ?_
    rintro e w1 ⟨b, off, c, rfl, hc, hb1⟩
    go_wp2_with fail
    refine (unhide F1 w1).mono ?_
    rintro e w2 ⟨rfl, hb2⟩
    go_wp2
    go_ret
    exact ⟨rfl, Below.chain hb1 hb2⟩
  · have F2 := hide (f2 (hide (by omega)))
    have F3 := hide (f3 (by omega) (hide (by omega)))
    have F4 := hide (f4 (by omega) (hide (Int.le_refl C)))
    have hC1 : 1 ≤ C := by omega
    have hCz : (C == 0) = false := by simp [hz]
    have eN : ((N : Int) == (N : Int)) = true := by simp
    have eK : ((K : Int) == (K : Int)) = true := by simp
    have eM : ((-(K : Int)) == (-(K : Int))) = true := by simp
    clear f1 f2 f3 f4 f5 hz
    go_enter Tryd.func3, Tryd.ntmps3
    go_wp2_with fail
    refine (fact w).mono ?_
    rintro e w1 ⟨b, off, c, rfl, hc, hb1⟩
    go_wp2_with fail
    refine (unhide F1 w1).mono ?_
    rintro e w2 ⟨rfl, hb2⟩
    have hB2 := Below.chain hb1 hb2
    go_wp2_with fail
    refine (unhide F2 w2).mono ?_
    rintro e w3 ⟨v3, l3, rfl, h3, H3, hb3⟩
    have hB3 := Below.chain hB2 hb3
    clear hb1 hb2 hB2 hb3 hc
    go_wp2_with fail
    refine (unhide F3 w3).mono ?_
    rintro e w4 ⟨v4, l4, rfl, h4, H4, hb4⟩
    have hB4 := Below.chain hB3 hb4
    have h3' := h3.below hb4
    clear hB3 hb4 h3
    go_wp2_with fail
    refine (unhide F4 w4).mono ?_
    rintro e w5 ⟨rfl, hb5⟩
    have hB5 := Below.chain hB4 hb5
    obtain ⟨p3, q3, rfl, r3⟩ := (h3'.below hb5).row
    obtain ⟨p4, q4, rfl, r4⟩ := (h4.below hb5).row
    clear hB4 hb5 h3' h4
    have L3 := hide (unhide H3).1
    have L4 := hide (unhide H4).1
    rw [unhide L3, unhide L4]
    go_wp2_with fail
    refine (error_is 1 w5 (hL.below hB5)).mono ?_
    rintro e w6 ⟨rfl, hb6⟩
    have hB6 := Below.chain hB5 hb6
    have s3 := r3.below hb6
    have s4 := r4.below hb6
    clear hB5 hb6 r3 r4
    by_cases h0 : N = 0
    · subst h0
      go_wp2
      go_ret
      exact ⟨rfl, hB6⟩
    · have hpos : 0 < N := by omega
      have hNz : ((N : Int) == 0) = false := by simp; omega
      obtain ⟨b3, o3, rfl, -, c3⟩ := row_cell s3 (by rw [unhide L3]; exact hpos)
      obtain ⟨b4, o4, rfl, -, c4⟩ := row_cell s4 (by rw [unhide L4]; exact hpos)
      have d3 : w6.cell? ⟨b3, o3, none⟩ = some (.int .i64 (at0 l3 0)) := c3 0 (by rw [unhide L3]; exact hpos)
      have d4 : w6.cell? ⟨b4, o4, none⟩ = some (.int .i64 (at0 l4 0)) := c4 0 (by rw [unhide L4]; exact hpos)
      rw [(unhide H3).first hN hK hpos] at d3
      rw [unhide F5 l4 (unhide H4) hpos] at d4
      clear c3 c4 h0
      go_wp2
      go_ret
      exact ⟨rfl, hB6⟩

theorem walk_out (n k : Int) (w : World) (h : Hid (wide n 6 = true) ∨ (Hid (wide n 6 = false) ∧ Hid (wide k 8 = true))) :
    Calls Tryd.prog 3 #[.int .i64 n, .int .i64 k] w fun e w' => e = .returned (.bool true) ∧ Below w.heap.size w w' := by
  go_enter Tryd.func3, Tryd.ntmps3
  go_wp2_with fail
  refine (fact w).mono ?_
  rintro e w1 ⟨b, off, c, rfl, hc, hb1⟩
  go_wp2_with fail
  refine (of_no n k w1 h).mono ?_
  rintro e w2 ⟨rfl, hb2⟩
  go_wp2
  go_ret
  exact ⟨rfl, Below.chain hb1 hb2⟩

theorem walk (n k : Int) (w : World) (hL : Laid w) (hwn : (Lit.int .i64 n).wf = true) (hwk : (Lit.int .i64 k).wf = true) :
    Calls Tryd.prog 3 #[.int .i64 n, .int .i64 k] w fun e w' => e = .returned (.bool true) ∧ Below w.heap.size w w' := by
  rcases wide_or n 6 with h | ⟨h, h0, h1⟩
  · exact walk_out n k w (Or.inl h)
  · rcases wide_or k 8 with g | ⟨g, g0, g1⟩
    · exact walk_out n k w (Or.inr ⟨h, g⟩)
    · obtain ⟨N, rfl⟩ : ∃ N : Nat, n = N := ⟨n.toNat, by omega⟩
      obtain ⟨K, rfl⟩ : ∃ K : Nat, k = K := ⟨k.toNat, by omega⟩
      exact walk_in N K (by omega) (by omega) w hL

set_option maxRecDepth 100000 in
theorem lifted (os : Os) (started : os.Started) (H : Type) (enc : TypeId × Value → H) :
    ReturnsInHanded {} Tryd.checked os 3 .any (fun w args => (Rows.pulseEndsSpec.pre enc Tryd.prog Tryd.f3 [] false w args ∧ laidMetH Tryd.prog [("errors.errorType", Rows.laid_errors_errorType)] w) ∧ sizedMet enc Tryd.prog Tryd.f3 (OpenSpec.ofChange Rows.pulseEndsSpec) false w args)
      (Rows.pulseEndsSpec.post enc Tryd.prog Tryd.f3 false true false false) := by
  refine returnsInHanded_of_change_and (C := Tryd.checked) (X := fun w _ => laidMetH Tryd.prog [("errors.errorType", Rows.laid_errors_errorType)] w) (fun _ _ _ hh h => h.of_heap hh) own started (by kernel_rfl) Tryd.func3
    (ChangeSpec.witness_shaped (enc := enc) (C := Tryd.checked) (os := os) (X := fun w _ => laidMetH Tryd.prog [("errors.errorType", Rows.laid_errors_errorType)] w) false (World.doorLaid Tryd.prog 400 os) #[.int .i64 0, .int .i64 0] 8 rfl (World.shaped_of_RefB (by kernel_rfl) (by kernel_rfl)) (by kernel_rfl) (by kernel_rfl) (by kernel_rfl) (door_met os _)) ?_
  intro W base args ds gs before hval0 hW hcnd hsz0 hL0 _
  have hL := handle_of_laid hL0
  have hsz : (DataW.weightsEach Tryd.prog (Tryd.f3.params.toList ++ Rows.pulseEndsSpec.plain.varTypes Tryd.prog) (ds ++ gs)).all (· ≤ reachBytes) = true := hsz0
  have hval : ∀ (j : Nat) t v, Tryd.f3.params[j]? = some t → args[j]? = some v → Value.okWide Tryd.prog W .any base t v := hval0
  have hW' := hW
  obtain ⟨p, q, hA0, hV, rfl, hfz, hnd⟩ := hW
  have hA : DataW.TrodAll enc Tryd.prog W 0 (fun _ => true) true Tryd.f3.params.toList args.toList ds p := hA0
  rw [Tryd.params3] at hA hval hsz
  obtain ⟨v0, vs0, d0, ds0, p0, q0, hargs, rfl, rfl, h0, r0⟩ := trodAll_cons hA
  obtain ⟨v1, vs1, d1, ds1, p1, q1, rfl, rfl, rfl, h1, r1⟩ := trodAll_cons r0
  obtain ⟨rfl, rfl, rfl⟩ := trodAll_nil r1
  obtain rfl : args = #[v0, v1] := by cases args; simp_all
  obtain ⟨rfl, rfl⟩ := trodVars_none hV
  obtain ⟨n0, rfl, rfl, rfl, hw0⟩ := open_int Tryd.underlying3 (hval 0 3 v0 rfl rfl) h0
  obtain ⟨n1, rfl, rfl, rfl, hw1⟩ := open_int Tryd.underlying3 (hval 1 3 v1 rfl rfl) h1
  clear hA0 hval0 hsz0
  refine (walk n0 n1 W hL hw0 hw1).mono fun e W' ⟨he, bel⟩ => ?_
  subst he
  exact ⟨_, rfl, _, _, _, [], _, [], hW', trodAll_mk1 (shut_bool Tryd.underlying4 _), (trodAll_cons_mk (shut_int Tryd.underlying3 hw0) (trodAll_cons_mk (shut_int Tryd.underlying3 hw1) trodAll_mk0)), rfl, bel.frame _, fun h => by cases h⟩
end Go.Proofs.YtmbicnjciddcmadDoor.PulseEndsLaw
namespace Go.Proofs.YtmbicnjciddcmadDoor
open Go.ChangeShapes Go.WideShapes Go.ChangeAt Go.RowKit

theorem pulseEnds_holds : Rows.PulseEndsSaid :=
  OpenClaim.holds_of_wide 3 Tryd.f3 rfl rfl rfl rfl rfl rfl rfl ⟨rfl, rfl, rfl, rfl, rfl⟩ rfl rfl rfl rfl rfl (by kernel_rfl) Tryd.func3 (by kernel_rfl)
    (of_decide_eq_true (by kernel_rfl)) (by unfold Func.isWrapper; first | (rw [if_pos (by decide +kernel)]; kernel_rfl) | (rw [if_neg (by decide +kernel)]; exact ⟨rfl, rfl⟩))
    (fun os started H enc _ => PulseEndsLaw.lifted os started H enc)
theorem pulseEnds_card : Rows.PulseEndsCardSaid :=
  Claim7.holds_tied_plain_at .later [] [.handle] true (true, "db39fdda74fd9f98ea885ec5bc73f1a37ba8258c9e047e65b0062ee6ce8526f3") true
    pulseEnds_holds (fun _ h => by cases h) (by kernel_rfl) (fun _ h => by cases h) pulseEnds_row_tie rfl ⟨rfl, rfl⟩ (by kernel_rfl) rfl
    (fun f fn hf hfn => by
      obtain rfl : f = 3 := Option.some.inj ((show Tryd.prog.funcNamed "pulsehorn/hornlaw4.PulseEnds" = some 3 by kernel_rfl).symm.trans hf) |>.symm
      obtain rfl : fn = Tryd.f3 := (Option.some.inj (Tryd.func3.symm.trans hfn)).symm
      exact ⟨by kernel_rfl, fun j t ht => by
        rw [Tryd.params3] at ht
        have hm : t ∈ [3, 3] := by simpa using Array.mem_of_getElem? ht
        have hall : ([3, 3].all fun u => !Tryd.prog.wantsStandIn u) = true := by kernel_rfl
        exact (show Tryd.prog.wantsStandIn t = false by simpa using List.all_eq_true.1 hall t hm)⟩)
    (by kernel_rfl)
end Go.Proofs.YtmbicnjciddcmadDoor
