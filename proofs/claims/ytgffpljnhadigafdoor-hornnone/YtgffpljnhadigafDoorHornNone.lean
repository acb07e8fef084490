/-
  It is proved that hornlaw4.HornNone returns true for all shares: no sign is three bytes; the card's listed variable (errors.errorType) is tied to the program's text. No condition but the form's own reach.
-/
import Derived.Test.YtgffpljnhadigafDoorHornFaces
import Derived.Test.YtgffpljnhadigafDoorRoom
import Derived.Test.YtgffpljnhadigafDoorTiedFrame
namespace Go.Proofs.YtgffpljnhadigafDoor.HornNoneLaw
open Go.ChangeShapes Go.WideShapes Go.ChangeAt Go.RowKit
open Go.Proofs.YtgffpljnhadigafDoor.Tre Go.Proofs.YtgffpljnhadigafDoor.Scl Go.Proofs.YtgffpljnhadigafDoor.Hrn Go.Proofs.YtgffpljnhadigafDoor.Aser
set_option linter.unusedVariables false

set_option maxRecDepth 100000 in
set_option maxHeartbeats 4000000 in
theorem walk (a0 : Option Addr) (cap0 : Nat) (f : List Int) (w : World) (hL : Laid w) (hr0 : Row w a0 f) (hw0 : ∀ n ∈ f, (Lit.int .i64 n).wf = true) (hz0 : f.length * 8 ≤ 140737488351232) (hq0 : (a0 = none → cap0 = 0) ∧ f.length ≤ cap0 ∧ cap0 ≤ 9223372036854775807) :
    Calls Tryd.prog 7 #[.slice a0 f.length cap0] w fun e w' => e = .returned (.bool true) ∧ Below w.heap.size w w' := by
  obtain ⟨q1, q2, q3⟩ := hq0
  clear hw0 hz0 q1
  by_cases hf : right f
  · have HF : Hid (right f) := hide hf
    have hR : Hid (RowF f [] 0) := hide (Or.inr (Or.inr ⟨hf, by simp, rfl⟩))
    have cE := encode_ok a0 cap0 f none 0 [] w hr0 q2 q3 (Or.inl rfl) hR
    have cM := hide (fun W h => most_ok a0 cap0 f none 0 [] W h q2 q3 (Or.inl rfl) hR)
    have cD := hide (fun W h => (decode_at a0 cap0 f (str [1, 0, 0]) 0 W h q2 q3 HF (by decide) (by omega)).mono fun e w' ht => Tld.row hf ht (by
      rw [byt_str fact_byts]
      exact isRow_nil f))
    rw [code_nil] at cE
    have hn : need f [] = 0 := rfl
    rw [hn] at cM
    have hss := fact_same
    obtain ⟨M, hM⟩ : ∃ M, f.length = M := ⟨_, rfl⟩
    rw [hM] at cE cM cD ⊢
    clear hM hf q2 hn
    go_enter Tryd.func7, Tryd.ntmps7
    go_wp2_with fail
    refine cE.mono ?_
    clear cE
    rintro e w1 ⟨rfl, hb1⟩
    go_wp2_with fail
    refine (unhide cD w1 (hr0.below hb1)).mono ?_
    rintro e w2 ⟨v, rfl, hv, hb2⟩
    have hB2 := Below.chain hb1 hb2
    obtain ⟨pv, qv, rfl, -⟩ := hv.row
    clear hv
    go_wp2_with fail
    refine (unhide cM w2 (hr0.below hB2)).mono ?_
    rintro e w3 ⟨rfl, hb3⟩
    go_wp2
    go_ret
    exact ⟨rfl, Below.chain hB2 hb3⟩
  · have hR : Hid (RowF f [] 3) := hide (Or.inl ⟨hf, rfl⟩)
    have cE := encode_no a0 cap0 f none 0 [] 3 w hr0 q2 q3 (Or.inl rfl) (by simp) hR (hide (by decide))
    obtain ⟨M, hM⟩ : ∃ M, f.length = M := ⟨_, rfl⟩
    rw [hM] at cE ⊢
    clear hM hf q2
    go_enter Tryd.func7, Tryd.ntmps7
    go_wp2_with fail
    refine cE.mono ?_
    clear cE
    rintro e w1 ⟨rfl, hb1⟩
    go_wp2_with fail
    refine (error_is 3 w1 (hL.below hb1)).mono ?_
    rintro e w2 ⟨rfl, hb2⟩
    go_wp2
    go_ret
    exact ⟨rfl, Below.chain hb1 hb2⟩

set_option maxRecDepth 100000 in
theorem lifted (os : Os) (started : os.Started) (H : Type) (enc : TypeId × Value → H) :
    ReturnsInHanded {} Tryd.checked os 7 .any (fun w args => (Rows.hornNoneSpec.pre enc Tryd.prog Tryd.f7 [] false w args ∧ laidMetH Tryd.prog [("errors.errorType", Rows.laid_errors_errorType)] w) ∧ sizedMet enc Tryd.prog Tryd.f7 (OpenSpec.ofChange Rows.hornNoneSpec) false w args)
      (Rows.hornNoneSpec.post enc Tryd.prog Tryd.f7 false true false false) := by
  refine returnsInHanded_of_change_and (C := Tryd.checked) (X := fun w _ => laidMetH Tryd.prog [("errors.errorType", Rows.laid_errors_errorType)] w) (fun _ _ _ hh h => h.of_heap hh) own started (by kernel_rfl) Tryd.func7
    (ChangeSpec.witness_shaped (enc := enc) (C := Tryd.checked) (os := os) (X := fun w _ => laidMetH Tryd.prog [("errors.errorType", Rows.laid_errors_errorType)] w) false (World.doorLaid Tryd.prog 400 os) #[.slice none 0 0] 8 rfl (World.shaped_of_RefB (by kernel_rfl) (by kernel_rfl)) (by kernel_rfl) (by kernel_rfl) (by kernel_rfl) (door_met os _)) ?_
  intro W base args ds gs before hval0 hW hcnd hsz0 hL0 _
  have hL := handle_of_laid hL0
  have hsz : (DataW.weightsEach Tryd.prog (Tryd.f7.params.toList ++ Rows.hornNoneSpec.plain.varTypes Tryd.prog) (ds ++ gs)).all (· ≤ reachBytes) = true := hsz0
  have hval : ∀ (j : Nat) t v, Tryd.f7.params[j]? = some t → args[j]? = some v → Value.okWide Tryd.prog W .any base t v := hval0
  have hW' := hW
  obtain ⟨p, q, hA0, hV, rfl, hfz, hnd⟩ := hW
  have hA : DataW.TrodAll enc Tryd.prog W 0 (fun _ => true) true Tryd.f7.params.toList args.toList ds p := hA0
  rw [Tryd.params7] at hA hval hsz
  obtain ⟨v0, vs0, d0, ds0, p0, q0, hargs, rfl, rfl, h0, r0⟩ := trodAll_cons hA
  obtain ⟨rfl, rfl, rfl⟩ := trodAll_nil r0
  obtain rfl : args = #[v0] := by cases args; simp_all
  obtain ⟨rfl, rfl⟩ := trodVars_none hV
  obtain ⟨a0, len0, cap0, rfl⟩ := okWide_slice Tryd.underlying22 (hval 0 22 v0 rfl rfl)
  have k0 := h0
  have lt0 : ∀ x ∈ p0, x.block < W.heap.size := by obtain ⟨m, hm⟩ := k0; exact DataW.trod_lt m _ _ _ hm
  obtain ⟨l0, hlen0, hr0, hw0, hz0⟩ := open_row h0 (fun e s hd => sized_slice hsz (j := 0) (t := 22) (e := 3) rfl (by rw [hd]; rfl) Tryd.underlying22)
  have hq0 := open_room k0
  subst hlen0
  clear hA0 hval0 hsz0
  refine (walk a0 cap0 l0 W hL hr0 hw0 hz0 hq0).mono fun e W' ⟨he, bel⟩ => ?_
  subst he
  exact ⟨_, rfl, _, _, _, [], _, [], hW', trodAll_mk1 (shut_bool Tryd.underlying4 _), (trodAll_cons_mk (Below.trod laidOut (by kernel_rfl) (of_decide_eq_true (by kernel_rfl)) k0 bel lt0) trodAll_mk0), rfl, bel.frame _, fun h => by cases h⟩
end Go.Proofs.YtgffpljnhadigafDoor.HornNoneLaw
namespace Go.Proofs.YtgffpljnhadigafDoor
open Go.ChangeShapes Go.WideShapes Go.ChangeAt Go.RowKit

theorem hornNone_holds : Rows.HornNoneSaid :=
  OpenClaim.holds_of_wide 7 Tryd.f7 rfl rfl rfl rfl rfl rfl rfl ⟨rfl, rfl, rfl, rfl, rfl⟩ rfl rfl rfl rfl rfl (by kernel_rfl) Tryd.func7 (by kernel_rfl)
    (of_decide_eq_true (by kernel_rfl)) (by unfold Func.isWrapper; first | (rw [if_pos (by decide +kernel)]; kernel_rfl) | (rw [if_neg (by decide +kernel)]; exact ⟨rfl, rfl⟩))
    (fun os started H enc _ => HornNoneLaw.lifted os started H enc)
theorem hornNone_card : Rows.HornNoneCardSaid :=
  Claim7.holds_tied_plain_at .later [] [.handle] true (true, "2fb2e28d8df32dc7629bf1d4df03efed351108af204951cb591bc98bf7741f2b") true
    hornNone_holds (fun _ h => by cases h) (by kernel_rfl) (fun _ h => by cases h) hornNone_row_tie rfl ⟨rfl, rfl⟩ (by kernel_rfl) rfl
    (fun f fn hf hfn => by
      obtain rfl : f = 7 := Option.some.inj ((show Tryd.prog.funcNamed "pulsehorn/hornlaw4.HornNone" = some 7 by kernel_rfl).symm.trans hf) |>.symm
      obtain rfl : fn = Tryd.f7 := (Option.some.inj (Tryd.func7.symm.trans hfn)).symm
      exact ⟨by kernel_rfl, fun j t ht => by
        rw [Tryd.params7] at ht
        have hm : t ∈ [22] := by simpa using Array.mem_of_getElem? ht
        have hall : ([22].all fun u => !Tryd.prog.wantsStandIn u) = true := by kernel_rfl
        exact (show Tryd.prog.wantsStandIn t = false by simpa using List.all_eq_true.1 hall t hm)⟩)
    (by kernel_rfl)
end Go.Proofs.YtgffpljnhadigafDoor
