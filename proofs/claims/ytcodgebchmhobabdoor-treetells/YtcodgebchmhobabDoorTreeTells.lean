/-
  It is proved that hornlaw1.TreeTells returns true for every two lists and every number of levels: what package tree tells of any numbers, level by level, and back, is what the document says; the card's listed variable (errors.errorType) is tied to the program's text. No other condition.
-/
import Derived.Test.YtcodgebchmhobabDoorTreeTellsWalk
import Derived.Test.YtcodgebchmhobabDoorTiedFrame
import Derived.Test.YtcodgebchmhobabDoorRoom
namespace Go.Proofs.YtcodgebchmhobabDoor.TreeTellsLaw
open Go.ChangeShapes Go.WideShapes Go.ChangeAt Go.RowKit
open Go.Proofs.YtcodgebchmhobabDoor.Tre Go.Proofs.YtcodgebchmhobabDoor.Same Go.Proofs.YtcodgebchmhobabDoor.Aser
set_option linter.unusedVariables false

theorem lvl_neg {N : Nat} {n : Int} (h : n < 0) : lvl N n ≠ 0 := by
  unfold lvl
  split
  · omega
  · rw [if_pos (Or.inl h)]; omega

set_option maxRecDepth 100000 in
set_option maxHeartbeats 2000000 in
theorem walk_neg (a0 : Option Addr) (cap0 : Nat) (l : List Int) (n : Int) (a2 : Option Addr) (cap2 : Nat) (m : List Int) (w : World) (hL : Laid w) (hn : n < 0) (hr0 : Row w a0 l) (z0 : l.length ≤ 9223372036854775807) (hr2 : Row w a2 m) (z2 : m.length ≤ 9223372036854775807) :
    Calls Tryd.prog 3 #[.slice a0 l.length cap0, .int .i64 n, .slice a2 m.length cap2] w fun e w' => e = .returned (.bool true) ∧ Below w.heap.size w w' := by
  have cA1 := hide (lvl_neg (N := l.length) hn)
  have cA3 := hide (chk_lvl (l := l) (b := 1000) (unhide cA1))
  have cA2 : Hid (chk l n 1000 ≠ 0) := hide (by rw [unhide cA3]; exact unhide cA1)
  have dA1 := hide (lvl_neg (N := m.length) hn)
  have dA3 := hide (chk_lvl (l := m) (b := 2000) (unhide dA1))
  have dA2 : Hid (chk m n 2000 ≠ 0) := hide (by rw [unhide dA3]; exact unhide dA1)
  have hne : (lvl l.length n == 0) = false := by simpa using unhide cA1
  have hne2 : (lvl m.length n == 0) = false := by simpa using unhide dA1
  go_enter Tryd.func3, Tryd.ntmps3
  go_wp2_with fail
  refine (refLevels l.length n w z0).mono ?_
  rintro e w1 ⟨rfl, rfl⟩
  go_wp2_with fail
  refine (fwd_no a0 cap0 l n w1 z0 hr0 cA2).mono ?_
  rw [unhide cA3]
  rintro e w3 ⟨rfl, hb3⟩
  go_wp2_with fail
  refine (error_is (lvl l.length n) w3 (hL.below hb3)).mono ?_
  rintro e w4 ⟨rfl, hb4⟩
  have hB4 := Below.chain hb3 hb4
  go_wp2_with fail
  refine (ints_nil w4).mono ?_
  rintro e w5 ⟨rfl, hb5⟩
  have hB := Below.chain hB4 hb5
  have hL5 := hL.below hB
  have hm5 := hr2.below hB
  go_wp2_with fail
  refine (refLevels m.length n w5 z2).mono ?_
  rintro e w6 ⟨rfl, rfl⟩
  go_wp2_with fail
  refine (inv_no a2 cap2 m n w6 z2 hm5 dA2).mono ?_
  rw [unhide dA3]
  rintro e w7 ⟨rfl, hb7⟩
  go_wp2_with fail
  refine (error_is (lvl m.length n) w7 (hL5.below hb7)).mono ?_
  rintro e w8 ⟨rfl, hb8⟩
  go_wp2_with fail
  refine (ints_nil w8).mono ?_
  rintro e w9 ⟨rfl, hb9⟩
  go_wp2
  go_ret
  exact ⟨rfl, Below.chain hB (Below.chain hb7 (Below.chain hb8 hb9))⟩

theorem walk (a0 : Option Addr) (cap0 : Nat) (l : List Int) (n : Int) (a2 : Option Addr) (cap2 : Nat) (m : List Int) (w : World) (hL : Laid w) (hr0 : Row w a0 l) (hw0 : ∀ n ∈ l, (Lit.int .i64 n).wf = true) (hz0 : l.length * 8 ≤ 140737488351232)
    (hwn : (Lit.int .i64 n).wf = true) (hr2 : Row w a2 m) (hw2 : ∀ n ∈ m, (Lit.int .i64 n).wf = true) (hz2 : m.length * 8 ≤ 140737488351232) (hq : (a2 = none → cap2 = 0) ∧ m.length ≤ cap2 ∧ cap2 ≤ 9223372036854775807) :
    Calls Tryd.prog 3 #[.slice a0 l.length cap0, .int .i64 n, .slice a2 m.length cap2] w fun e w' => e = .returned (.bool true) ∧ Below w.heap.size w w' := by
  by_cases h : n < 0
  · exact walk_neg a0 cap0 l n a2 cap2 m w hL h hr0 (by omega) hr2 (by omega)
  · obtain ⟨k, rfl⟩ : ∃ k : Nat, n = k := ⟨n.toNat, by omega⟩
    exact walk_nat a0 cap0 l k a2 cap2 m w hL hr0 (by omega) hr2 (by omega) hq

set_option maxRecDepth 100000 in
theorem lifted (os : Os) (started : os.Started) (H : Type) (enc : TypeId × Value → H) :
    ReturnsInHanded {} Tryd.checked os 3 .any (fun w args => (Rows.treeTellsSpec.pre enc Tryd.prog Tryd.f3 [] false w args ∧ laidMetH Tryd.prog [("errors.errorType", Rows.laid_errors_errorType)] w) ∧ sizedMet enc Tryd.prog Tryd.f3 (OpenSpec.ofChange Rows.treeTellsSpec) false w args)
      (Rows.treeTellsSpec.post enc Tryd.prog Tryd.f3 false true false false) := by
  refine returnsInHanded_of_change_and (C := Tryd.checked) (X := fun w _ => laidMetH Tryd.prog [("errors.errorType", Rows.laid_errors_errorType)] w) (fun _ _ _ hh h => h.of_heap hh) own started (by kernel_rfl) Tryd.func3
    (ChangeSpec.witness_shaped (enc := enc) (C := Tryd.checked) (os := os) (X := fun w _ => laidMetH Tryd.prog [("errors.errorType", Rows.laid_errors_errorType)] w) false (World.doorLaid Tryd.prog 400 os) #[.slice none 0 0, .int .i64 0, .slice none 0 0] 8 rfl (World.shaped_of_RefB (by kernel_rfl) (by kernel_rfl)) (by kernel_rfl) (by kernel_rfl) (by kernel_rfl) (door_met os _)) ?_
  intro W base args ds gs before hval0 hW hcnd hsz0 hL0 _
  have hL := handle_of_laid hL0
  have hsz : (DataW.weightsEach Tryd.prog (Tryd.f3.params.toList ++ Rows.treeTellsSpec.plain.varTypes Tryd.prog) (ds ++ gs)).all (· ≤ reachBytes) = true := hsz0
  have hval : ∀ (j : Nat) t v, Tryd.f3.params[j]? = some t → args[j]? = some v → Value.okWide Tryd.prog W .any base t v := hval0
  have hW' := hW
  obtain ⟨p, q, hA0, hV, rfl, hfz, hnd⟩ := hW
  have hA : DataW.TrodAll enc Tryd.prog W 0 (fun _ => true) true Tryd.f3.params.toList args.toList ds p := hA0
  rw [Tryd.params3] at hA hval hsz
  obtain ⟨v0, vs0, d0, ds0, p0, q0, hargs, rfl, rfl, h0, r0⟩ := trodAll_cons hA
  obtain ⟨v1, vs1, d1, ds1, p1, q1, rfl, rfl, rfl, h1, r1⟩ := trodAll_cons r0
  obtain ⟨v2, vs2, d2, ds2, p2, q2, rfl, rfl, rfl, h2, r2⟩ := trodAll_cons r1
  obtain ⟨rfl, rfl, rfl⟩ := trodAll_nil r2
  obtain rfl : args = #[v0, v1, v2] := by cases args; simp_all
  obtain ⟨rfl, rfl⟩ := trodVars_none hV
  obtain ⟨a0, len0, cap0, rfl⟩ := okWide_slice Tryd.underlying22 (hval 0 22 v0 rfl rfl)
  have k0 := h0
  have lt0 : ∀ x ∈ p0, x.block < W.heap.size := by obtain ⟨m, hm⟩ := k0; exact DataW.trod_lt m _ _ _ hm
  obtain ⟨l0, hlen0, hr0, hw0, hz0⟩ := open_row h0 (fun e s hd => sized_slice hsz (j := 0) (t := 22) (e := 3) rfl (by rw [hd]; rfl) Tryd.underlying22)
  subst hlen0
  obtain ⟨n1, rfl, rfl, rfl, hw1⟩ := open_int Tryd.underlying3 (hval 1 3 v1 rfl rfl) h1
  obtain ⟨a2, len2, cap2, rfl⟩ := okWide_slice Tryd.underlying22 (hval 2 22 v2 rfl rfl)
  have k2 := h2
  have lt2 : ∀ x ∈ p2, x.block < W.heap.size := by obtain ⟨m, hm⟩ := k2; exact DataW.trod_lt m _ _ _ hm
  obtain ⟨l2, hlen2, hr2, hw2, hz2⟩ := open_row h2 (fun e s hd => sized_slice hsz (j := 2) (t := 22) (e := 3) rfl (by rw [hd]; rfl) Tryd.underlying22)
  have hq2 := open_room k2
  subst hlen2
  clear hA0 hval0 hsz0
  refine (walk a0 cap0 l0 n1 a2 cap2 l2 W hL hr0 hw0 hz0 hw1 hr2 hw2 hz2 hq2).mono fun e W' ⟨he, bel⟩ => ?_
  subst he
  exact ⟨_, rfl, _, _, _, [], _, [], hW', trodAll_mk1 (shut_bool Tryd.underlying4 _), (trodAll_cons_mk (Below.trod laidOut (by kernel_rfl) (of_decide_eq_true (by kernel_rfl)) k0 bel lt0) (trodAll_cons_mk (shut_int Tryd.underlying3 hw1) (trodAll_cons_mk (Below.trod laidOut (by kernel_rfl) (of_decide_eq_true (by kernel_rfl)) k2 bel lt2) trodAll_mk0))), rfl, bel.frame _, fun h => by cases h⟩
end Go.Proofs.YtcodgebchmhobabDoor.TreeTellsLaw
namespace Go.Proofs.YtcodgebchmhobabDoor
open Go.ChangeShapes Go.WideShapes Go.ChangeAt Go.RowKit

theorem treeTells_holds : Rows.TreeTellsSaid :=
  OpenClaim.holds_of_wide 3 Tryd.f3 rfl rfl rfl rfl rfl rfl rfl ⟨rfl, rfl, rfl, rfl, rfl⟩ rfl rfl rfl rfl rfl (by kernel_rfl) Tryd.func3 (by kernel_rfl)
    (of_decide_eq_true (by kernel_rfl)) (by unfold Func.isWrapper; first | (rw [if_pos (by decide +kernel)]; kernel_rfl) | (rw [if_neg (by decide +kernel)]; exact ⟨rfl, rfl⟩))
    (fun os started H enc _ => TreeTellsLaw.lifted os started H enc)
theorem treeTells_card : Rows.TreeTellsCardSaid :=
  Claim7.holds_tied_plain_at .later [] [.handle] true (true, "78cc3b98729d5ea6c785733498f5e97a1d6019d3e4036f69df9e6fe4970141a8") true
    treeTells_holds (fun _ h => by cases h) (by kernel_rfl) (fun _ h => by cases h) treeTells_row_tie rfl ⟨rfl, rfl⟩ (by kernel_rfl) rfl
    (fun f fn hf hfn => by
      obtain rfl : f = 3 := Option.some.inj ((show Tryd.prog.funcNamed "pulsehorn/hornlaw1.TreeTells" = some 3 by kernel_rfl).symm.trans hf) |>.symm
      obtain rfl : fn = Tryd.f3 := (Option.some.inj (Tryd.func3.symm.trans hfn)).symm
      exact ⟨by kernel_rfl, fun j t ht => by
        rw [Tryd.params3] at ht
        have hm : t ∈ [22, 3, 22] := by simpa using Array.mem_of_getElem? ht
        have hall : ([22, 3, 22].all fun u => !Tryd.prog.wantsStandIn u) = true := by kernel_rfl
        exact (show Tryd.prog.wantsStandIn t = false by simpa using List.all_eq_true.1 hall t hm)⟩)
    (by kernel_rfl)
end Go.Proofs.YtcodgebchmhobabDoor
