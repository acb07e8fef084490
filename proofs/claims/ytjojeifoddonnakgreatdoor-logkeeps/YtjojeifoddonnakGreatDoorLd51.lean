/-
  It is proved that hornlaw3.LogKeeps returns true for all sizes, bits, frames and whatever is synced, fails and crashes: what is safe is kept; the card's listed variable (errors.errorType) is tied to the program's text. No condition but the form's own reach.
-/
import Derived.Test.YtjojeifoddonnakGreatDoorLd29
import Derived.Test.YtjojeifoddonnakGreatDoorLd50
import Derived.Test.YtjojeifoddonnakGreatDoorLd45
import Derived.Test.YtjojeifoddonnakGreatDoorLd21
namespace Go.Proofs.YtjojeifoddonnakGreatDoor.LogKeepsLaw
open Go.ChangeShapes Go.WideShapes Go.ChangeAt Go.RowKit
open Go.Proofs.YtjojeifoddonnakGreatDoor.Aser
set_option linter.unusedVariables false

theorem walk (a0 : Option Addr) (cap0 : Nat) (s : List Int) (B : Int) (a2 : Option Addr) (cap2 : Nat) (l : List ByteArray) (a3 : Option Addr) (cap3 : Nat) (sy : List Int) (a4 : Option Addr) (cap4 : Nat) (fa : List Int) (a5 : Option Addr) (cap5 : Nat) (ke : List Int) (w : World) (hL : Laid w)
    (hr0 : Row w a0 s) (hw0 : ∀ n ∈ s, (Lit.int .i64 n).wf = true) (hz0 : s.length * 8 ≤ 140737488351232) (hw1 : (Lit.int .i64 B).wf = true) (hr2 : RowT w a2 l) (hw2 : ∀ i, i < l.length → (l.getD i ⟨#[]⟩).size ≤ maxLen) (hz2 : l.length * 16 ≤ 140737488351232)
    (hr3 : Row w a3 sy) (hw3 : ∀ n ∈ sy, (Lit.int .i64 n).wf = true) (hz3 : sy.length * 8 ≤ 140737488351232) (hr4 : Row w a4 fa) (hw4 : ∀ n ∈ fa, (Lit.int .i64 n).wf = true) (hz4 : fa.length * 8 ≤ 140737488351232) (hr5 : Row w a5 ke) (hw5 : ∀ n ∈ ke, (Lit.int .i64 n).wf = true) (hz5 : ke.length * 8 ≤ 140737488351232) :
    Calls Tryz.prog 3 #[.slice a0 s.length cap0, .int .i64 B, .slice a2 l.length cap2, .slice a3 sy.length cap3, .slice a4 fa.length cap4, .slice a5 ke.length cap5] w fun e w' => e = .returned (.bool true) ∧ Below w.heap.size w w' :=
  Lg19.keeps_walk Lg19.LH Lg19.landed a0 cap0 s B a2 cap2 l a3 cap3 sy a4 cap4 fa a5 cap5 ke w hL hr0 hr2 hr3 hr4 hr5 (by omega) (by omega) (by omega) (by omega) (by omega) (hide (fun i hi => by simpa [maxLen] using hw2 i hi)) (hide (fun i hi => by
    have e : Tre.at0 fa i = fa[i] := by simp [Tre.at0, hi]
    rw [e]
    exact (bounds_i64 (hw4 _ (List.getElem_mem hi))).2))

set_option maxRecDepth 100000 in
theorem lifted (os : Os) (started : os.Started) (H : Type) (enc : TypeId × Value → H) :
    ReturnsInHanded {} Tryz.checked os 3 .any (fun w args => (Rows.logKeepsSpec.pre enc Tryz.prog Tryz.f3 [] false w args ∧ laidMetH Tryz.prog [("errors.errorType", Rows.laid_errors_errorType)] w) ∧ sizedMet enc Tryz.prog Tryz.f3 (OpenSpec.ofChange Rows.logKeepsSpec) false w args)
      (Rows.logKeepsSpec.post enc Tryz.prog Tryz.f3 false true false false) := by
  refine returnsInHanded_of_change_and (C := Tryz.checked) (X := fun w _ => laidMetH Tryz.prog [("errors.errorType", Rows.laid_errors_errorType)] w) (fun _ _ _ hh h => h.of_heap hh) own started (by kernel_rfl) Tryz.func3
    (ChangeSpec.witness_shaped (enc := enc) (C := Tryz.checked) (os := os) (X := fun w _ => laidMetH Tryz.prog [("errors.errorType", Rows.laid_errors_errorType)] w) false (World.doorLaid Tryz.prog 400 os) #[.slice none 0 0, .int .i64 0, .slice none 0 0, .slice none 0 0, .slice none 0 0, .slice none 0 0] 8 rfl (World.shaped_of_RefB (by kernel_rfl) (by kernel_rfl)) (by kernel_rfl) (by kernel_rfl) (by kernel_rfl) (door_met os _)) ?_
  intro W base args ds gs before hval0 hW hcnd hsz0 hL0 _
  have hL := handle_of_laid hL0
  have hsz : (DataW.weightsEach Tryz.prog (Tryz.f3.params.toList ++ Rows.logKeepsSpec.plain.varTypes Tryz.prog) (ds ++ gs)).all (· ≤ reachBytes) = true := hsz0
  have hval : ∀ (j : Nat) t v, Tryz.f3.params[j]? = some t → args[j]? = some v → Value.okWide Tryz.prog W .any base t v := hval0
  have hW' := hW
  obtain ⟨p, q, hA0, hV, rfl, hfz, hnd⟩ := hW
  have hA : DataW.TrodAll enc Tryz.prog W 0 (fun _ => true) true Tryz.f3.params.toList args.toList ds p := hA0
  rw [Tryz.params3] at hA hval hsz
  obtain ⟨v0, vs0, d0, ds0, p0, q0, hargs, rfl, rfl, h0, r0⟩ := trodAll_cons hA
  obtain ⟨v1, vs1, d1, ds1, p1, q1, rfl, rfl, rfl, h1, r1⟩ := trodAll_cons r0
  obtain ⟨v2, vs2, d2, ds2, p2, q2, rfl, rfl, rfl, h2, r2⟩ := trodAll_cons r1
  obtain ⟨v3, vs3, d3, ds3, p3, q3, rfl, rfl, rfl, h3, r3⟩ := trodAll_cons r2
  obtain ⟨v4, vs4, d4, ds4, p4, q4, rfl, rfl, rfl, h4, r4⟩ := trodAll_cons r3
  obtain ⟨v5, vs5, d5, ds5, p5, q5, rfl, rfl, rfl, h5, r5⟩ := trodAll_cons r4
  obtain ⟨rfl, rfl, rfl⟩ := trodAll_nil r5
  obtain rfl : args = #[v0, v1, v2, v3, v4, v5] := by cases args; simp_all
  obtain ⟨rfl, rfl⟩ := trodVars_none hV
  obtain ⟨a0, len0, cap0, rfl⟩ := okWide_slice Tryz.underlying22 (hval 0 22 v0 rfl rfl)
  have k0 := h0
  have lt0 : ∀ x ∈ p0, x.block < W.heap.size := by obtain ⟨m, hm⟩ := k0; exact DataW.trod_lt m _ _ _ hm
  obtain ⟨l0, hlen0, hr0, hw0, hz0⟩ := open_row h0 (fun e s hd => sized_slice hsz (j := 0) (t := 22) (e := 3) rfl (by rw [hd]; rfl) Tryz.underlying22)
  subst hlen0
  obtain ⟨n1, rfl, rfl, rfl, hw1⟩ := open_int Tryz.underlying3 (hval 1 3 v1 rfl rfl) h1
  obtain ⟨a2, len2, cap2, rfl⟩ := okWide_slice Tryz.underlying23 (hval 2 23 v2 rfl rfl)
  have k2 := h2
  have lt2 : ∀ x ∈ p2, x.block < W.heap.size := by obtain ⟨m, hm⟩ := k2; exact DataW.trod_lt m _ _ _ hm
  obtain ⟨l2, hlen2, hr2, hw2, hz2⟩ := open_texts h2 (fun e s hd => sized_slice hsz (j := 2) (t := 23) (e := 9) rfl (by rw [hd]; rfl) Tryz.underlying23)
  subst hlen2
  obtain ⟨a3, len3, cap3, rfl⟩ := okWide_slice Tryz.underlying22 (hval 3 22 v3 rfl rfl)
  have k3 := h3
  have lt3 : ∀ x ∈ p3, x.block < W.heap.size := by obtain ⟨m, hm⟩ := k3; exact DataW.trod_lt m _ _ _ hm
  obtain ⟨l3, hlen3, hr3, hw3, hz3⟩ := open_row h3 (fun e s hd => sized_slice hsz (j := 3) (t := 22) (e := 3) rfl (by rw [hd]; rfl) Tryz.underlying22)
  subst hlen3
  obtain ⟨a4, len4, cap4, rfl⟩ := okWide_slice Tryz.underlying22 (hval 4 22 v4 rfl rfl)
  have k4 := h4
  have lt4 : ∀ x ∈ p4, x.block < W.heap.size := by obtain ⟨m, hm⟩ := k4; exact DataW.trod_lt m _ _ _ hm
  obtain ⟨l4, hlen4, hr4, hw4, hz4⟩ := open_row h4 (fun e s hd => sized_slice hsz (j := 4) (t := 22) (e := 3) rfl (by rw [hd]; rfl) Tryz.underlying22)
  subst hlen4
  obtain ⟨a5, len5, cap5, rfl⟩ := okWide_slice Tryz.underlying22 (hval 5 22 v5 rfl rfl)
  have k5 := h5
  have lt5 : ∀ x ∈ p5, x.block < W.heap.size := by obtain ⟨m, hm⟩ := k5; exact DataW.trod_lt m _ _ _ hm
  obtain ⟨l5, hlen5, hr5, hw5, hz5⟩ := open_row h5 (fun e s hd => sized_slice hsz (j := 5) (t := 22) (e := 3) rfl (by rw [hd]; rfl) Tryz.underlying22)
  subst hlen5
  clear hA0 hval0 hsz0
  refine (walk a0 cap0 l0 n1 a2 cap2 l2 a3 cap3 l3 a4 cap4 l4 a5 cap5 l5 W hL hr0 hw0 hz0 hw1 hr2 hw2 hz2 hr3 hw3 hz3 hr4 hw4 hz4 hr5 hw5 hz5).mono fun e W' ⟨he, bel⟩ => ?_
  subst he
  exact ⟨_, rfl, _, _, _, [], _, [], hW', trodAll_mk1 (shut_bool Tryz.underlying4 _), (trodAll_cons_mk (Below.trod laidOut (by kernel_rfl) (of_decide_eq_true (by kernel_rfl)) k0 bel lt0) (trodAll_cons_mk (shut_int Tryz.underlying3 hw1) (trodAll_cons_mk (Below.trod laidOut (by kernel_rfl) (of_decide_eq_true (by kernel_rfl)) k2 bel lt2) (trodAll_cons_mk (Below.trod laidOut (by kernel_rfl) (of_decide_eq_true (by kernel_rfl)) k3 bel lt3) (trodAll_cons_mk (Below.trod laidOut (by kernel_rfl) (of_decide_eq_true (by kernel_rfl)) k4 bel lt4) (trodAll_cons_mk (Below.trod laidOut (by kernel_rfl) (of_decide_eq_true (by kernel_rfl)) k5 bel lt5) trodAll_mk0)))))), rfl, bel.frame _, fun h => by cases h⟩
end Go.Proofs.YtjojeifoddonnakGreatDoor.LogKeepsLaw
namespace Go.Proofs.YtjojeifoddonnakGreatDoor
open Go.ChangeShapes Go.WideShapes Go.ChangeAt Go.RowKit

theorem logKeeps_holds : Rows.LogKeepsSaid :=
  OpenClaim.holds_of_wide 3 Tryz.f3 rfl rfl rfl rfl rfl rfl rfl ⟨rfl, rfl, rfl, rfl, rfl⟩ rfl rfl rfl rfl rfl (by kernel_rfl) Tryz.func3 (by kernel_rfl)
    (of_decide_eq_true (by kernel_rfl)) (by unfold Func.isWrapper; first | (rw [if_pos (by decide +kernel)]; kernel_rfl) | (rw [if_neg (by decide +kernel)]; exact ⟨rfl, rfl⟩))
    (fun os started H enc _ => LogKeepsLaw.lifted os started H enc)
theorem logKeeps_card : Rows.LogKeepsCardSaid :=
  Claim7.holds_tied_plain_at .later [] [.handle] true (true, "93b16e14703cbddc5bc6e03d4619622809a1a55dde1a89c9b4b832c4eeab5683") true
    logKeeps_holds (fun _ h => by cases h) (by kernel_rfl) (fun _ h => by cases h) logKeeps_row_tie rfl ⟨rfl, rfl⟩ (by kernel_rfl) rfl
    (fun f fn hf hfn => by
      obtain rfl : f = 3 := Option.some.inj ((show Tryz.prog.funcNamed "pulsehorn/hornlaw3.LogKeeps" = some 3 by kernel_rfl).symm.trans hf) |>.symm
      obtain rfl : fn = Tryz.f3 := (Option.some.inj (Tryz.func3.symm.trans hfn)).symm
      exact ⟨by kernel_rfl, fun j t ht => by
        rw [Tryz.params3] at ht
        have hm : t ∈ [22, 3, 23, 22, 22, 22] := by simpa using Array.mem_of_getElem? ht
        have hall : ([22, 3, 23, 22, 22, 22].all fun u => !Tryz.prog.wantsStandIn u) = true := by kernel_rfl
        exact (show Tryz.prog.wantsStandIn t = false by simpa using List.all_eq_true.1 hall t hm)⟩)
    (by kernel_rfl)
end Go.Proofs.YtjojeifoddonnakGreatDoor
