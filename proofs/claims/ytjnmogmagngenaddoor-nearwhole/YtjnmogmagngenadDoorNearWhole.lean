/-
  It is proved that hornlaw4.NearWhole returns true for every row and every number: pulses are nearest to themselves, and not far at all, however many times as loud; the card's listed variable (errors.errorType) is tied to the program's text. No condition but the form's own reach.
-/
import Derived.Test.YtjnmogmagngenadDoorNearOf
import Derived.Test.YtjnmogmagngenadDoorNearFar
import Derived.Test.YtjnmogmagngenadDoorInts
import Derived.Test.YtjnmogmagngenadDoorTold
import Derived.Test.YtjnmogmagngenadDoorTiedFrame
namespace Go.Proofs.YtjnmogmagngenadDoor.NearWholeLaw
open Go.ChangeShapes Go.WideShapes Go.ChangeAt Go.RowKit
open Go.Proofs.YtjnmogmagngenadDoor.Tre Go.Proofs.YtjnmogmagngenadDoor.Pls Go.Proofs.YtjnmogmagngenadDoor.Same Go.Proofs.YtjnmogmagngenadDoor.Mid Go.Proofs.YtjnmogmagngenadDoor.Nea Go.Proofs.YtjnmogmagngenadDoor.Aser
set_option linter.unusedVariables false

theorem none3 (w : World) : Calls Tryd.prog 13 #[.slice (some ⟨w.heap.size, 0, none⟩) 2 2, .int .i64 3] (w.alloc (.cells #[.int .i64 0, .int .i64 0] 3)) fun e w' => e = .returned (.tuple #[.slice none 0 0, .iface 45 (.int .i64 5)]) ∧ Below w.heap.size w w' := by
  have hb : Below w.heap.size w (w.alloc (.cells #[.int .i64 0, .int .i64 0] 3)) := (Below.refl _ _).alloc (Nat.le_refl _) _
  have h := of_none (some ⟨w.heap.size, 0, none⟩) 2 [0, 0] 3 (w.alloc (.cells #[.int .i64 0, .int .i64 0] 3)) (row_two w 0 0 3) (hide (by decide +kernel)) (by decide) (by decide) (hide (by decide +kernel))
  exact h.mono fun e w' ⟨he, hb'⟩ => ⟨he, Below.chain hb hb'⟩

theorem map_upto (c : Int) (l : List Int) : l.map (c * ·) = upto (fun i => c * at0 l i) l.length := by
  refine eq_of_at (by rw [upto_length, List.length_map]) fun i hi => ?_
  rw [List.length_map] at hi
  rw [upto_at _ hi, at0_map]
theorem mul_abs' {c : Nat} {x : Int} (hc : c ≤ 100) (h0 : -8 ≤ x) (h1 : x ≤ 8) : -800 ≤ (c : Int) * x ∧ (c : Int) * x ≤ 800 := mul_abs (b := 8) hc h0 h1

/-- What may be. -/
def Ways (l : List Int) (b : Int) : Prop := (∃ E, Hid (fault l = E) ∧ Hid (fault l ≠ 0)) ∨ (Hid (fault l = 0) ∧ ∃ K : Nat, Hid (loud l = K) ∧ K ≤ 8 ∧ (K = 0 ∨ (0 < K ∧ ((K : Int) == 0) = false ∧ b < 1) ∨ (0 < K ∧ ((K : Int) == 0) = false ∧ 1 ≤ b ∧ 100 < b) ∨ (0 < K ∧ ((K : Int) == 0) = false ∧ ∃ c : Nat, b = c ∧ 1 ≤ c ∧ c ≤ 100)))
theorem ways (l : List Int) (b : Int) : Ways l b := by
  unfold Ways
  by_cases h : fault l = 0
  · refine Or.inr ⟨h, loud l, rfl, (fault_ok h).2.2, ?_⟩
    rcases Nat.eq_zero_or_pos (loud l) with e | e
    · exact Or.inl e
    · have e' : ((loud l : Int) == 0) = false := by simp; omega
      by_cases h1 : b < 1
      · exact Or.inr (Or.inl ⟨e, e', h1⟩)
      · by_cases h2 : 100 < b
        · exact Or.inr (Or.inr (Or.inl ⟨e, e', by omega, h2⟩))
        · exact Or.inr (Or.inr (Or.inr ⟨e, e', b.toNat, by omega, by omega, by omega⟩))
  · exact Or.inl ⟨_, rfl, h⟩

set_option maxRecDepth 100000 in
set_option maxHeartbeats 16000000 in
theorem walk (a0 : Option Addr) (cap0 : Nat) (l0 : List Int) (n : Int) (w : World) (hL : Laid w) (hr0 : Row w a0 l0) (hw0 : ∀ n ∈ l0, (Lit.int .i64 n).wf = true) (hz0 : l0.length * 8 ≤ 140737488351232) (hwn : (Lit.int .i64 n).wf = true) :
    Calls Tryd.prog 5 #[.slice a0 l0.length cap0, .int .i64 n] w fun e w' => e = .returned (.bool true) ∧ Below w.heap.size w w' := by
  have hl0 : l0.length ≤ 9223372036854775807 := by omega
  have hwy := ways l0 n
  clear hw0 hz0 hwn
  rcases hwy with ⟨E, HE, HF⟩ | ⟨HF, K, HK, hK8, rfl | ⟨hK0, hKz, hb⟩ | ⟨hK0, hKz, hb, hb'⟩ | ⟨hK0, hKz, c, rfl, hc1, hc9⟩⟩
  · go_enter Tryd.func5, Tryd.ntmps5
    go_wp2_with fail
    refine (check_no a0 cap0 l0 w hl0 hr0 HF).mono ?_
    rintro e w1 ⟨rfl, hb1⟩
    go_wp2_with fail
    refine (none3 w1).mono ?_
    rintro e w2 ⟨rfl, hb2⟩
    have hB2 := Below.chain hb1 hb2
    go_wp2_with fail
    refine (error_is 5 w2 (hL.below hB2)).mono ?_
    rintro e w3 ⟨rfl, hb3⟩
    go_wp2
    go_ret
    exact ⟨rfl, Below.chain hB2 hb3⟩
  · have hck := check_ok a0 cap0 l0 w hr0 HF
    rw [unhide HK] at hck
    go_enter Tryd.func5, Tryd.ntmps5
    go_wp2_with fail
    refine hck.mono ?_
    clear hck
    rintro e w1 ⟨rfl, hb1⟩
    go_wp2_with fail
    refine (none3 w1).mono ?_
    rintro e w2 ⟨rfl, hb2⟩
    have hB2 := Below.chain hb1 hb2
    go_wp2_with fail
    refine (error_is 5 w2 (hL.below hB2)).mono ?_
    rintro e w3 ⟨rfl, hb3⟩
    go_wp2
    go_ret
    exact ⟨rfl, Below.chain hB2 hb3⟩
  · have hck := check_ok a0 cap0 l0 w hr0 HF
    rw [unhide HK] at hck
    go_enter Tryd.func5, Tryd.ntmps5
    go_wp2_with fail
    refine hck.mono ?_
    clear hck
    rintro e w1 ⟨rfl, hb1⟩
    go_wp2_with fail
    refine (none3 w1).mono ?_
    rintro e w2 ⟨rfl, hb2⟩
    have hB2 := Below.chain hb1 hb2
    go_wp2_with fail
    refine (error_is 5 w2 (hL.below hB2)).mono ?_
    rintro e w3 ⟨rfl, hb3⟩
    go_wp2
    go_ret
    exact ⟨rfl, Below.chain hB2 hb3⟩
  · have hck := check_ok a0 cap0 l0 w hr0 HF
    rw [unhide HK] at hck
    go_enter Tryd.func5, Tryd.ntmps5
    go_wp2_with fail
    refine hck.mono ?_
    clear hck
    rintro e w1 ⟨rfl, hb1⟩
    go_wp2_with fail
    refine (none3 w1).mono ?_
    rintro e w2 ⟨rfl, hb2⟩
    have hB2 := Below.chain hb1 hb2
    go_wp2_with fail
    refine (error_is 5 w2 (hL.below hB2)).mono ?_
    rintro e w3 ⟨rfl, hb3⟩
    go_wp2
    go_ret
    exact ⟨rfl, Below.chain hB2 hb3⟩
  · have hck := check_ok a0 cap0 l0 w hr0 HF
    rw [unhide HK] at hck
    obtain ⟨f6, fi, -⟩ := fault_ok (unhide HF)
    obtain ⟨N, hN⟩ : ∃ N, l0.length = N := ⟨_, rfl⟩
    have HN := hide hN
    rw [hN] at hck f6 ⊢
    clear hN
    go_enter Tryd.func5, Tryd.ntmps5
    go_wp2_with fail
    refine hck.mono ?_
    clear hck
    rintro e w1 ⟨rfl, hb1⟩
    have hr1 := hr0.below hb1
    go_wp2
    go_loopw [9, 10] (fun s i wr => ∃ j : Nat, j ≤ N ∧ i = .int .i64 j ∧ Has wr w.heap.size s (upto (fun i => (c : Int) * at0 l0 i) j) ∧ Below w.heap.size w wr) (fun _ i _ => N - (intOf i).toNat)
    case atStart => exact ⟨0, Nat.zero_le _, rfl, Has.nil _ _, hb1⟩
    case round =>
      obtain ⟨j, hj, rfl, h1, hB⟩ := hrel
      clear hr1 hb1
      by_cases hlt : j < N
      · obtain ⟨b, off, rfl, hb, hc⟩ := row_cell (hr0.below hB) (by rw [unhide HN]; omega)
        have hc' := hc j (by rw [unhide HN]; exact hlt)
        obtain ⟨i0, i1⟩ := fi.at (by omega) j
        have e1 : Hid (upto (fun i => (c : Int) * at0 l0 i) (j + 1) = upto (fun i => (c : Int) * at0 l0 i) j ++ [(c : Int) * at0 l0 j]) := hide (upto_succ _ _)
        have hln1 : Hid ((upto (fun i => (c : Int) * at0 l0 i) j).length + 1 ≤ 1000000) := hide (by rw [upto_length]; omega)
        obtain ⟨X, hX⟩ : ∃ X, at0 l0 j = X := ⟨_, rfl⟩
        rw [hX] at hc' i0 i1 e1
        obtain ⟨p0, p1⟩ := mul_abs' hc9 i0 i1
        obtain ⟨Y, hY⟩ : ∃ Y, (c : Int) * X = Y := ⟨_, rfl⟩
        rw [hY] at p0 p1 e1
        have hmul : IntKind.i64.wrap ((c : Int) * X) = Y := by rw [hY]; exact IntWalk.i64_in _ (by omega)
        have hWs := hB.size
        clear hX hY hc i0 i1
        go_wp2_with (at_builtin; refine wpList_app _ rfl _ _ rfl w.heap.size u9 (upto (fun i => (c : Int) * at0 l0 i) j) [Y] _ _ rfl (h1.alloc _) rfl (row_one _ _ _) (unhide hln1) (by simp; omega) ?_; intro s1 w1 k1 g1 at1)
        obtain ⟨d1, d2⟩ := stepped_plain h1 hWs k1 g1 at1
        go_wp2
        go_roundw
        case rel => exact ⟨j + 1, by omega, by go_num, by rw [unhide e1]; exact k1, hB.trans d1⟩
        case measure => simp [intOf]; omega
      · obtain rfl : j = N := by omega
        have em := map_upto (c : Int) l0
        rw [unhide HN] at em
        rw [← em] at h1
        obtain ⟨v, hv⟩ : ∃ v, l0.map ((c : Int) * ·) = v := ⟨_, rfl⟩
        rw [hv] at h1
        have HV := hide hv
        have HLv : Hid (v.length = j) := hide (by rw [← hv, List.length_map]; exact unhide HN)
        have HVF : Hid (vf v = 0) := hide (by
          refine vf_none (by rw [unhide HLv]; exact f6) ?_
          rw [← hv, em]
          exact upto_in fun i _ => by
            obtain ⟨i0, i1⟩ := fi.at (by omega) i
            have := mul_abs' hc9 i0 i1
            omega)
        have HVL : Hid (0 < loud v) := hide (by rw [← hv, loud_map, unhide HK]; exact Nat.mul_pos hc1 hK0)
        obtain ⟨pv, qv, ev, rv⟩ := h1.row
        rw [unhide HLv] at ev
        have c1 := fun W hr => of_some pv qv v K W hr HVF hK0 hK8 HVL
        have c2 := fun W hr hr' => far_ok pv qv v a0 cap0 l0 K W hr hr' HVF HF (hide ((unhide HLv).trans (unhide HN).symm)) HK
        have ef : far v K l0 = 0 := by rw [← hv, ← unhide HK]; exact whole_far c l0
        have HW : Hid (∀ l, Near v K l → l = l0) := hide (fun l hl => by rw [← hv, ← unhide HK] at hl; exact whole hc1 (by rw [unhide HK]; exact hK0) hl)
        rw [unhide HLv] at c1 c2
        rw [unhide HN, ef] at c2
        have C1 := hide c1
        have C2 := hide c2
        have HI := hide (fun p q a r W => ints_same p q a r l0 W hl0)
        rw [unhide HN] at HI
        have hr4 := hr0.below hB
        subst ev
        clear em hv c1 c2 ef h1
        go_wp2_with fail
        refine (unhide C1 wr rv).mono ?_
        rintro e w3 ⟨q, l, rfl, hq, HQ, hb3⟩
        obtain rfl : l = l0 := unhide HW l (unhide HQ)
        have hB3 := hB.trans (hb3.mono hB.size)
        have r3 := rv.below hb3
        have r3' := hr4.below hb3
        go_wp2_with fail
        refine (unhide C2 w3 r3 r3').mono ?_
        rintro e w4 ⟨rfl, hb4⟩
        have hB4 := hB3.trans (hb4.mono hB3.size)
        obtain ⟨pq, qq, eq, rq⟩ := hq.row
        rw [unhide HN] at eq
        subst eq
        have r4 := rq.below hb4
        have r4' := r3'.below hb4
        go_wp2_with fail
        refine (unhide HI pq qq a0 cap0 w4 r4 r4').mono ?_
        rintro e w5 ⟨rfl, hb5⟩
        go_wp2
        go_ret
        exact ⟨rfl, hB4.trans (hb5.mono hB4.size)⟩

set_option maxRecDepth 100000 in
theorem lifted (os : Os) (started : os.Started) (H : Type) (enc : TypeId × Value → H) :
    ReturnsInHanded {} Tryd.checked os 5 .any (fun w args => (Rows.nearWholeSpec.pre enc Tryd.prog Tryd.f5 [] false w args ∧ laidMetH Tryd.prog [("errors.errorType", Rows.laid_errors_errorType)] w) ∧ sizedMet enc Tryd.prog Tryd.f5 (OpenSpec.ofChange Rows.nearWholeSpec) false w args)
      (Rows.nearWholeSpec.post enc Tryd.prog Tryd.f5 false true false false) := by
  refine returnsInHanded_of_change_and (C := Tryd.checked) (X := fun w _ => laidMetH Tryd.prog [("errors.errorType", Rows.laid_errors_errorType)] w) (fun _ _ _ hh h => h.of_heap hh) own started (by kernel_rfl) Tryd.func5
    (ChangeSpec.witness_shaped (enc := enc) (C := Tryd.checked) (os := os) (X := fun w _ => laidMetH Tryd.prog [("errors.errorType", Rows.laid_errors_errorType)] w) false (World.doorLaid Tryd.prog 400 os) #[.slice none 0 0, .int .i64 0] 8 rfl (World.shaped_of_RefB (by kernel_rfl) (by kernel_rfl)) (by kernel_rfl) (by kernel_rfl) (by kernel_rfl) (door_met os _)) ?_
  intro W base args ds gs before hval0 hW hcnd hsz0 hL0 _
  have hL := handle_of_laid hL0
  have hsz : (DataW.weightsEach Tryd.prog (Tryd.f5.params.toList ++ Rows.nearWholeSpec.plain.varTypes Tryd.prog) (ds ++ gs)).all (· ≤ reachBytes) = true := hsz0
  have hval : ∀ (j : Nat) t v, Tryd.f5.params[j]? = some t → args[j]? = some v → Value.okWide Tryd.prog W .any base t v := hval0
  have hW' := hW
  obtain ⟨p, q, hA0, hV, rfl, hfz, hnd⟩ := hW
  have hA : DataW.TrodAll enc Tryd.prog W 0 (fun _ => true) true Tryd.f5.params.toList args.toList ds p := hA0
  rw [Tryd.params5] at hA hval hsz
  obtain ⟨v0, vs0, d0, ds0, p0, q0, hargs, rfl, rfl, h0, r0⟩ := trodAll_cons hA
  obtain ⟨v1, vs1, d1, ds1, p1, q1, rfl, rfl, rfl, h1, r1⟩ := trodAll_cons r0
  obtain ⟨rfl, rfl, rfl⟩ := trodAll_nil r1
  obtain rfl : args = #[v0, v1] := by cases args; simp_all
  obtain ⟨rfl, rfl⟩ := trodVars_none hV
  obtain ⟨a0, len0, cap0, rfl⟩ := okWide_slice Tryd.underlying22 (hval 0 22 v0 rfl rfl)
  have k0 := h0
  have lt0 : ∀ x ∈ p0, x.block < W.heap.size := by obtain ⟨m, hm⟩ := k0; exact DataW.trod_lt m _ _ _ hm
  obtain ⟨l0, hlen0, hr0, hw0, hz0⟩ := open_row h0 (fun e s hd => sized_slice hsz (j := 0) (t := 22) (e := 3) rfl (by rw [hd]; rfl) Tryd.underlying22)
  subst hlen0
  obtain ⟨n1, rfl, rfl, rfl, hw1⟩ := open_int Tryd.underlying3 (hval 1 3 v1 rfl rfl) h1
  clear hA0 hval0 hsz0
  refine (walk a0 cap0 l0 n1 W hL hr0 hw0 hz0 hw1).mono fun e W' ⟨he, bel⟩ => ?_
  subst he
  exact ⟨_, rfl, _, _, _, [], _, [], hW', trodAll_mk1 (shut_bool Tryd.underlying4 _), (trodAll_cons_mk (Below.trod laidOut (by kernel_rfl) (of_decide_eq_true (by kernel_rfl)) k0 bel lt0) (trodAll_cons_mk (shut_int Tryd.underlying3 hw1) trodAll_mk0)), rfl, bel.frame _, fun h => by cases h⟩
end Go.Proofs.YtjnmogmagngenadDoor.NearWholeLaw
namespace Go.Proofs.YtjnmogmagngenadDoor
open Go.ChangeShapes Go.WideShapes Go.ChangeAt Go.RowKit

theorem nearWhole_holds : Rows.NearWholeSaid :=
  OpenClaim.holds_of_wide 5 Tryd.f5 rfl rfl rfl rfl rfl rfl rfl ⟨rfl, rfl, rfl, rfl, rfl⟩ rfl rfl rfl rfl rfl (by kernel_rfl) Tryd.func5 (by kernel_rfl)
    (of_decide_eq_true (by kernel_rfl)) (by unfold Func.isWrapper; first | (rw [if_pos (by decide +kernel)]; kernel_rfl) | (rw [if_neg (by decide +kernel)]; exact ⟨rfl, rfl⟩))
    (fun os started H enc _ => NearWholeLaw.lifted os started H enc)
theorem nearWhole_card : Rows.NearWholeCardSaid :=
  Claim7.holds_tied_plain_at .later [] [.handle] true (true, "ef5111ac4d9856b916747469ccde401b03b7beca302fc2a15841a021865e775f") true
    nearWhole_holds (fun _ h => by cases h) (by kernel_rfl) (fun _ h => by cases h) nearWhole_row_tie rfl ⟨rfl, rfl⟩ (by kernel_rfl) rfl
    (fun f fn hf hfn => by
      obtain rfl : f = 5 := Option.some.inj ((show Tryd.prog.funcNamed "pulsehorn/hornlaw4.NearWhole" = some 5 by kernel_rfl).symm.trans hf) |>.symm
      obtain rfl : fn = Tryd.f5 := (Option.some.inj (Tryd.func5.symm.trans hfn)).symm
      exact ⟨by kernel_rfl, fun j t ht => by
        rw [Tryd.params5] at ht
        have hm : t ∈ [22, 3] := by simpa using Array.mem_of_getElem? ht
        have hall : ([22, 3].all fun u => !Tryd.prog.wantsStandIn u) = true := by kernel_rfl
        exact (show Tryd.prog.wantsStandIn t = false by simpa using List.all_eq_true.1 hall t hm)⟩)
    (by kernel_rfl)
end Go.Proofs.YtjnmogmagngenadDoor
