/-
  It is proved that hornlaw4.ShareSilent returns true for all sizes and every number of bits: where all is silent none gets a pulse, and all bits are left. No condition but the form's own reach.
-/
import Derived.Test.YtlklnjaihbjfiahShareFaces
import Derived.Test.YtlklnjaihbjfiahMakeBig
import Derived.Test.YtlklnjaihbjfiahFrame
namespace Go.Proofs.Ytlklnjaihbjfiah.ShareSilentLaw
open Go.ChangeShapes Go.WideShapes Go.ChangeAt Go.RowKit
open Go.Proofs.Ytlklnjaihbjfiah.Tre Go.Proofs.Ytlklnjaihbjfiah.Bnd Go.Proofs.Ytlklnjaihbjfiah.Shr
set_option linter.unusedVariables false

set_option maxRecDepth 100000 in
set_option maxHeartbeats 4000000 in
theorem walk (a0 : Option Addr) (cap0 : Nat) (s : List Int) (B : Int) (w : World) (hr0 : Row w a0 s) (hw0 : ∀ n ∈ s, (Lit.int .i64 n).wf = true) (hz0 : s.length * 8 ≤ 140737488351232) (hwB : (Lit.int .i64 B).wf = true) :
    Calls Try.prog 4 #[.slice a0 s.length cap0, .int .i64 B] w fun e w' => e = .returned (.bool true) ∧ Below w.heap.size w w' := by
  have zs : s.length ≤ 17592186044416 := by omega
  clear hw0 hwB hz0
  have hZL : (upto (fun _ => (0 : Int)) s.length).length = s.length := upto_length _ _
  have hway : (∃ E, Hid (ofF s (upto (fun _ => 0) s.length) B = E) ∧ Hid (E ≠ 0)) ∨ Hid (ofF s (upto (fun _ => 0) s.length) B = 0) := by
    by_cases h : ofF s (upto (fun _ => 0) s.length) B = 0
    · exact Or.inr h
    · exact Or.inl ⟨_, hide rfl, h⟩
  have CON := hide (fun p q E W h h' hE hne => of_no a0 cap0 s p q (upto (fun _ => 0) s.length) B E W h h' zs (by rw [hZL]; exact zs) hE hne)
  have CLN := hide (fun p q E W h h' hE hne => left_no a0 cap0 s p q (upto (fun _ => 0) s.length) B E W h h' zs (by rw [hZL]; exact zs) hE hne)
  have COO := hide (fun p q W h h' hE => of_ok a0 cap0 s p q (upto (fun _ => 0) s.length) B W h h' hE)
  have CLO := hide (fun p q W h h' hE => left_ok a0 cap0 s p q (upto (fun _ => 0) s.length) B W h h' hE)
  have hsh : share s (upto (fun _ => 0) s.length) B = upto (fun _ => 0) s.length := share_silent (fun i hi => upto_at _ hi)
  rw [hZL] at CON CLN COO CLO
  rw [hsh] at COO CLO
  have HCZ : Hid (ofF s (upto (fun _ => 0) s.length) B = 0 → cost s (upto (fun _ => 0) s.length) = 0) := hide (fun h => cost_zeros (bf_ok (ofF_zero.1 h).1).2.2.1)
  obtain ⟨zl, hzl⟩ : ∃ zl, upto (fun _ => (0 : Int)) s.length = zl := ⟨_, rfl⟩
  have HZA : Hid (∀ i, i < s.length → at0 zl i = 0) := hide (fun i hi => by rw [← hzl]; exact upto_at _ hi)
  obtain ⟨N, hN⟩ : ∃ N, s.length = N := ⟨_, rfl⟩
  have HZ : Hid (upto (fun _ => (0 : Int)) N = zl) := hide (by rw [← hN]; exact hzl)
  rw [hzl] at CON CLN COO CLO HCZ hZL hway
  rw [hN] at CON CLN COO CLO hZL zs HZA ⊢
  have HZL := hide hZL
  clear hN hzl hsh hZL
  go_enter Try.func4, Try.ntmps4
  go_wp2_with (at_make; refine wpList_mkL _ rfl _ rfl N rfl (by omega) ?_; intro w2 hv2 hB2)
  rw [unhide HZ] at hv2
  have r2 := (hv2.inRow rfl).2
  clear hv2 HZ
  rcases hway with ⟨E, HE, HE0⟩ | HE
  · go_wp2_with fail
    refine (unhide CON _ N E w2 (hr0.below hB2) r2 HE HE0).mono ?_
    rintro e w3 ⟨rfl, hb3⟩
    have hB3 := Below.chain hB2 hb3
    have r3 := r2.below hb3
    go_wp2_with fail
    refine (unhide CLN _ N E w3 (hr0.below hB3) r3 HE HE0).mono ?_
    rintro e w4 ⟨rfl, hb4⟩
    go_wp2
    go_ret
    exact ⟨rfl, Below.chain hB3 hb4⟩
  · have hC0 := unhide HCZ (unhide HE)
    rw [hC0] at CLO
    have e0 : B - ((0 : Nat) : Int) = B := by omega
    rw [e0] at CLO
    clear hC0 e0 HCZ CON CLN
    go_wp2_with fail
    refine (unhide COO _ N w2 (hr0.below hB2) r2 HE).mono ?_
    rintro e w3 ⟨v3, rfl, k3, hb3⟩
    have hB3 := Below.chain hB2 hb3
    have r3 := r2.below hb3
    obtain ⟨p3, q3, rfl, r3'⟩ := k3.row
    rw [unhide HZL]
    go_wp2_with fail
    refine (unhide CLO _ N w3 (hr0.below hB3) r3 HE).mono ?_
    rintro e w4 ⟨rfl, hb4⟩
    have hB4 := Below.chain hB3 hb4
    have r4 := r3'.below hb4
    have hBB : (B == B) = true := by simp
    have hNN : ((N : Int) == (N : Int)) = true := by simp
    clear r3 r3' k3 hb3 hb4 r2
    go_wp2
    go_loopw [10] (fun i wr => ∃ j : Nat, j ≤ N ∧ i = .int .i64 j ∧ w4 = wr) (fun i _ => N - (intOf i).toNat)
    case atStart => exact ⟨0, Nat.zero_le _, rfl, rfl⟩
    case round =>
      obtain ⟨j, hj, rfl, rfl⟩ := hrel
      by_cases hlt : j < N
      · obtain ⟨b1, off1, rfl, _, hc1⟩ := r4.at (k := j) (by rw [unhide HZL]; exact hlt)
        have c1 := hc1 j (by rw [unhide HZL]; exact hlt)
        have e1 : zl.getD j 0 = 0 := by
          have h := unhide HZA j hlt
          rw [List.getD_eq_getElem?_getD]; exact h
        rw [e1] at c1
        clear hc1 e1
        go_wp2
        go_roundw
        case rel => exact ⟨j + 1, by omega, by go_num, by first | trivial | rfl⟩
        case measure => simp [intOf]; omega
      · obtain rfl : j = N := by omega
        go_wp2
        go_ret
        exact ⟨rfl, hB4⟩

set_option maxRecDepth 100000 in
theorem lifted (os : Os) (started : os.Started) (H : Type) (enc : TypeId × Value → H) :
    ReturnsInHanded {} Try.checked os 4 .any (Rows.shareSilentSpec.pre6 enc Try.prog Try.f4 Rows.shareSilentRow.domain false) (Rows.shareSilentSpec.post enc Try.prog Try.f4 false true false false) := by
  refine returnsInHanded_of_change_sized (C := Try.checked) own started (by kernel_rfl) Try.func4
    (ChangeSpec.witness6 (enc := enc) (C := Try.checked) false ⟨#[], #[.slice none 0 0, .int .i64 0], []⟩ 8 (by kernel_rfl) (by kernel_rfl) (by kernel_rfl) (by kernel_rfl)) ?_
  intro W base args ds gs before hval0 hW hcnd hsz0 _
  have hsz : (DataW.weightsEach Try.prog (Try.f4.params.toList ++ Rows.shareSilentSpec.plain.varTypes Try.prog) (ds ++ gs)).all (· ≤ reachBytes) = true := hsz0
  have hval : ∀ (j : Nat) t v, Try.f4.params[j]? = some t → args[j]? = some v → Value.okWide Try.prog W .any base t v := hval0
  have hW' := hW
  obtain ⟨p, q, hA0, hV, rfl, hfz, hnd⟩ := hW
  have hA : DataW.TrodAll enc Try.prog W 0 (fun _ => true) true Try.f4.params.toList args.toList ds p := hA0
  rw [Try.params4] at hA hval hsz
  obtain ⟨v0, vs0, d0, ds0, p0, q0, hargs, rfl, rfl, h0, r0⟩ := trodAll_cons hA
  obtain ⟨v1, vs1, d1, ds1, p1, q1, rfl, rfl, rfl, h1, r1⟩ := trodAll_cons r0
  obtain ⟨rfl, rfl, rfl⟩ := trodAll_nil r1
  obtain rfl : args = #[v0, v1] := by cases args; simp_all
  obtain ⟨rfl, rfl⟩ := trodVars_none hV
  obtain ⟨a0, len0, cap0, rfl⟩ := okWide_slice Try.underlying22 (hval 0 22 v0 rfl rfl)
  have k0 := h0
  have lt0 : ∀ x ∈ p0, x.block < W.heap.size := by obtain ⟨m, hm⟩ := k0; exact DataW.trod_lt m _ _ _ hm
  obtain ⟨l0, hlen0, hr0, hw0, hz0⟩ := open_row h0 (fun e s hd => sized_slice hsz (j := 0) (t := 22) (e := 3) rfl (by rw [hd]; rfl) Try.underlying22)
  subst hlen0
  obtain ⟨n1, rfl, rfl, rfl, hw1⟩ := open_int Try.underlying3 (hval 1 3 v1 rfl rfl) h1
  clear hA0 hval0 hsz0
  refine (walk a0 cap0 l0 n1 W hr0 hw0 hz0 hw1).mono fun e W' ⟨he, bel⟩ => ?_
  subst he
  exact ⟨_, rfl, _, _, _, [], _, [], hW', trodAll_mk1 (shut_bool Try.underlying4 _), (trodAll_cons_mk (Below.trod laidOut (by kernel_rfl) (of_decide_eq_true (by kernel_rfl)) k0 bel lt0) (trodAll_cons_mk (shut_int Try.underlying3 hw1) trodAll_mk0)), rfl, bel.frame _, fun h => by cases h⟩
end Go.Proofs.Ytlklnjaihbjfiah.ShareSilentLaw
namespace Go.Proofs.Ytlklnjaihbjfiah
open Go.ChangeShapes Go.WideShapes Go.ChangeAt Go.RowKit

theorem shareSilent_holds : Rows.ShareSilentSaid :=
  OpenClaim.holds_of_wide 4 Try.f4 rfl rfl rfl rfl rfl rfl rfl ⟨rfl, rfl, rfl, rfl, rfl⟩ rfl rfl rfl rfl rfl (by kernel_rfl) Try.func4 (by kernel_rfl)
    (of_decide_eq_true (by kernel_rfl)) (by unfold Func.isWrapper; first | (rw [if_pos (by decide +kernel)]; kernel_rfl) | (rw [if_neg (by decide +kernel)]; exact ⟨rfl, rfl⟩))
    (fun os started H enc _ => ShareSilentLaw.lifted os started H enc)
end Go.Proofs.Ytlklnjaihbjfiah
