/-
  It is proved that hornlaw1.ScaleWhole returns true for all counts and every place: shares are all together Total, each that was counted has one, and none that was not; each place belongs to one, who starts there or ahead. No condition but the form's own reach.
-/
import Derived.Test.YtmnidaieoemahafScaleOf
import Derived.Test.YtmnidaieoemahafScaleFind
import Derived.Test.YtmnidaieoemahafFrame
namespace Go.Proofs.Ytmnidaieoemahaf.ScaleWholeLaw
open Go.ChangeShapes Go.WideShapes Go.ChangeAt Go.RowKit
open Go.Proofs.Ytmnidaieoemahaf.Tre Go.Proofs.Ytmnidaieoemahaf.Scl
set_option linter.unusedVariables false

theorem row_three (w : World) (x y z : Int) (t : TypeId) : Row (w.alloc (.cells #[.int .i64 x, .int .i64 y, .int .i64 z] t)) (some ⟨w.heap.size, 0, none⟩) [x, y, z] := by
  refine Or.inr ⟨w.heap.size, 0, rfl, by simp, fun j hj => ?_⟩
  have hj' : j = 0 ∨ j = 1 ∨ j = 2 := by simp at hj; omega
  rcases hj' with rfl | rfl | rfl <;> (rw [World.cell?_alloc_at _ _ _ _ rfl]; rfl)
theorem fact1 : cf [1, 0, 3] = 0 := by decide
theorem fact2 : scale [1, 0, 3] = [64, 0, 192] := by decide
theorem fact (w : World) : Calls Try.prog 4 #[.slice (some ⟨w.heap.size, 0, none⟩) 3 3] (w.alloc (.cells #[.int .i64 1, .int .i64 0, .int .i64 3] 3)) fun e w' => ∃ g c, e = .returned (.tuple #[.slice (some ⟨g, 0, none⟩) 3 c, .nilIface]) ∧
    w'.cell? ⟨g, 0, none⟩ = some (.int .i64 64) ∧ w'.cell? ⟨g, 1, none⟩ = some (.int .i64 0) ∧ w'.cell? ⟨g, 2, none⟩ = some (.int .i64 192) ∧ 3 ≤ c ∧ c ≤ 9223372036854775807 ∧ Below w.heap.size w w' := by
  have hb : Below w.heap.size w (w.alloc (.cells #[.int .i64 1, .int .i64 0, .int .i64 3] 3)) := (Below.refl _ _).alloc (Nat.le_refl _) _
  refine (of_ok (some ⟨w.heap.size, 0, none⟩) 3 [1, 0, 3] _ (row_three w 1 0 3 3) (hide fact1)).mono fun e w' ⟨v, he, h, hb'⟩ => ?_
  rw [fact2] at h
  obtain ⟨g, c, rfl, h0, h1, h2, h3⟩ := h.one (by simp)
  exact ⟨g, c, he, h.get (j := 0) (by simp), h.get (j := 1) (by simp), h.get (j := 2) (by simp), h2, h3, Below.chain hb hb'⟩

set_option maxRecDepth 100000 in
set_option maxHeartbeats 8000000 in
theorem walk (a0 : Option Addr) (cap0 : Nat) (c : List Int) (p : Int) (w : World) (hr0 : Row w a0 c) (hw0 : ∀ n ∈ c, (Lit.int .i64 n).wf = true) (hz0 : c.length * 8 ≤ 140737488351232) (hwp : (Lit.int .i64 p).wf = true) :
    Calls Try.prog 3 #[.slice a0 c.length cap0, .int .i64 p] w fun e w' => e = .returned (.bool true) ∧ Below w.heap.size w w' := by
  have z0 : c.length ≤ 9223372036854775807 := by omega
  clear hw0 hz0
  go_enter Try.func3, Try.ntmps3
  go_wp2_with fail
  refine (fact w).mono ?_
  rintro e w1 ⟨g1, q1, rfl, d0, d1, d2, d3, d4, hb1⟩
  have hr1 := hr0.below hb1
  by_cases hcf : cf c = 0
  · obtain ⟨s1, s2, s3, s4⟩ := scale_is hcf
    obtain ⟨f1, f2, f3, f4⟩ := cf_ok hcf
    have hof := of_ok a0 cap0 c w1 hr1 (hide hcf)
    obtain ⟨F, hF⟩ : ∃ F, scale c = F := ⟨_, rfl⟩
    rw [hF] at s1 s2 s3 s4 hof
    obtain ⟨N, hN⟩ : ∃ N, c.length = N := ⟨_, rfl⟩
    have HN := hide hN
    rw [hN] at s1 s3 s4 f1 f2 hof ⊢
    have HRT : Hid (Scl.right F) := hide ⟨by omega, by omega, fun i hi => s3 i (by omega), s2⟩
    have HP := hide (right_pfx (unhide HRT))
    have HF1 := hide s1
    have HF3 := hide s3
    have HF4 := hide s4
    have HFT : Hid (pfx F N = 256) := hide (by rw [← s1]; exact s2)
    have hNN : ((N : Int) != (N : Int)) = false := by simp
    clear hF hN s1 s2 s3 s4 f3 f4 hcf z0
    go_wp2_with fail
    refine hof.mono ?_
    clear hof d0 d1 d2 d3 d4
    rintro e w2 ⟨v, rfl, hv, hb2⟩
    have hB2 := Below.chain hb1 hb2
    have hvs := hv.mono hb1.size
    obtain ⟨g, cc, rfl, hg0, hg1, hcc, hc9⟩ := hvs.one (by rw [unhide HF1]; exact f1)
    rw [unhide HF1] at hvs hcc ⊢
    clear hr1 hv hb1 hb2
    go_wp2
    go_loopw [9, 10] (fun t i wr => ∃ (j : Nat) (T : Int), j ≤ N ∧ i = .int .i64 j ∧ t = .int .i64 T ∧ Hid (pfx F j = T) ∧ Has wr w.heap.size (.slice (some ⟨g, 0, none⟩) N cc) F ∧ Below w.heap.size w wr) (fun _ i _ => N - (intOf i).toNat)
    case atStart => exact ⟨0, 0, Nat.zero_le _, rfl, rfl, hide rfl, hvs, hB2⟩
    case round =>
      obtain ⟨j, T, hj, rfl, rfl, HT, hv, hB⟩ := hrel
      clear hvs hB2
      by_cases hlt : j < N
      · have hlt' : j < c.length := by rw [unhide HN]; exact hlt
        obtain ⟨b, off, rfl, hb, hc⟩ := cell_at (hr0.below hB) (by omega)
        have c1 := hc j hlt'
        have c2 := hv.get (j := j) (by rw [unhide HF1]; exact hlt)
        have h3 := unhide HF3 j hlt
        have h4 := unhide HF4 j hlt
        have h5 := unhide HP (j + 1) (by rw [unhide HF1]; exact hlt)
        have HS : Hid (pfx F (j + 1) = T + at0 F j) := hide (by rw [pfx, unhide HT])
        have h6 := unhide HP j (by rw [unhide HF1]; exact hj)
        rw [unhide HS] at h5
        rw [unhide HT] at h6
        obtain ⟨X, hX⟩ : ∃ X, at0 F j = X := ⟨_, rfl⟩
        obtain ⟨C, hC⟩ : ∃ C, at0 c j = C := ⟨_, rfl⟩
        rw [hX] at c2 h3 h4 h5 HS
        rw [hC] at c1 h4
        have hw : IntKind.i64.wrap (T + X) = T + X := IntWalk.i64_in _ (by omega)
        have hd0 : decide (X < 0) = false := by simp; omega
        clear hX hC hc hlt'
        by_cases hp : 0 < X
        · have e1 : decide (0 < X) = true := by simpa using hp
          have e2 : decide (0 < C) = true := by simpa using h4.1 hp
          clear h4
          go_wp2
          go_quiet (fail)
          go_wp2
          go_roundw
          case rel => exact ⟨j + 1, T + X, by omega, by go_num, by first | rfl | go_num, HS, hv, hB.trans ⟨rfl, rfl, rfl, Nat.le_refl _, fun _ _ => rfl⟩⟩
          case measure => simp [intOf]; omega
        · have e1 : decide (0 < X) = false := by simpa using hp
          have e2 : decide (0 < C) = false := by simp; rcases Int.lt_or_le 0 C with e | e; exact absurd (h4.2 e) hp; exact e
          clear h4
          go_wp2
          go_quiet (fail)
          go_wp2
          go_roundw
          case rel => exact ⟨j + 1, T + X, by omega, by go_num, by first | rfl | go_num, HS, hv, hB.trans ⟨rfl, rfl, rfl, Nat.le_refl _, fun _ _ => rfl⟩⟩
          case measure => simp [intOf]; omega
      · obtain rfl : j = N := by omega
        obtain rfl : T = 256 := by rw [← unhide HT]; exact unhide HFT
        have hst := starts_ok (some ⟨g, 0, none⟩) cc F wr (hv.inRow rfl).2 HRT
        rw [unhide HF1] at hst
        go_wp2_with fail
        refine hst.mono ?_
        clear hst
        rintro e w3 ⟨v3, rfl, k3, hb3⟩
        have hB3 := Below.chain hB hb3
        have hv3 := hv.below hb3
        obtain ⟨g3, c3, rfl, hg30, hg31, hcc3, hc93⟩ := k3.one (by rw [upto_length]; exact f1)
        rw [upto_length] at hcc3 k3 ⊢
        clear hB hv hb3
        have hpw : p < 0 ∨ (0 ≤ p ∧ 256 ≤ p) ∨ (0 ≤ p ∧ p ≤ 255) := by omega
        rcases hpw with hp | ⟨hp, hp'⟩ | ⟨hp, hp'⟩
        · have hfr := find_range (some ⟨g, 0, none⟩) cc F p w3 (hv3.inRow rfl).2 HRT (Or.inl hp)
          rw [unhide HF1] at hfr
          have e1 : decide (p < 0) = true := by simpa using hp
          go_wp2_with fail
          refine hfr.mono ?_
          clear hfr
          rintro e w4 ⟨rfl, hb4⟩
          go_wp2
          go_ret
          exact ⟨rfl, Below.chain hB3 hb4⟩
        · have hfr := find_range (some ⟨g, 0, none⟩) cc F p w3 (hv3.inRow rfl).2 HRT (Or.inr ⟨hp, hp'⟩)
          rw [unhide HF1] at hfr
          have e1 : decide (p < 0) = false := by simp; omega
          have e2 : decide (255 < p) = true := by simp; omega
          go_wp2_with fail
          refine hfr.mono ?_
          clear hfr
          rintro e w4 ⟨rfl, hb4⟩
          go_wp2
          go_ret
          exact ⟨by first | rfl | rw [e2], Below.chain hB3 hb4⟩
        · obtain ⟨k, hk⟩ := is_at (f := F) hp (by rw [(unhide HRT).2.2.2]; omega)
          have hfo := find_ok (some ⟨g, 0, none⟩) cc F p k w3 (hv3.inRow rfl).2 HRT hp hp' (hide hk)
          rw [unhide HF1] at hfo
          obtain ⟨k1, k2, k4⟩ := hk
          have h5 := unhide HP (k + 1) k1
          have h6 := unhide HP k (by omega)
          rw [pfx] at h5
          rw [unhide HF1] at k1
          go_wp2_with fail
          refine hfo.mono ?_
          clear hfo
          rintro e w4 ⟨rfl, hb4⟩
          have hB4 := Below.chain hB3 hb4
          have C1 := (hv3.below hb4).get (j := k) (by rw [unhide HF1]; exact k1)
          have C2 := (k3.below hb4).get (j := k) (by rw [upto_length]; exact k1)
          rw [upto_at _ k1] at C2
          obtain ⟨X, hX⟩ : ∃ X, at0 F k = X := ⟨_, rfl⟩
          obtain ⟨S, hS⟩ : ∃ S, pfx F k = S := ⟨_, rfl⟩
          rw [hX] at C1 h5 k4
          rw [hS] at C2 h5 h6 k2 k4
          have hw : IntKind.i64.wrap (S + X) = S + X := IntWalk.i64_in _ (by omega)
          have e1 : decide ((0 : Int) ≤ (k : Int)) = true := by simp
          have e2 : decide ((k : Int) < (j : Int)) = true := by simp; omega
          have e2' : decide (k < j) = true := by simp; omega
          have e3 : decide (S ≤ p) = true := by simpa using k2
          have e4 : decide (p < S + X) = true := by simpa using k4
          clear hX hS hv3 k3 hB3 hb4
          go_wp2
          go_quiet (fail)
          go_wp2
          go_ret
          exact ⟨rfl, hB4.trans ⟨rfl, rfl, rfl, Nat.le_refl _, fun _ _ => rfl⟩⟩
  · have hno := of_no a0 cap0 c w1 z0 hr1 (hide hcf)
    obtain ⟨N, hN⟩ : ∃ N, c.length = N := ⟨_, rfl⟩
    obtain ⟨E, hE⟩ : ∃ E, cf c = E := ⟨_, rfl⟩
    rw [hN] at hno ⊢
    rw [hE] at hno
    clear hN hE hcf hr1 hr0 z0
    go_wp2_with fail
    refine hno.mono ?_
    clear hno
    rintro e w2 ⟨rfl, hb2⟩
    go_wp2
    go_ret
    exact ⟨rfl, Below.chain hb1 hb2⟩

set_option maxRecDepth 100000 in
theorem lifted (os : Os) (started : os.Started) (H : Type) (enc : TypeId × Value → H) :
    ReturnsInHanded {} Try.checked os 3 .any (Rows.scaleWholeSpec.pre6 enc Try.prog Try.f3 Rows.scaleWholeRow.domain false) (Rows.scaleWholeSpec.post enc Try.prog Try.f3 false true false false) := by
  refine returnsInHanded_of_change_sized (C := Try.checked) own started (by kernel_rfl) Try.func3
    (ChangeSpec.witness6 (enc := enc) (C := Try.checked) false ⟨#[], #[.slice none 0 0, .int .i64 0], []⟩ 8 (by kernel_rfl) (by kernel_rfl) (by kernel_rfl) (by kernel_rfl)) ?_
  intro W base args ds gs before hval0 hW hcnd hsz0 _
  have hsz : (DataW.weightsEach Try.prog (Try.f3.params.toList ++ Rows.scaleWholeSpec.plain.varTypes Try.prog) (ds ++ gs)).all (· ≤ reachBytes) = true := hsz0
  have hval : ∀ (j : Nat) t v, Try.f3.params[j]? = some t → args[j]? = some v → Value.okWide Try.prog W .any base t v := hval0
  have hW' := hW
  obtain ⟨p, q, hA0, hV, rfl, hfz, hnd⟩ := hW
  have hA : DataW.TrodAll enc Try.prog W 0 (fun _ => true) true Try.f3.params.toList args.toList ds p := hA0
  rw [Try.params3] at hA hval hsz
  obtain ⟨v0, vs0, d0, ds0, p0, q0, hargs, rfl, rfl, h0, r0⟩ := trodAll_cons hA
  obtain ⟨v1, vs1, d1, ds1, p1, q1, rfl, rfl, rfl, h1, r1⟩ := trodAll_cons r0
  obtain ⟨rfl, rfl, rfl⟩ := trodAll_nil r1
  obtain rfl : args = #[v0, v1] := by cases args; simp_all
  obtain ⟨rfl, rfl⟩ := trodVars_none hV
  obtain ⟨a0, len0, cap0, rfl⟩ := okWide_slice Try.underlying22 (hval 0 22 v0 rfl rfl)
  have k0 := h0
  have lt0 : ∀ x ∈ p0, x.block < W.heap.size := by obtain ⟨m, hm⟩ := k0; exact DataW.trod_lt m _ _ _ hm
  obtain ⟨l0, hlen0, hr0, hw0, hz0⟩ := open_row h0 (fun e s hd => sized_slice hsz (j := 0) (t := 22) (e := 3) rfl (by rw [hd]; rfl) Try.underlying22)
  subst hlen0
  obtain ⟨n1, rfl, rfl, rfl, hw1⟩ := open_int Try.underlying3 (hval 1 3 v1 rfl rfl) h1
  clear hA0 hval0 hsz0
  refine (walk a0 cap0 l0 n1 W hr0 hw0 hz0 hw1).mono fun e W' ⟨he, bel⟩ => ?_
  subst he
  exact ⟨_, rfl, _, _, _, [], _, [], hW', trodAll_mk1 (shut_bool Try.underlying4 _), (trodAll_cons_mk (Below.trod laidOut (by kernel_rfl) (of_decide_eq_true (by kernel_rfl)) k0 bel lt0) (trodAll_cons_mk (shut_int Try.underlying3 hw1) trodAll_mk0)), rfl, bel.frame _, fun h => by cases h⟩
end Go.Proofs.Ytmnidaieoemahaf.ScaleWholeLaw
namespace Go.Proofs.Ytmnidaieoemahaf
open Go.ChangeShapes Go.WideShapes Go.ChangeAt Go.RowKit

theorem scaleWhole_holds : Rows.ScaleWholeSaid :=
  OpenClaim.holds_of_wide 3 Try.f3 rfl rfl rfl rfl rfl rfl rfl ⟨rfl, rfl, rfl, rfl, rfl⟩ rfl rfl rfl rfl rfl (by kernel_rfl) Try.func3 (by kernel_rfl)
    (of_decide_eq_true (by kernel_rfl)) (by unfold Func.isWrapper; first | (rw [if_pos (by decide +kernel)]; kernel_rfl) | (rw [if_neg (by decide +kernel)]; exact ⟨rfl, rfl⟩))
    (fun os started H enc _ => ScaleWholeLaw.lifted os started H enc)
end Go.Proofs.Ytmnidaieoemahaf
