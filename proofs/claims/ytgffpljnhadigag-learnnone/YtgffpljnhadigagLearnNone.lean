/-
  It is proved that hornlaw4.LearnNone returns true for every number: what taught nothing has all alike: without a row each sign counts once. No condition but the form's own reach.
-/
import Derived.Test.YtgffpljnhadigagLearnFaces
import Derived.Test.YtgffpljnhadigagAlikeMath
import Derived.Test.YtgffpljnhadigagPlain
import Derived.Deep.QuietTactic
import Derived.BigQuiet
namespace Go.Proofs.Ytgffpljnhadigag.LearnNoneLaw
open Go.ChangeShapes Go.WideShapes Go.ChangeAt Go.RowKit
open Go.Proofs.Ytgffpljnhadigag.Tre Go.Proofs.Ytgffpljnhadigag.Scl Go.Proofs.Ytgffpljnhadigag.Hrn Go.Proofs.Ytgffpljnhadigag.Lrn Go.Proofs.Ytgffpljnhadigag.ScaleAlikeLaw
set_option linter.unusedVariables false

theorem none_way (n : Int) : (n < 1 ∧ rows [] n = 1) ∨ (1 ≤ n ∧ 40 < n ∧ rows [] n = 1) ∨ (∃ m : Nat, n = m ∧ 1 ≤ m ∧ m ≤ 40 ∧ rows [] m = 0) := by
  by_cases h1 : n < 1
  · exact Or.inl ⟨h1, by unfold rows; rw [if_pos (Or.inl h1)]⟩
  · by_cases h2 : 40 < n
    · exact Or.inr (Or.inl ⟨by omega, h2, by unfold rows; rw [if_pos (Or.inr h2)]⟩)
    · refine Or.inr (Or.inr ⟨n.toNat, by omega, by omega, by omega, rows_ok (by omega) (by omega) (by simp) (fun l hl => by simp at hl)⟩)
/-- Of all alike the last one has a whole part. -/
theorem last_is {m : Nat} (h1 : 1 ≤ m) (h2 : m ≤ 40) : at0 (scale (cts [] m)) (m - 1) = 256 / (m : Int) := by
  obtain ⟨k, rfl⟩ : ∃ k, m = k + 1 := ⟨m - 1, by omega⟩
  have e : cts [] (k + 1) = List.replicate (k + 1) 1 := by
    rw [cts_nil]
    refine eq_of_at (by rw [upto_length, List.length_replicate]) fun i hi => ?_
    rw [upto_length] at hi
    rw [upto_at _ hi]
    simp [at0, hi]
  obtain ⟨a1, _⟩ := alike (e := 1) (m := k) (q := 256 / ((k + 1 : Nat) : Int)) (by omega) h2 rfl
  rw [e, a1, Nat.add_sub_cancel, al_at _ _ (by omega)]
  by_cases h : k = 0
  · subst h; rfl
  · rw [if_neg h]

set_option maxRecDepth 100000 in
set_option maxHeartbeats 4000000 in
theorem walk (n : Int) (w : World) (hwn : (Lit.int .i64 n).wf = true) :
    Calls Try.prog 4 #[.int .i64 n] w fun e w' => e = .returned (.bool true) ∧ Below w.heap.size w w' := by
  rcases none_way n with ⟨h1, h2⟩ | ⟨h0, h1, h2⟩ | ⟨m, rfl, h1, h2, h3⟩
  · have hc := count_no none 0 [] n 1 w (Or.inl rfl) (by simp) h2 (hide (by omega))
    rw [List.length_nil] at hc
    have d1 : decide (n < 1) = true := by simpa using h1
    clear h2
    go_enter Try.func4, Try.ntmps4
    go_wp2_with fail
    refine hc.mono ?_
    rintro e w1 ⟨rfl, hb1⟩
    go_wp2
    go_ret
    exact ⟨rfl, hb1⟩
  · have hc := count_no none 0 [] n 1 w (Or.inl rfl) (by simp) h2 (hide (by omega))
    rw [List.length_nil] at hc
    have d1 : decide (n < 1) = false := by simp; omega
    have d2 : decide (40 < n) = true := by simpa using h1
    clear h2
    go_enter Try.func4, Try.ntmps4
    go_wp2_with fail
    refine hc.mono ?_
    rintro e w1 ⟨rfl, hb1⟩
    go_wp2
    go_ret
    exact ⟨rfl, hb1⟩
  · have hc := count_ok none 0 [] m w (Or.inl rfl) h3
    have hs := hide (fun W => shares_ok none 0 [] m W (Or.inl rfl) h3)
    rw [List.length_nil] at hc hs
    have HLA := hide (last_is h1 h2)
    have HSL := hide (learnt h3).2.1
    obtain ⟨f, hf⟩ : ∃ f, scale (cts [] m) = f := ⟨_, rfl⟩
    rw [hf] at hs HLA HSL
    have HC1 : Hid (∀ i, i < m → at0 (cts [] m) i = 1) := hide (fun i hi => by rw [cts_at [] hi, tms_nil]; rfl)
    have HCL := hide (cts_length [] m)
    obtain ⟨c, hcc⟩ : ∃ c, cts [] m = c := ⟨_, rfl⟩
    rw [hcc] at hc HC1 HCL
    have hmm : ((m : Int) == (m : Int)) = true := by simp
    clear hf hcc h3
    go_enter Try.func4, Try.ntmps4
    go_wp2_with fail
    refine hc.mono ?_
    clear hc
    rintro e w1 ⟨v1, rfl, k1, hb1⟩
    obtain ⟨g1, c1, rfl, hg1, hg2, hc1, hc2⟩ := k1.one (by rw [unhide HCL]; exact h1)
    rw [unhide HCL] at k1 hc1 ⊢
    go_wp2
    go_loopw [5] (fun i wr => ∃ j : Nat, j ≤ m ∧ i = .int .i64 j ∧ w1 = wr) (fun i _ => m - (intOf i).toNat)
    case atStart => exact ⟨0, Nat.zero_le _, rfl, rfl⟩
    case round =>
      obtain ⟨j, hj, rfl, rfl⟩ := hrel
      by_cases hlt : j < m
      · have cj := k1.get (j := j) (by rw [unhide HCL]; exact hlt)
        rw [unhide HC1 j hlt] at cj
        go_wp2
        go_roundw
        case rel => exact ⟨j + 1, by omega, by go_num, by first | trivial | rfl⟩
        case measure => simp [intOf]; omega
      · obtain rfl : j = m := by omega
        go_wp2_with fail
        refine (unhide hs w1).mono ?_
        rintro e w2 ⟨v2, rfl, k2, hb2⟩
        obtain ⟨g2, c2, rfl, hg3, hg4, hc3, hc4⟩ := k2.one (by rw [unhide HSL]; exact h1)
        have cl := k2.get (j := j - 1) (by rw [unhide HSL]; omega)
        rw [unhide HLA] at cl
        rw [unhide HSL] at hc3 ⊢
        have hB := Below.chain hb1 hb2
        obtain ⟨p, hp⟩ : ∃ p, j - 1 = p := ⟨_, rfl⟩
        rw [hp] at cl
        have hpj : p < j := by omega
        have wp' : IntKind.i64.wrap ((j : Int) - 1) = (p : Int) := (IntWalk.i64_in _ (by omega)).trans (by omega)
        have hj0 : ((j : Int) == 0) = false := by rw [beq_eq_false_iff_ne]; omega
        obtain ⟨q, hq⟩ : ∃ q, 256 / (j : Int) = q := ⟨_, rfl⟩
        have tq : Int.tdiv 256 (j : Int) = q := by rw [Int.tdiv_eq_ediv_of_nonneg (by omega)]; exact hq
        rw [hq] at cl
        have q0 : 0 ≤ q := by rw [← hq]; exact Int.ediv_nonneg (by omega) (by omega)
        have q9 : q ≤ 256 := by rw [← hq]; exact Int.ediv_le_self _ (by omega)
        have hqq : (q == q) = true := by simp
        clear hq hp
        go_wp2
        go_quiet (fail)
        go_wp2
        go_ret
        exact ⟨rfl, hB.trans ⟨rfl, rfl, rfl, Nat.le_refl _, fun _ _ => rfl⟩⟩

set_option maxRecDepth 100000 in
theorem lifted (os : Os) (started : os.Started) (H : Type) (enc : TypeId × Value → H) :
    ReturnsInHanded {} Try.checked os 4 .any (Rows.learnNoneSpec.pre6 enc Try.prog Try.f4 Rows.learnNoneRow.domain false) (Rows.learnNoneSpec.post enc Try.prog Try.f4 false true false false) := by
  refine returnsInHanded_of_change_sized (C := Try.checked) own started (by kernel_rfl) Try.func4
    (ChangeSpec.witness6 (enc := enc) (C := Try.checked) false ⟨#[], #[.int .i64 0], []⟩ 8 (by kernel_rfl) (by kernel_rfl) (by kernel_rfl) (by kernel_rfl)) ?_
  intro W base args ds gs before hval0 hW hcnd hsz0 _
  have hsz : (DataW.weightsEach Try.prog (Try.f4.params.toList ++ Rows.learnNoneSpec.plain.varTypes Try.prog) (ds ++ gs)).all (· ≤ reachBytes) = true := hsz0
  have hval : ∀ (j : Nat) t v, Try.f4.params[j]? = some t → args[j]? = some v → Value.okWide Try.prog W .any base t v := hval0
  have hW' := hW
  obtain ⟨p, q, hA0, hV, rfl, hfz, hnd⟩ := hW
  have hA : DataW.TrodAll enc Try.prog W 0 (fun _ => true) true Try.f4.params.toList args.toList ds p := hA0
  rw [Try.params4] at hA hval hsz
  obtain ⟨v0, vs0, d0, ds0, p0, q0, hargs, rfl, rfl, h0, r0⟩ := trodAll_cons hA
  obtain ⟨rfl, rfl, rfl⟩ := trodAll_nil r0
  obtain rfl : args = #[v0] := by cases args; simp_all
  obtain ⟨rfl, rfl⟩ := trodVars_none hV
  obtain ⟨n0, rfl, rfl, rfl, hw0⟩ := open_int Try.underlying3 (hval 0 3 v0 rfl rfl) h0
  clear hA0 hval0 hsz0
  refine (walk n0 W hw0).mono fun e W' ⟨he, bel⟩ => ?_
  subst he
  exact ⟨_, rfl, _, _, _, [], _, [], hW', trodAll_mk1 (shut_bool Try.underlying4 _), (trodAll_cons_mk (shut_int Try.underlying3 hw0) trodAll_mk0), rfl, bel.frame _, fun h => by cases h⟩
end Go.Proofs.Ytgffpljnhadigag.LearnNoneLaw
namespace Go.Proofs.Ytgffpljnhadigag
open Go.ChangeShapes Go.WideShapes Go.ChangeAt Go.RowKit

theorem learnNone_holds : Rows.LearnNoneSaid :=
  OpenClaim.holds_of_wide 4 Try.f4 rfl rfl rfl rfl rfl rfl rfl ⟨rfl, rfl, rfl, rfl, rfl⟩ rfl rfl rfl rfl rfl (by kernel_rfl) Try.func4 (by kernel_rfl)
    (of_decide_eq_true (by kernel_rfl)) (by unfold Func.isWrapper; first | (rw [if_pos (by decide +kernel)]; kernel_rfl) | (rw [if_neg (by decide +kernel)]; exact ⟨rfl, rfl⟩))
    (fun os started H enc _ => LearnNoneLaw.lifted os started H enc)
end Go.Proofs.Ytgffpljnhadigag
