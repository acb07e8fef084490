/-
  It is proved that hornlaw1.PairBack returns true for every two numbers: two that went there come back, and two that came back go there. No condition.
-/
import Derived.Test.YtmgecnpefcnonaaPairTwo
import Derived.Test.YtmgecnpefcnonaaPlain
namespace Go.Proofs.Ytmgecnpefcnonaa.PairBackLaw
open Go.ChangeShapes Go.WideShapes Go.ChangeAt Go.RowKit
open Go.Proofs.Ytmgecnpefcnonaa.Par
set_option linter.unusedVariables false

def rfar (n : Int) : Int := if n < 0 then -n else n
theorem refFar (n : Int) (w : World) (h0 : -1000000 ≤ n) (h1 : n ≤ 1000000) :
    Calls Try.prog 16 #[.int .i64 n] w fun e w' => e = .returned (.int .i64 (rfar n)) ∧ w' = w := by
  go_enter Try.func16, Try.ntmps16
  go_wp2
  all_goals (go_ret; exact ⟨ret_int (by unfold rfar; split <;> omega), rfl⟩)

theorem out_yes {n b : Int} (h : ¬(-b ≤ n ∧ n ≤ b)) : out n b = true := by
  cases hh : out n b
  · exact absurd (out_in hh) h
  · rfl
theorem both_out {a b m : Int} (h : ¬(-m ≤ a ∧ a ≤ m ∧ -m ≤ b ∧ b ≤ m)) : (out a m || out b m) = true := by
  by_cases h1 : -m ≤ a ∧ a ≤ m
  · rw [out_yes (n := b) (by omega)]; simp
  · rw [out_yes h1]; rfl
theorem rfar_far {n : Int} (h : ¬(-2000 ≤ n ∧ n ≤ 2000)) : decide (2000 < rfar n) = true := by
  rw [decide_eq_true_eq]; unfold rfar; split <;> omega
theorem rfar_near {n : Int} (h : -2000 ≤ n ∧ n ≤ 2000) : decide (2000 < rfar n) = false := by
  rw [decide_eq_false_iff_not]; unfold rfar; split <;> omega

theorem fact (w : World) : Calls Try.prog 14 #[.int .i64 4, .int .i64 7] w fun e w' => e = .returned (.tuple #[.int .i64 5, .int .i64 (-3), .nilIface]) ∧ w' = w :=
  fwd_ok 4 7 w (by omega) (by omega) (by omega) (by omega)

theorem there (a b : Int) (w : World) (h0 : -2000 ≤ a) (h1 : a ≤ 2000) (h2 : -2000 ≤ b) (h3 : b ≤ 2000) :
    Calls Try.prog 15 #[.int .i64 ((a + b) / 2), .int .i64 (a - b)] w fun e w' => e = .returned (.tuple #[.int .i64 a, .int .i64 b, .nilIface]) ∧ w' = w := by
  have h := inv_ok ((a + b) / 2) (a - b) w (by omega) (by omega) (by omega) (by omega)
  rw [show (a + b) / 2 + (a - b + 1) / 2 = a by omega, show a - (a - b) = b by omega] at h
  exact h
theorem back (a b : Int) (w : World) (h0 : -2000 ≤ a + (b + 1) / 2) (h1 : a + (b + 1) / 2 ≤ 2000) (h2 : -2000 ≤ a + (b + 1) / 2 - b) (h3 : a + (b + 1) / 2 - b ≤ 2000) :
    Calls Try.prog 14 #[.int .i64 (a + (b + 1) / 2), .int .i64 (a + (b + 1) / 2 - b)] w fun e w' => e = .returned (.tuple #[.int .i64 a, .int .i64 b, .nilIface]) ∧ w' = w := by
  have h := fwd_ok (a + (b + 1) / 2) (a + (b + 1) / 2 - b) w h0 h1 h2 h3
  rw [show (a + (b + 1) / 2 + (a + (b + 1) / 2 - b)) / 2 = a by omega, show a + (b + 1) / 2 - (a + (b + 1) / 2 - b) = b by omega] at h
  exact h

set_option maxHeartbeats 800000 in
theorem walk (a b : Int) (w : World) (hw0 : (Lit.int .i64 a).wf = true) (hw1 : (Lit.int .i64 b).wf = true) :
    Calls Try.prog 6 #[.int .i64 a, .int .i64 b] w fun e w' => e = .returned (.bool true) ∧ Below w.heap.size w w' := by
  have qa : (a == a) = true := by simp
  have qb : (b == b) = true := by simp
  by_cases h4 : -4000 ≤ a ∧ a ≤ 4000 ∧ -4000 ≤ b ∧ b ≤ 4000
  · obtain ⟨h40, h41, h42, h43⟩ := h4
    by_cases h2 : -2000 ≤ a ∧ a ≤ 2000 ∧ -2000 ≤ b ∧ b ≤ 2000
    · obtain ⟨h20, h21, h22, h23⟩ := h2
      go_enter Try.func6, Try.ntmps6
      go_wp2_with fail
      refine (fact w).mono ?_
      rintro e w1 ⟨rfl, rfl⟩
      go_wp2_with fail
      refine (fwd_ok a b _ h20 h21 h22 h23).mono ?_
      rintro e w1 ⟨rfl, rfl⟩
      go_wp2_with fail
      refine (there a b _ h20 h21 h22 h23).mono ?_
      rintro e w1 ⟨rfl, rfl⟩
      go_wp2_with fail
      refine (inv_ok a b _ h40 h41 h42 h43).mono ?_
      rintro e w1 ⟨rfl, rfl⟩
      by_cases hx : -2000 ≤ a + (b + 1) / 2 ∧ a + (b + 1) / 2 ≤ 2000 ∧ -2000 ≤ a + (b + 1) / 2 - b ∧ a + (b + 1) / 2 - b ≤ 2000
      · obtain ⟨x0, x1, x2, x3⟩ := hx
        go_wp2_with fail
        refine (back a b _ x0 x1 x2 x3).mono ?_
        rintro e w1 ⟨rfl, rfl⟩
        go_wp2
        go_ret
        exact ⟨rfl, Below.refl _ _⟩
      · have HX := hide (both_out hx)
        go_wp2_with fail
        refine (fwd_no (a + (b + 1) / 2) (a + (b + 1) / 2 - b) _ HX).mono ?_
        rintro e w1 ⟨rfl, rfl⟩
        by_cases hy : -2000 ≤ a + (b + 1) / 2 ∧ a + (b + 1) / 2 ≤ 2000
        · have f1 := rfar_near hy
          have f2 := rfar_far (n := a + (b + 1) / 2 - b) (by omega)
          clear hx hy
          go_wp2_with fail
          refine (refFar (a + (b + 1) / 2) _ (by omega) (by omega)).mono ?_
          rintro e w1 ⟨rfl, rfl⟩
          go_wp2_with fail
          refine (refFar (a + (b + 1) / 2 - b) _ (by omega) (by omega)).mono ?_
          rintro e w1 ⟨rfl, rfl⟩
          go_wp2
          go_ret
          exact ⟨rfl, Below.refl _ _⟩
        · have f1 := rfar_far hy
          clear hx hy
          go_wp2_with fail
          refine (refFar (a + (b + 1) / 2) _ (by omega) (by omega)).mono ?_
          rintro e w1 ⟨rfl, rfl⟩
          go_wp2
          go_ret
          exact ⟨rfl, Below.refl _ _⟩
    · have H2 := hide (both_out h2)
      clear h2
      go_enter Try.func6, Try.ntmps6
      go_wp2_with fail
      refine (fact w).mono ?_
      rintro e w1 ⟨rfl, rfl⟩
      go_wp2_with fail
      refine (fwd_no a b _ H2).mono ?_
      rintro e w1 ⟨rfl, rfl⟩
      go_wp2_with fail
      refine (inv_ok a b _ h40 h41 h42 h43).mono ?_
      rintro e w1 ⟨rfl, rfl⟩
      by_cases hx : -2000 ≤ a + (b + 1) / 2 ∧ a + (b + 1) / 2 ≤ 2000 ∧ -2000 ≤ a + (b + 1) / 2 - b ∧ a + (b + 1) / 2 - b ≤ 2000
      · obtain ⟨x0, x1, x2, x3⟩ := hx
        go_wp2_with fail
        refine (back a b _ x0 x1 x2 x3).mono ?_
        rintro e w1 ⟨rfl, rfl⟩
        go_wp2
        go_ret
        exact ⟨rfl, Below.refl _ _⟩
      · have HX := hide (both_out hx)
        go_wp2_with fail
        refine (fwd_no (a + (b + 1) / 2) (a + (b + 1) / 2 - b) _ HX).mono ?_
        rintro e w1 ⟨rfl, rfl⟩
        by_cases hy : -2000 ≤ a + (b + 1) / 2 ∧ a + (b + 1) / 2 ≤ 2000
        · have f1 := rfar_near hy
          have f2 := rfar_far (n := a + (b + 1) / 2 - b) (by omega)
          clear hx hy
          go_wp2_with fail
          refine (refFar (a + (b + 1) / 2) _ (by omega) (by omega)).mono ?_
          rintro e w1 ⟨rfl, rfl⟩
          go_wp2_with fail
          refine (refFar (a + (b + 1) / 2 - b) _ (by omega) (by omega)).mono ?_
          rintro e w1 ⟨rfl, rfl⟩
          go_wp2
          go_ret
          exact ⟨rfl, Below.refl _ _⟩
        · have f1 := rfar_far hy
          clear hx hy
          go_wp2_with fail
          refine (refFar (a + (b + 1) / 2) _ (by omega) (by omega)).mono ?_
          rintro e w1 ⟨rfl, rfl⟩
          go_wp2
          go_ret
          exact ⟨rfl, Below.refl _ _⟩
  · have H4 := hide (both_out h4)
    have H2 : Hid ((out a 2000 || out b 2000) = true) := hide (both_out (by omega))
    clear h4
    go_enter Try.func6, Try.ntmps6
    go_wp2_with fail
    refine (fact w).mono ?_
    rintro e w1 ⟨rfl, rfl⟩
    go_wp2_with fail
    refine (fwd_no a b _ H2).mono ?_
    rintro e w1 ⟨rfl, rfl⟩
    go_wp2_with fail
    refine (inv_no a b _ H4).mono ?_
    rintro e w1 ⟨rfl, rfl⟩
    go_wp2
    go_ret
    exact ⟨rfl, Below.refl _ _⟩

set_option maxRecDepth 100000 in
theorem lifted (os : Os) (started : os.Started) (H : Type) (enc : TypeId × Value → H) :
    ReturnsInHanded {} Try.checked os 6 .any (Rows.pairBackSpec.pre6 enc Try.prog Try.f6 Rows.pairBackRow.domain false) (Rows.pairBackSpec.post enc Try.prog Try.f6 false true false false) := by
  refine returnsInHanded_of_change_sized (C := Try.checked) own started (by kernel_rfl) Try.func6
    (ChangeSpec.witness6 (enc := enc) (C := Try.checked) false ⟨#[], #[.int .i64 0, .int .i64 0], []⟩ 8 (by kernel_rfl) (by kernel_rfl) (by kernel_rfl) (by kernel_rfl)) ?_
  intro W base args ds gs before hval0 hW hcnd hsz0 _
  have hsz : (DataW.weightsEach Try.prog (Try.f6.params.toList ++ Rows.pairBackSpec.plain.varTypes Try.prog) (ds ++ gs)).all (· ≤ reachBytes) = true := hsz0
  have hval : ∀ (j : Nat) t v, Try.f6.params[j]? = some t → args[j]? = some v → Value.okWide Try.prog W .any base t v := hval0
  have hW' := hW
  obtain ⟨p, q, hA0, hV, rfl, hfz, hnd⟩ := hW
  have hA : DataW.TrodAll enc Try.prog W 0 (fun _ => true) true Try.f6.params.toList args.toList ds p := hA0
  rw [Try.params6] at hA hval hsz
  obtain ⟨v0, vs0, d0, ds0, p0, q0, hargs, rfl, rfl, h0, r0⟩ := trodAll_cons hA
  obtain ⟨v1, vs1, d1, ds1, p1, q1, rfl, rfl, rfl, h1, r1⟩ := trodAll_cons r0
  obtain ⟨rfl, rfl, rfl⟩ := trodAll_nil r1
  obtain rfl : args = #[v0, v1] := by cases args; simp_all
  obtain ⟨rfl, rfl⟩ := trodVars_none hV
  obtain ⟨n0, rfl, rfl, rfl, hw0⟩ := open_int Try.underlying3 (hval 0 3 v0 rfl rfl) h0
  obtain ⟨n1, rfl, rfl, rfl, hw1⟩ := open_int Try.underlying3 (hval 1 3 v1 rfl rfl) h1
  clear hA0 hval0 hsz0
  refine (walk n0 n1 W hw0 hw1).mono fun e W' ⟨he, bel⟩ => ?_
  subst he
  exact ⟨_, rfl, _, _, _, [], _, [], hW', trodAll_mk1 (shut_bool Try.underlying4 _), (trodAll_cons_mk (shut_int Try.underlying3 hw0) (trodAll_cons_mk (shut_int Try.underlying3 hw1) trodAll_mk0)), rfl, bel.frame _, fun h => by cases h⟩
end Go.Proofs.Ytmgecnpefcnonaa.PairBackLaw
namespace Go.Proofs.Ytmgecnpefcnonaa
open Go.ChangeShapes Go.WideShapes Go.ChangeAt Go.RowKit

theorem pairBack_holds : Rows.PairBackSaid :=
  OpenClaim.holds_of_wide 6 Try.f6 rfl rfl rfl rfl rfl rfl rfl ⟨rfl, rfl, rfl, rfl, rfl⟩ rfl rfl rfl rfl rfl (by kernel_rfl) Try.func6 (by kernel_rfl)
    (of_decide_eq_true (by kernel_rfl)) (by unfold Func.isWrapper; first | (rw [if_pos (by decide +kernel)]; kernel_rfl) | (rw [if_neg (by decide +kernel)]; exact ⟨rfl, rfl⟩))
    (fun os started H enc _ => PairBackLaw.lifted os started H enc)
end Go.Proofs.Ytmgecnpefcnonaa
