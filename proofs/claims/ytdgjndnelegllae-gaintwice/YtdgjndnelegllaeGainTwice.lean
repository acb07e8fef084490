/-
  It is proved that hornlaw4.GainTwice returns true for every number: of twice a number from 1 to 4000 the gain is four more; of 0 it is 0. No condition.
-/
import Derived.Test.YtdgjndnelegllaeGainIdx
import Derived.Test.YtdgjndnelegllaePlain
namespace Go.Proofs.Ytdgjndnelegllae.GainTwiceLaw
open Go.ChangeShapes Go.WideShapes Go.ChangeAt Go.RowKit
open Go.Proofs.Ytdgjndnelegllae.Gai
set_option linter.unusedVariables false

theorem walk (n : Int) (w : World) (hw : (Lit.int .i64 n).wf = true) :
    Calls Try.prog 3 #[.int .i64 n] w fun e w' => e = .returned (.bool true) ∧ Below w.heap.size w w' := by
  have hz := hide (index_ok 0 (by omega) w)
  rw [gi_zero] at hz
  by_cases hf : n < 0 ∨ (0 ≤ n ∧ 8000 < n)
  · go_enter Try.func3, Try.ntmps3
    go_wp2_with fail
    refine (index_no n w hf).mono ?_
    rintro e w1 ⟨rfl, rfl⟩
    go_wp2_with fail
    refine (unhide hz).mono ?_
    rintro e w1 ⟨rfl, rfl⟩
    go_wp2
    go_ret
    exact ⟨rfl, Below.refl _ _⟩
  · obtain ⟨N, rfl⟩ : ∃ N : Nat, n = N := ⟨n.toNat, by omega⟩
    have h8 : N ≤ 8000 := by omega
    clear hf
    have c1 := hide (index_ok N h8 w)
    by_cases h4 : 0 < N ∧ N ≤ 4000
    · obtain ⟨h0, h4⟩ := h4
      have c2 := index_ok (2 * N) (by omega) w
      rw [gi_twice h0 h4] at c2
      have hg := (gi_near h8).1
      rw [show ((2 * N : Nat) : Int) = 2 * (N : Int) by omega, show ((gi N + 4 : Nat) : Int) = (gi N : Int) + 4 by omega] at c2
      obtain ⟨G, hG⟩ : ∃ G, gi N = G := ⟨_, rfl⟩
      rw [hG] at c1 c2 hg
      have C2 := hide c2
      have eg : ((G : Int) + 4 == (G : Int) + 4) = true := by simp
      clear c2 hG hz
      go_enter Try.func3, Try.ntmps3
      go_wp2_with fail
      refine (unhide c1).mono ?_
      rintro e w1 ⟨rfl, rfl⟩
      go_wp2_with fail
      refine (unhide C2).mono ?_
      rintro e w1 ⟨rfl, rfl⟩
      go_wp2
      go_ret
      exact ⟨by first | rfl | (simp; done), Below.refl _ _⟩
    · have h4' : (N = 0) ∨ (1 ≤ N ∧ 4000 < N) := by omega
      clear h4
      obtain ⟨G, hG⟩ : ∃ G, gi N = G := ⟨_, rfl⟩
      rw [hG] at c1
      clear hG
      rcases h4' with rfl | ⟨h1, h4⟩
      all_goals
        go_enter Try.func3, Try.ntmps3
        go_wp2_with fail
        refine (unhide c1).mono ?_
        rintro e w1 ⟨rfl, rfl⟩
        go_wp2_with fail
        refine (unhide hz).mono ?_
        rintro e w1 ⟨rfl, rfl⟩
        go_wp2
        go_ret
        exact ⟨rfl, Below.refl _ _⟩

set_option maxRecDepth 100000 in
theorem lifted (os : Os) (started : os.Started) (H : Type) (enc : TypeId × Value → H) :
    ReturnsInHanded {} Try.checked os 3 .any (Rows.gainTwiceSpec.pre6 enc Try.prog Try.f3 Rows.gainTwiceRow.domain false) (Rows.gainTwiceSpec.post enc Try.prog Try.f3 false true false false) := by
  refine returnsInHanded_of_change_sized (C := Try.checked) own started (by kernel_rfl) Try.func3
    (ChangeSpec.witness6 (enc := enc) (C := Try.checked) false ⟨#[], #[.int .i64 0], []⟩ 8 (by kernel_rfl) (by kernel_rfl) (by kernel_rfl) (by kernel_rfl)) ?_
  intro W base args ds gs before hval0 hW hcnd hsz0 _
  have hsz : (DataW.weightsEach Try.prog (Try.f3.params.toList ++ Rows.gainTwiceSpec.plain.varTypes Try.prog) (ds ++ gs)).all (· ≤ reachBytes) = true := hsz0
  have hval : ∀ (j : Nat) t v, Try.f3.params[j]? = some t → args[j]? = some v → Value.okWide Try.prog W .any base t v := hval0
  have hW' := hW
  obtain ⟨p, q, hA0, hV, rfl, hfz, hnd⟩ := hW
  have hA : DataW.TrodAll enc Try.prog W 0 (fun _ => true) true Try.f3.params.toList args.toList ds p := hA0
  rw [Try.params3] at hA hval hsz
  obtain ⟨v0, vs0, d0, ds0, p0, q0, hargs, rfl, rfl, h0, r0⟩ := trodAll_cons hA
  obtain ⟨rfl, rfl, rfl⟩ := trodAll_nil r0
  obtain rfl : args = #[v0] := by cases args; simp_all
  obtain ⟨rfl, rfl⟩ := trodVars_none hV
  obtain ⟨n0, rfl, rfl, rfl, hw0⟩ := open_int Try.underlying3 (hval 0 3 v0 rfl rfl) h0
  clear hA0 hval0 hsz0
  refine (walk n0 W hw0).mono fun e W' ⟨he, bel⟩ => ?_
  subst he
  exact ⟨_, rfl, _, _, _, [], _, [], hW', trodAll_mk1 (shut_bool Try.underlying4 _), (trodAll_cons_mk (shut_int Try.underlying3 hw0) trodAll_mk0), rfl, bel.frame _, fun h => by cases h⟩
end Go.Proofs.Ytdgjndnelegllae.GainTwiceLaw
namespace Go.Proofs.Ytdgjndnelegllae
open Go.ChangeShapes Go.WideShapes Go.ChangeAt Go.RowKit

theorem gainTwice_holds : Rows.GainTwiceSaid :=
  OpenClaim.holds_of_wide 3 Try.f3 rfl rfl rfl rfl rfl rfl rfl ⟨rfl, rfl, rfl, rfl, rfl⟩ rfl rfl rfl rfl rfl (by kernel_rfl) Try.func3 (by kernel_rfl)
    (of_decide_eq_true (by kernel_rfl)) (by unfold Func.isWrapper; first | (rw [if_pos (by decide +kernel)]; kernel_rfl) | (rw [if_neg (by decide +kernel)]; exact ⟨rfl, rfl⟩))
    (fun os started H enc _ => GainTwiceLaw.lifted os started H enc)
end Go.Proofs.Ytdgjndnelegllae
