/-
  It is proved that hornlaw4.CountOne returns true for every two numbers: of one pulse there are twice as many rows as numbers; of one number two, whatever the pulses (one, if there is none). No condition.
-/
import Derived.Test.YtnodflcdijkdoacCount
import Derived.Test.YtnodflcdijkdoacPlain
namespace Go.Proofs.Ytnodflcdijkdoac.CountOneLaw
open Go.ChangeShapes Go.WideShapes Go.ChangeAt Go.RowKit
open Go.Proofs.Ytnodflcdijkdoac.Tre Go.Proofs.Ytnodflcdijkdoac.Cnt
set_option linter.unusedVariables false

set_option maxHeartbeats 4000000 in
theorem walk (n k : Int) (w : World) (hwn : (Lit.int .i64 n).wf = true) (hwk : (Lit.int .i64 k).wf = true) :
    Calls Try.prog 4 #[.int .i64 n, .int .i64 k] w fun e w' => e = .returned (.bool true) ∧ Below w.heap.size w w' := by
  have o1 : Hid (wide 1 8 = false) := hide (by decide)
  have o6 : Hid (wide 1 6 = false) := hide (by decide)
  rcases Cnt.ways n 6 with ⟨n0, nA⟩ | ⟨n0, n1, nA⟩ | ⟨-, m, rfl, nB⟩
  all_goals
    go_enter Try.func4, Try.ntmps4
    go_wp2_with fail
  all_goals (first
    | (refine (of_no _ 1 w (Or.inl nA)).mono ?_
       rintro e W ⟨rfl, hB⟩)
    | (refine (of_ok m 1 (by omega) (by omega) w).mono ?_
       rw [V_one m (by omega)]
       rintro e W ⟨rfl, hB⟩))
  all_goals
    go_wp2_with fail
    rcases Cnt.ways k 8 with ⟨k0, kA⟩ | ⟨k0, k1, kA⟩ | ⟨-, l, rfl, kB⟩
  all_goals (first
    | (refine (of_no 1 _ W (Or.inr ⟨o6, kA⟩)).mono ?_
       rintro e W1 ⟨rfl, hb1⟩)
    | (refine (of_ok 1 l (by omega) (by omega) W).mono ?_
       rw [V_single l (by omega)]
       by_cases hl : l = 0
       · subst hl
         rw [if_pos rfl]
         rintro e W1 ⟨rfl, hb1⟩
         go_wp2
         go_ret
         refine ⟨?_, Below.chain hB hb1⟩
         first | rfl | (simp; done)
       · rw [if_neg hl]
         have hl1 : 0 < l := by omega
         have hl2 : ((l : Int) == 0) = false := by simp; omega
         clear hl
         rintro e W1 ⟨rfl, hb1⟩
         go_wp2
         go_ret
         refine ⟨?_, Below.chain hB hb1⟩
         first | rfl | (simp; done) | (simp; omega)))
  all_goals
    go_wp2
    go_ret
    refine ⟨?_, Below.chain hB hb1⟩
    first | rfl | (simp; done) | (simp; omega)

set_option maxRecDepth 100000 in
theorem lifted (os : Os) (started : os.Started) (H : Type) (enc : TypeId × Value → H) :
    ReturnsInHanded {} Try.checked os 4 .any (Rows.countOneSpec.pre6 enc Try.prog Try.f4 Rows.countOneRow.domain false) (Rows.countOneSpec.post enc Try.prog Try.f4 false true false false) := by
  refine returnsInHanded_of_change_sized (C := Try.checked) own started (by kernel_rfl) Try.func4
    (ChangeSpec.witness6 (enc := enc) (C := Try.checked) false ⟨#[], #[.int .i64 0, .int .i64 0], []⟩ 8 (by kernel_rfl) (by kernel_rfl) (by kernel_rfl) (by kernel_rfl)) ?_
  intro W base args ds gs before hval0 hW hcnd hsz0 _
  have hsz : (DataW.weightsEach Try.prog (Try.f4.params.toList ++ Rows.countOneSpec.plain.varTypes Try.prog) (ds ++ gs)).all (· ≤ reachBytes) = true := hsz0
  have hval : ∀ (j : Nat) t v, Try.f4.params[j]? = some t → args[j]? = some v → Value.okWide Try.prog W .any base t v := hval0
  have hW' := hW
  obtain ⟨p, q, hA0, hV, rfl, hfz, hnd⟩ := hW
  have hA : DataW.TrodAll enc Try.prog W 0 (fun _ => true) true Try.f4.params.toList args.toList ds p := hA0
  rw [Try.params4] at hA hval hsz
  obtain ⟨v0, vs0, d0, ds0, p0, q0, hargs, rfl, rfl, h0, r0⟩ := trodAll_cons hA
  obtain ⟨v1, vs1, d1, ds1, p1, q1, rfl, rfl, rfl, h1, r1⟩ := trodAll_cons r0
  obtain ⟨rfl, rfl, rfl⟩ := trodAll_nil r1
  obtain rfl : args = #[v0, v1] := by cases args; simp_all
  obtain ⟨rfl, rfl⟩ := trodVars_none hV
  obtain ⟨n0, rfl, rfl, rfl, hw0⟩ := open_int Try.underlying3 (hval 0 3 v0 rfl rfl) h0
  obtain ⟨n1, rfl, rfl, rfl, hw1⟩ := open_int Try.underlying3 (hval 1 3 v1 rfl rfl) h1
  clear hA0 hval0 hsz0
  refine (walk n0 n1 W hw0 hw1).mono fun e W' ⟨he, bel⟩ => ?_
  subst he
  exact ⟨_, rfl, _, _, _, [], _, [], hW', trodAll_mk1 (shut_bool Try.underlying4 _), (trodAll_cons_mk (shut_int Try.underlying3 hw0) (trodAll_cons_mk (shut_int Try.underlying3 hw1) trodAll_mk0)), rfl, bel.frame _, fun h => by cases h⟩
end Go.Proofs.Ytnodflcdijkdoac.CountOneLaw
namespace Go.Proofs.Ytnodflcdijkdoac
open Go.ChangeShapes Go.WideShapes Go.ChangeAt Go.RowKit

theorem countOne_holds : Rows.CountOneSaid :=
  OpenClaim.holds_of_wide 4 Try.f4 rfl rfl rfl rfl rfl rfl rfl ⟨rfl, rfl, rfl, rfl, rfl⟩ rfl rfl rfl rfl rfl (by kernel_rfl) Try.func4 (by kernel_rfl)
    (of_decide_eq_true (by kernel_rfl)) (by unfold Func.isWrapper; first | (rw [if_pos (by decide +kernel)]; kernel_rfl) | (rw [if_neg (by decide +kernel)]; exact ⟨rfl, rfl⟩))
    (fun os started H enc _ => CountOneLaw.lifted os started H enc)
end Go.Proofs.Ytnodflcdijkdoac
