/-
  It is proved that hornlaw1.GainNear returns true for every two numbers: the value of how loud a number is differs from it by no more than an eighth of it, and is as loud; a greater number is no less loud. No condition.
-/
import Derived.Test.YtdgjndneleglladGainVal
import Derived.Test.YtdgjndneleglladRefFar
import Derived.Test.YtdgjndneleglladPlain
namespace Go.Proofs.Ytdgjndnelegllad.GainNearLaw
open Go.ChangeShapes Go.WideShapes Go.ChangeAt Go.RowKit
open Go.Proofs.Ytdgjndnelegllad.Gai
set_option linter.unusedVariables false

/-- A number: which may not be, or one of so many. -/
theorem one_way (n : Int) : (n < 0 ∨ (0 ≤ n ∧ 8000 < n)) ∨ ∃ N : Nat, n = N ∧ N ≤ 8000 := by
  by_cases h : n < 0 ∨ (0 ≤ n ∧ 8000 < n)
  · exact Or.inl h
  · exact Or.inr ⟨n.toNat, by omega, by omega⟩

set_option maxHeartbeats 4000000 in
theorem walk (n m : Int) (w : World) (hwn : (Lit.int .i64 n).wf = true) (hwm : (Lit.int .i64 m).wf = true) :
    Calls Try.prog 4 #[.int .i64 n, .int .i64 m] w fun e w' => e = .returned (.bool true) ∧ Below w.heap.size w w' := by
  have f1 := index_ok 100 (by omega) w
  rw [show gi 100 = 27 by decide +kernel] at f1
  have F1 := hide f1
  have f2 := value_ok 27 (by omega) (hide (by decide +kernel)) w
  rw [show vl 27 = 104 by decide +kernel] at f2
  have F2 := hide f2
  clear f1 f2
  rcases one_way n with hn | ⟨N, rfl, hN⟩
  · rcases hn with hn | ⟨hn, hn'⟩
    all_goals
      go_enter Try.func4, Try.ntmps4
      go_wp2_with fail
      refine (unhide F1).mono ?_
      rintro e w1 ⟨rfl, rfl⟩
      go_wp2_with fail
      refine (unhide F2).mono ?_
      rintro e w1 ⟨rfl, rfl⟩
      go_wp2_with fail
      refine (index_no n _ (by omega)).mono ?_
      rintro e w1 ⟨rfl, rfl⟩
      go_wp2
      go_ret
      exact ⟨by first | rfl | (simp; done) | (simp; omega), Below.refl _ _⟩
  · obtain ⟨g1, g2, g3, g4⟩ := gi_near hN
    obtain ⟨v1, v2⟩ := vo_is g2
    have c1 := index_ok N hN w
    have c2 := value_ok (gi N) g1 (hide g2) w
    have c3 := index_ok (vl (gi N)) v1 w
    rw [v2] at c3
    have hup := fun M => gi_up (n := N) (m := M)
    have hdn := fun M => gi_up (n := M) (m := N)
    clear g2 v2
    obtain ⟨G, hG⟩ : ∃ G, gi N = G := ⟨_, rfl⟩
    rw [hG] at c1 c2 c3 g1 g3 g4 v1 hup hdn
    obtain ⟨X, hX⟩ : ∃ X, vl G = X := ⟨_, rfl⟩
    rw [hX] at c2 c3 g3 g4 v1
    have c4 := refFar1 ((X : Int) - (N : Int)) w (by omega) (by omega)
    obtain ⟨D, hD⟩ : ∃ D, ((X : Int) - (N : Int)).natAbs = D := ⟨_, rfl⟩
    have h8 : 8 * D ≤ N := by omega
    rw [hD] at c4
    have eG : ((G : Int) == (G : Int)) = true := by simp
    have C1 := hide c1
    have C2 := hide c2
    have C3 := hide c3
    have C4 := hide c4
    have HU := hide hup
    have HD := hide hdn
    have HG := hide hG
    clear c1 c2 c3 c4 hG hX hD hup hdn g3 g4
    go_enter Try.func4, Try.ntmps4
    go_wp2_with fail
    refine (unhide F1).mono ?_
    rintro e w1 ⟨rfl, rfl⟩
    go_wp2_with fail
    refine (unhide F2).mono ?_
    rintro e w1 ⟨rfl, rfl⟩
    go_wp2_with fail
    refine (unhide C1).mono ?_
    rintro e w1 ⟨rfl, rfl⟩
    go_wp2_with fail
    refine (unhide C2).mono ?_
    rintro e w1 ⟨rfl, rfl⟩
    go_wp2_with fail
    refine (unhide C3).mono ?_
    rintro e w1 ⟨rfl, rfl⟩
    go_wp2_with fail
    refine (unhide C4).mono ?_
    rintro e w1 ⟨rfl, rfl⟩
    go_wp2_with fail
    rcases one_way m with hm | ⟨M, rfl, hM⟩
    · refine (index_no m _ hm).mono ?_
      rintro e w1 ⟨rfl, rfl⟩
      go_wp2
      go_ret
      exact ⟨rfl, Below.refl _ _⟩
    · refine (index_ok M hM _).mono ?_
      rintro e w1 ⟨rfl, rfl⟩
      rcases Nat.lt_trichotomy N M with h | h | h
      · have hk := unhide HU M (by omega) hM
        obtain ⟨K, hK⟩ : ∃ K, gi M = K := ⟨_, rfl⟩
        rw [hK] at hk ⊢
        clear hK
        go_wp2
        go_ret
        exact ⟨by first | rfl | (simp; done) | (simp; omega), Below.refl _ _⟩
      · subst h
        rw [unhide HG]
        go_wp2
        go_ret
        exact ⟨by first | rfl | (simp; done) | (simp; omega), Below.refl _ _⟩
      · have hk := unhide HD M (by omega) hN
        obtain ⟨K, hK⟩ : ∃ K, gi M = K := ⟨_, rfl⟩
        rw [hK] at hk ⊢
        clear hK
        go_wp2
        go_ret
        exact ⟨by first | rfl | (simp; done) | (simp; omega), Below.refl _ _⟩

set_option maxRecDepth 100000 in
theorem lifted (os : Os) (started : os.Started) (H : Type) (enc : TypeId × Value → H) :
    ReturnsInHanded {} Try.checked os 4 .any (Rows.gainNearSpec.pre6 enc Try.prog Try.f4 Rows.gainNearRow.domain false) (Rows.gainNearSpec.post enc Try.prog Try.f4 false true false false) := by
  refine returnsInHanded_of_change_sized (C := Try.checked) own started (by kernel_rfl) Try.func4
    (ChangeSpec.witness6 (enc := enc) (C := Try.checked) false ⟨#[], #[.int .i64 0, .int .i64 0], []⟩ 8 (by kernel_rfl) (by kernel_rfl) (by kernel_rfl) (by kernel_rfl)) ?_
  intro W base args ds gs before hval0 hW hcnd hsz0 _
  have hsz : (DataW.weightsEach Try.prog (Try.f4.params.toList ++ Rows.gainNearSpec.plain.varTypes Try.prog) (ds ++ gs)).all (· ≤ reachBytes) = true := hsz0
  have hval : ∀ (j : Nat) t v, Try.f4.params[j]? = some t → args[j]? = some v → Value.okWide Try.prog W .any base t v := hval0
  have hW' := hW
  obtain ⟨p, q, hA0, hV, rfl, hfz, hnd⟩ := hW
  have hA : DataW.TrodAll enc Try.prog W 0 (fun _ => true) true Try.f4.params.toList args.toList ds p := hA0
  rw [Try.params4] at hA hval hsz
  obtain ⟨v0, vs0, d0, ds0, p0, q0, hargs, rfl, rfl, h0, r0⟩ := trodAll_cons hA
  obtain ⟨v1, vs1, d1, ds1, p1, q1, rfl, rfl, rfl, h1, r1⟩ := trodAll_cons r0
  obtain ⟨rfl, rfl, rfl⟩ := trodAll_nil r1
  obtain rfl : args = #[v0, v1] := by cases args; simp_all
  obtain ⟨rfl, rfl⟩ := trodVars_none hV
  obtain ⟨n0, rfl, rfl, rfl, hw0⟩ := open_int Try.underlying3 (hval 0 3 v0 rfl rfl) h0
  obtain ⟨n1, rfl, rfl, rfl, hw1⟩ := open_int Try.underlying3 (hval 1 3 v1 rfl rfl) h1
  clear hA0 hval0 hsz0
  refine (walk n0 n1 W hw0 hw1).mono fun e W' ⟨he, bel⟩ => ?_
  subst he
  exact ⟨_, rfl, _, _, _, [], _, [], hW', trodAll_mk1 (shut_bool Try.underlying4 _), (trodAll_cons_mk (shut_int Try.underlying3 hw0) (trodAll_cons_mk (shut_int Try.underlying3 hw1) trodAll_mk0)), rfl, bel.frame _, fun h => by cases h⟩
end Go.Proofs.Ytdgjndnelegllad.GainNearLaw
namespace Go.Proofs.Ytdgjndnelegllad
open Go.ChangeShapes Go.WideShapes Go.ChangeAt Go.RowKit

theorem gainNear_holds : Rows.GainNearSaid :=
  OpenClaim.holds_of_wide 4 Try.f4 rfl rfl rfl rfl rfl rfl rfl ⟨rfl, rfl, rfl, rfl, rfl⟩ rfl rfl rfl rfl rfl (by kernel_rfl) Try.func4 (by kernel_rfl)
    (of_decide_eq_true (by kernel_rfl)) (by unfold Func.isWrapper; first | (rw [if_pos (by decide +kernel)]; kernel_rfl) | (rw [if_neg (by decide +kernel)]; exact ⟨rfl, rfl⟩))
    (fun os started H enc _ => GainNearLaw.lifted os started H enc)
end Go.Proofs.Ytdgjndnelegllad
