/-
  The walk of hornlaw1.GainTells.
-/
import Derived.Test.YtdgjndneleglladDoorRefGain
import Derived.Test.YtdgjndneleglladDoorTold
namespace Go.Proofs.YtdgjndneleglladDoor.GainTellsLaw
open Go.RowKit
open Go.Proofs.YtdgjndneleglladDoor.Gai Go.Proofs.YtdgjndneleglladDoor.Aser
set_option linter.unusedVariables false

theorem error_nilB (w : World) :
    Calls Tryd.prog 9 #[.nilIface, .int .i64 0] w fun e w' => e = .returned (.bool true) ∧ Below w.heap.size w w' :=
  (error_nil w).mono (by rintro e w' ⟨rfl, rfl⟩; exact ⟨rfl, Below.refl _ _⟩)
theorem n_way (n : Int) : n < 0 ∨ (0 ≤ n ∧ 8000 < n) ∨ ∃ N : Nat, n = N ∧ N ≤ 8000 := by
  by_cases h : 0 ≤ n ∧ n ≤ 8000
  · exact Or.inr (Or.inr ⟨n.toNat, by omega, by omega⟩)
  · omega
theorem g_way (g : Int) : (g < 0 ∨ (0 ≤ g ∧ 53 < g)) ∨ g = 0 ∨ ∃ G : Nat, g = G ∧ 0 < G ∧ G ≤ 53 := by
  by_cases h : 0 < g ∧ g ≤ 53
  · exact Or.inr (Or.inr ⟨g.toNat, by omega, by omega, by omega⟩)
  · omega

set_option maxRecDepth 100000 in
set_option maxHeartbeats 8000000 in
theorem walk (n g : Int) (w : World) (hL : Laid w) (hwn : (Lit.int .i64 n).wf = true) (hwg : (Lit.int .i64 g).wf = true) :
    Calls Tryd.prog 6 #[.int .i64 n, .int .i64 g] w fun e w' => e = .returned (.bool true) ∧ Below w.heap.size w w' := by
  clear hwn hwg
  rcases n_way n with hn | ⟨hn, hn'⟩ | ⟨N, rfl, hN⟩
  all_goals
    go_enter Tryd.func6, Tryd.ntmps6
    go_wp2_with fail
  all_goals (first
    | (refine (refGain N hN w).mono ?_
       rintro e w1 ⟨rfl, rfl⟩
       go_wp2_with fail
       refine (index_ok N hN w).mono ?_
       rintro e w1 ⟨rfl, rfl⟩
       go_wp2_with fail
       refine (error_nilB _).mono ?_
       rintro e W ⟨rfl, hB⟩
       obtain ⟨X, hX⟩ : ∃ X, gi N = X := ⟨_, rfl⟩
       rw [hX]
       have eX : ((X : Int) == (X : Int)) = true := by simp
       clear hX)
    | (refine (index_no n w (by omega)).mono ?_
       rintro e w1 ⟨rfl, rfl⟩
       go_wp2_with fail
       refine (error_is 1 _ hL).mono ?_
       rintro e W ⟨rfl, hB⟩))
  all_goals
    go_wp2_with fail
    rcases g_way g with hg | hg | ⟨G, rfl, hg0, hg⟩
    · refine (refValue_far g W hg).mono ?_
      rintro e w1 ⟨rfl, rfl⟩
      go_wp2_with fail
      refine (value_far g W hg).mono ?_
      rintro e w1 ⟨rfl, rfl⟩
      go_wp2_with fail
      refine (error_is 1 _ (hL.below hB)).mono ?_
      rintro e w2 ⟨rfl, hb⟩
      go_wp2
      go_ret
      exact ⟨rfl, Below.chain hB hb⟩
    · subst hg
      refine (refValue_zero W).mono ?_
      rintro e w1 ⟨rfl, rfl⟩
      have hz := value_ok 0 (by omega) (hide (by decide +kernel)) W
      rw [show vl 0 = 0 from rfl] at hz
      go_wp2_with fail
      refine hz.mono ?_
      clear hz
      rintro e w1 ⟨rfl, rfl⟩
      go_wp2_with fail
      refine (error_nilB _).mono ?_
      rintro e w2 ⟨rfl, hb⟩
      go_wp2
      go_ret
      exact ⟨rfl, Below.chain hB hb⟩
    · refine (refValue_some G hg0 hg W).mono ?_
      rintro e w1 ⟨⟨HV, rfl⟩ | ⟨HV, rfl⟩, rfl⟩
      · have hz := value_ok G hg HV W
        obtain ⟨Y, hY⟩ : ∃ Y, vl G = Y := ⟨_, rfl⟩
        rw [hY] at hz ⊢
        have eY : ((Y : Int) == (Y : Int)) = true := by simp
        clear hY
        go_wp2_with fail
        refine hz.mono ?_
        clear hz
        rintro e w1 ⟨rfl, rfl⟩
        go_wp2_with fail
        refine (error_nilB _).mono ?_
        rintro e w2 ⟨rfl, hb⟩
        go_wp2
        go_ret
        exact ⟨rfl, Below.chain hB hb⟩
      · go_wp2_with fail
        refine (value_no G hg HV W).mono ?_
        rintro e w1 ⟨rfl, rfl⟩
        go_wp2_with fail
        refine (error_is 1 _ (hL.below hB)).mono ?_
        rintro e w2 ⟨rfl, hb⟩
        go_wp2
        go_ret
        exact ⟨rfl, Below.chain hB hb⟩

end Go.Proofs.YtdgjndneleglladDoor.GainTellsLaw
