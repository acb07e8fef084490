/-
  Package gain: Index: by its contract.
-/
import Derived.Test.YtkkhgdkgbhdfaakGreatDoorRa03
import Derived.Test.YtkkhgdkgbhdfaakGreatDoorRa02
namespace Go.Proofs.YtkkhgdkgbhdfaakGreatDoor.Gai
open Go.RowKit
set_option linter.unusedVariables false

theorem len (n m : Nat) (h0 : Hid (2 ^ m ≤ n)) (h1 : Hid (n < 2 ^ (m + 1))) (h : n ≤ 8000) (w : World) :
    Calls Tryz.prog 136 #[.int .u64 n] w fun e w' => e = .returned (.int .i64 ((m + 1 : Nat) : Int)) ∧ w' = w := by
  go_enter Tryz.func136, Tryz.ntmps136
  go_wp2_with fail
  have c := len64 n h w
  rw [len_is (unhide h0) (unhide h1) h] at c
  refine c.mono ?_
  clear c
  rintro e w1 ⟨rfl, rfl⟩
  go_wp2
  go_ret
  exact ⟨rfl, rfl⟩

theorem index_no (n : Int) (w : World) (h : n < 0 ∨ (0 ≤ n ∧ 8000 < n)) :
    Calls Tryz.prog 106 #[.int .i64 n] w fun e w' => e = .returned (.tuple #[.int .i64 0, .iface 58 (.int .i64 1)]) ∧ w' = w := by
  rcases h with h | ⟨h, g⟩
  all_goals
    go_enter Tryz.func106, Tryz.ntmps106
    go_wp2
    go_ret2
    exact ⟨rfl, rfl⟩

theorem index_ok (n : Nat) (h : n ≤ 8000) (w : World) :
    Calls Tryz.prog 106 #[.int .i64 n] w fun e w' => e = .returned (.tuple #[.int .i64 (gi n), .nilIface]) ∧ w' = w := by
  rcases Nat.eq_zero_or_pos n with e | hn
  · subst e
    go_enter Tryz.func106, Tryz.ntmps106
    go_wp2
    go_ret2
    exact ⟨rfl, rfl⟩
  · obtain ⟨m, h0, h1⟩ := log_is hn
    have hm := log_in h0 h
    have hg := hide (gi_is h0 h1 rfl)
    have H0 := hide h0
    have H1 := hide h1
    have hz : ((n : Int) == 0) = false := by simp; omega
    have hc := hide (len n m H0 H1 h w)
    have ec : (2 : Int) ^ m = ((2 ^ m : Nat) : Int) := by simp
    obtain ⟨P, hP⟩ : ∃ P, 2 ^ m = P := ⟨_, rfl⟩
    have h1' : n < 2 * P := by rw [← hP]; rw [Nat.pow_succ] at h1; omega
    have hp : 0 < P := by rw [← hP]; exact Nat.two_pow_pos m
    rw [hP] at h0 ec hg
    obtain ⟨q, hq⟩ : ∃ q, (n - P) * 4 / P = q := ⟨_, rfl⟩
    have hq3 : q ≤ 3 := by
      rw [← hq]
      have : (n - P) * 4 / P < 4 := (Nat.div_lt_iff_lt_mul hp).2 (by omega)
      omega
    rw [hq] at hg
    have ed : Int.tdiv (((n : Int) - (P : Int)) * 4) (P : Int) = (q : Int) := by
      rw [show ((n : Int) - (P : Int)) * 4 = (((n - P) * 4 : Nat) : Int) by omega, ← Int.ofNat_tdiv, hq]
    have ez : ((P : Int) == 0) = false := by simp; omega
    rw [unhide hg]
    clear h1 hP hg H0 H1 hq
    go_enter Tryz.func106, Tryz.ntmps106
    go_wp2_with fail
    refine (unhide hc).mono ?_
    rintro e w1 ⟨rfl, rfl⟩
    go_wp2
    go_ret2
    refine ⟨?_, rfl⟩
    first | rfl | (simp; done) | (simp; omega)

end Go.Proofs.YtkkhgdkgbhdfaakGreatDoor.Gai

/-
  Package gain: Value: by its contract.
-/
namespace Go.Proofs.YtkkhgdkgbhdfaakGreatDoor.Gai
open Go.RowKit
set_option linter.unusedVariables false

/-- The parts of a gain. -/
theorem middle (g : Nat) (h0 : 0 < g) (h1 : g ≤ 53) (w : World) :
    Calls Tryz.prog 137 #[.int .i64 g] w fun e w' => e = .returned (.int .i64 (mid g)) ∧ w' = w := by
  obtain ⟨m, q, P, e1, e2, hm, hq, e3, hp, hp', HM⟩ := mid_is h0 h1
  rw [unhide HM]
  clear HM
  have hq' : q = 0 ∨ q = 1 ∨ q = 2 ∨ q = 3 := by omega
  rcases hq' with rfl | rfl | rfl | rfl
  all_goals
    go_enter Tryz.func137, Tryz.ntmps137
    go_wp2
    go_ret
    exact ⟨ret_int (by first | (simp; done) | (simp; omega) | omega), rfl⟩

theorem value_far (g : Int) (w : World) (h : g < 0 ∨ (0 ≤ g ∧ 53 < g)) :
    Calls Tryz.prog 107 #[.int .i64 g] w fun e w' => e = .returned (.tuple #[.int .i64 0, .iface 58 (.int .i64 1)]) ∧ w' = w := by
  rcases h with h | ⟨h, g⟩
  all_goals
    go_enter Tryz.func107, Tryz.ntmps107
    go_wp2
    go_ret2
    exact ⟨rfl, rfl⟩

theorem value_ok (g : Nat) (h : g ≤ 53) (hv : Hid (vo g = true)) (w : World) :
    Calls Tryz.prog 107 #[.int .i64 g] w fun e w' => e = .returned (.tuple #[.int .i64 (vl g), .nilIface]) ∧ w' = w := by
  obtain ⟨v1, v2⟩ := vo_is (unhide hv)
  rcases Nat.eq_zero_or_pos g with e | hg
  · subst e
    go_enter Tryz.func107, Tryz.ntmps107
    go_wp2
    go_ret2
    exact ⟨rfl, rfl⟩
  · have hz : ((g : Int) == 0) = false := by simp; omega
    have ev : vl g = mid g := by unfold vl; rw [if_neg (by omega)]
    rw [ev] at v1 v2 ⊢
    have hc1 := hide (middle g hg h w)
    have hc2 := index_ok (mid g) v1 w
    rw [v2] at hc2
    have HC2 := hide hc2
    have eg : ((g : Int) == (g : Int)) = true := by simp
    obtain ⟨N, hN⟩ : ∃ N, mid g = N := ⟨_, rfl⟩
    rw [hN] at hc1 HC2 v1 ⊢
    clear v2 hN ev hc2 hv
    go_enter Tryz.func107, Tryz.ntmps107
    go_wp2_with fail
    refine (unhide hc1).mono ?_
    rintro e w1 ⟨rfl, rfl⟩
    go_wp2_with fail
    refine (unhide HC2).mono ?_
    rintro e w1 ⟨rfl, rfl⟩
    go_wp2
    go_ret2
    exact ⟨rfl, rfl⟩

theorem value_no (g : Nat) (h : g ≤ 53) (hv : Hid (vo g = false)) (w : World) :
    Calls Tryz.prog 107 #[.int .i64 g] w fun e w' => e = .returned (.tuple #[.int .i64 0, .iface 58 (.int .i64 1)]) ∧ w' = w := by
  have hg : 0 < g := by
    rcases Nat.eq_zero_or_pos g with e | e
    · subst e
      exact absurd (unhide hv) (by decide +kernel)
    · exact e
  have hz : ((g : Int) == 0) = false := by simp; omega
  have ev : vl g = mid g := by unfold vl; rw [if_neg (by omega)]
  have hc1 := hide (middle g hg h w)
  have hw := vo_not (unhide hv)
  rw [ev] at hw
  have hc2 := fun h => index_ok (mid g) h w
  obtain ⟨N, hN⟩ : ∃ N, mid g = N := ⟨_, rfl⟩
  rw [hN] at hc1 hc2 hw
  clear hN ev hv
  rcases hw with hw | ⟨hw, hne⟩
  · go_enter Tryz.func107, Tryz.ntmps107
    go_wp2_with fail
    refine (unhide hc1).mono ?_
    rintro e w1 ⟨rfl, rfl⟩
    go_wp2_with fail
    refine (index_no N _ (Or.inr ⟨by omega, by omega⟩)).mono ?_
    rintro e w1 ⟨rfl, rfl⟩
    go_wp2
    go_ret2
    exact ⟨rfl, rfl⟩
  · have HC2 := hide (hc2 hw)
    have eg : ((gi N : Int) == (g : Int)) = false := by simp; omega
    obtain ⟨B, hB⟩ : ∃ B, gi N = B := ⟨_, rfl⟩
    rw [hB] at HC2 eg
    clear hB hne hc2
    go_enter Tryz.func107, Tryz.ntmps107
    go_wp2_with fail
    refine (unhide hc1).mono ?_
    rintro e w1 ⟨rfl, rfl⟩
    go_wp2_with fail
    refine (unhide HC2).mono ?_
    rintro e w1 ⟨rfl, rfl⟩
    go_wp2
    go_ret2
    exact ⟨rfl, rfl⟩

end Go.Proofs.YtkkhgdkgbhdfaakGreatDoor.Gai
