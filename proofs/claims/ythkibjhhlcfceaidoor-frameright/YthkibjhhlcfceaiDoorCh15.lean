/-
  The middle of a gain's numbers, as it is reckoned. No program here.
-/
import Derived.Test.YthkibjhhlcfceaiDoorCh00
import Derived.Test.YthkibjhhlcfceaiDoorCh03
import Derived.Test.YthkibjhhlcfceaiDoorCh14
import Derived.Test.YthkibjhhlcfceaiDoorCh05
namespace Go.Proofs.YthkibjhhlcfceaiDoor.Gai
open Go.RowKit
set_option linter.unusedVariables false

theorem mid_is {g : Nat} (h0 : 0 < g) (h1 : g ≤ 53) : ∃ m q P : Nat, Int.tdiv ((g : Int) - 1) 4 = (m : Int) ∧ Int.tmod ((g : Int) - 1) 4 = (q : Int) ∧ m ≤ 13 ∧ q ≤ 3 ∧ (2 : Int) ^ m = (P : Int) ∧ 0 < P ∧ P ≤ 8192 ∧
    Hid (mid g = P + (2 * q + 1) * P / 8) := by
  refine ⟨(g - 1) / 4, (g - 1) % 4, 2 ^ ((g - 1) / 4), ?_, ?_, by omega, by omega, by simp, Nat.two_pow_pos _, ?_, rfl⟩
  · rw [show (g : Int) - 1 = ((g - 1 : Nat) : Int) by omega]; rfl
  · rw [show (g : Int) - 1 = ((g - 1 : Nat) : Int) by omega]; rfl
  · exact Nat.pow_le_pow_right (j := 13) (by omega) (by omega)

end Go.Proofs.YthkibjhhlcfceaiDoor.Gai

/-
  Package gain: Value: by its contract.
-/
namespace Go.Proofs.YthkibjhhlcfceaiDoor.Gai
open Go.RowKit
set_option linter.unusedVariables false

/-- The parts of a gain. -/
theorem middle (g : Nat) (h0 : 0 < g) (h1 : g ≤ 53) (w : World) :
    Calls Tryd.prog 37 #[.int .i64 g] w fun e w' => e = .returned (.int .i64 (mid g)) ∧ w' = w := by
  obtain ⟨m, q, P, e1, e2, hm, hq, e3, hp, hp', HM⟩ := mid_is h0 h1
  rw [unhide HM]
  clear HM
  have hq' : q = 0 ∨ q = 1 ∨ q = 2 ∨ q = 3 := by omega
  rcases hq' with rfl | rfl | rfl | rfl
  all_goals
    go_enter Tryd.func37, Tryd.ntmps37
    go_wp2
    go_ret
    exact ⟨ret_int (by first | (simp; done) | (simp; omega) | omega), rfl⟩

theorem value_far (g : Int) (w : World) (h : g < 0 ∨ (0 ≤ g ∧ 53 < g)) :
    Calls Tryd.prog 13 #[.int .i64 g] w fun e w' => e = .returned (.tuple #[.int .i64 0, .iface 47 (.int .i64 1)]) ∧ w' = w := by
  rcases h with h | ⟨h, g⟩
  all_goals
    go_enter Tryd.func13, Tryd.ntmps13
    go_wp2
    go_ret2
    exact ⟨rfl, rfl⟩

theorem value_ok (g : Nat) (h : g ≤ 53) (hv : Hid (vo g = true)) (w : World) :
    Calls Tryd.prog 13 #[.int .i64 g] w fun e w' => e = .returned (.tuple #[.int .i64 (vl g), .nilIface]) ∧ w' = w := by
  obtain ⟨v1, v2⟩ := vo_is (unhide hv)
  rcases Nat.eq_zero_or_pos g with e | hg
  · subst e
    go_enter Tryd.func13, Tryd.ntmps13
    go_wp2
    go_ret2
    exact ⟨rfl, rfl⟩
  · have hz : ((g : Int) == 0) = false := by simp; omega
    have ev : vl g = mid g := by unfold vl; rw [if_neg (by omega)]
    rw [ev] at v1 v2 ⊢
    have hc1 := hide (middle g hg h w)
    have hc2 := index_ok (mid g) v1 w
    rw [v2] at hc2
    have HC2 := hide hc2
    have eg : ((g : Int) == (g : Int)) = true := by simp
    obtain ⟨N, hN⟩ : ∃ N, mid g = N := ⟨_, rfl⟩
    rw [hN] at hc1 HC2 v1 ⊢
    clear v2 hN ev hc2 hv
    go_enter Tryd.func13, Tryd.ntmps13
    go_wp2_with fail
    refine (unhide hc1).mono ?_
    rintro e w1 ⟨rfl, rfl⟩
    go_wp2_with fail
    refine (unhide HC2).mono ?_
    rintro e w1 ⟨rfl, rfl⟩
    go_wp2
    go_ret2
    exact ⟨rfl, rfl⟩

theorem value_no (g : Nat) (h : g ≤ 53) (hv : Hid (vo g = false)) (w : World) :
    Calls Tryd.prog 13 #[.int .i64 g] w fun e w' => e = .returned (.tuple #[.int .i64 0, .iface 47 (.int .i64 1)]) ∧ w' = w := by
  have hg : 0 < g := by
    rcases Nat.eq_zero_or_pos g with e | e
    · subst e
      exact absurd (unhide hv) (by decide +kernel)
    · exact e
  have hz : ((g : Int) == 0) = false := by simp; omega
  have ev : vl g = mid g := by unfold vl; rw [if_neg (by omega)]
  have hc1 := hide (middle g hg h w)
  have hw := vo_not (unhide hv)
  rw [ev] at hw
  have hc2 := fun h => index_ok (mid g) h w
  obtain ⟨N, hN⟩ : ∃ N, mid g = N := ⟨_, rfl⟩
  rw [hN] at hc1 hc2 hw
  clear hN ev hv
  rcases hw with hw | ⟨hw, hne⟩
  · go_enter Tryd.func13, Tryd.ntmps13
    go_wp2_with fail
    refine (unhide hc1).mono ?_
    rintro e w1 ⟨rfl, rfl⟩
    go_wp2_with fail
    refine (index_no N _ (Or.inr ⟨by omega, by omega⟩)).mono ?_
    rintro e w1 ⟨rfl, rfl⟩
    go_wp2
    go_ret2
    exact ⟨rfl, rfl⟩
  · have HC2 := hide (hc2 hw)
    have eg : ((gi N : Int) == (g : Int)) = false := by simp; omega
    obtain ⟨B, hB⟩ : ∃ B, gi N = B := ⟨_, rfl⟩
    rw [hB] at HC2 eg
    clear hB hne hc2
    go_enter Tryd.func13, Tryd.ntmps13
    go_wp2_with fail
    refine (unhide hc1).mono ?_
    rintro e w1 ⟨rfl, rfl⟩
    go_wp2_with fail
    refine (unhide HC2).mono ?_
    rintro e w1 ⟨rfl, rfl⟩
    go_wp2
    go_ret2
    exact ⟨rfl, rfl⟩

end Go.Proofs.YthkibjhhlcfceaiDoor.Gai

/-
  gain.Value at any gain: by its contract.
-/
namespace Go.Proofs.YthkibjhhlcfceaiDoor.Frm
open Go.RowKit
open Go.Proofs.YthkibjhhlcfceaiDoor.Tre Go.Proofs.YthkibjhhlcfceaiDoor.Gai Go.Proofs.YthkibjhhlcfceaiDoor.Ev
set_option linter.unusedVariables false

theorem valueOk (g : Int) (w : World) (h : Hid (gok g = true)) :
    Calls Tryd.prog 13 #[.int .i64 g] w fun e w' => e = .returned (.tuple #[.int .i64 (vlN g), .nilIface]) ∧ w' = w := by
  obtain ⟨h1, h2, h3⟩ := gok_in (unhide h)
  rw [vlN_ok (unhide h)]
  obtain ⟨m, rfl⟩ : ∃ m : Nat, g = m := ⟨g.toNat, by omega⟩
  rw [Int.toNat_natCast] at h3 ⊢
  exact value_ok m (by omega) (hide h3) w
theorem valueNo (g : Int) (w : World) (h : Hid (gok g = false)) :
    Calls Tryd.prog 13 #[.int .i64 g] w fun e w' => e = .returned (.tuple #[.int .i64 0, .iface 47 (.int .i64 1)]) ∧ w' = w := by
  by_cases h1 : g < 0 ∨ (0 ≤ g ∧ 53 < g)
  · exact value_far g w h1
  · obtain ⟨m, rfl⟩ : ∃ m : Nat, g = m := ⟨g.toNat, by omega⟩
    have h2 : decide (0 ≤ (m : Int)) = true := by simp
    have h3 : decide ((m : Int) ≤ 53) = true := by simp; omega
    have e : gok (m : Int) = vo m := by unfold gok; rw [h2, h3, Int.toNat_natCast]; rfl
    exact value_no m (by omega) (hide (by rw [← e]; exact unhide h)) w

end Go.Proofs.YthkibjhhlcfceaiDoor.Frm
