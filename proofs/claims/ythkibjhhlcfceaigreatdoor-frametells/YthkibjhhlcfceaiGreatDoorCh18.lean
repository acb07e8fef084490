/-
  The values of gains. No program here.
-/
import Derived.Test.YthkibjhhlcfceaiGreatDoorCh03
import Derived.Test.YthkibjhhlcfceaiGreatDoorCh00
import Derived.Test.YthkibjhhlcfceaiGreatDoorCh16
namespace Go.Proofs.YthkibjhhlcfceaiGreatDoor.Frm
open Go.Proofs.YthkibjhhlcfceaiGreatDoor.Tre Go.Proofs.YthkibjhhlcfceaiGreatDoor.Bnd Go.Proofs.YthkibjhhlcfceaiGreatDoor.Pls Go.Proofs.YthkibjhhlcfceaiGreatDoor.Gai Go.Proofs.YthkibjhhlcfceaiGreatDoor.Shr
set_option linter.unusedVariables false

/-- The value of a gain, 0 where there is none. -/
def vlN (g : Int) : Int := if gok g = true then (vl g.toNat : Int) else 0
theorem gok_in {g : Int} (h : gok g = true) : 0 ≤ g ∧ g ≤ 53 ∧ vo g.toNat = true := by
  unfold gok at h
  simp at h
  exact ⟨h.1.1, h.1.2, h.2⟩
theorem vlN_ok {g : Int} (h : gok g = true) : vlN g = (vl g.toNat : Int) := by unfold vlN; rw [if_pos h]
theorem vlN_in (g : Int) : 0 ≤ vlN g ∧ vlN g ≤ 8000 := by
  unfold vlN
  split
  · rename_i h
    have := (vo_is (gok_in h).2.2).1
    omega
  · omega
theorem vals_take {gs : List Int} {k : Nat} (h : k < gs.length) : (vals gs).take (k + 1) = (vals gs).take k ++ [(vl (at0 gs k).toNat : Int)] := by
  rw [List.take_succ_eq_append_getElem (by rw [vals_length]; exact h)]
  have e := vals_at gs h
  have e2 : at0 (vals gs) k = (vals gs)[k]'(by rw [vals_length]; exact h) := by simp [at0, vals_length, h]
  rw [← e2, e]
theorem vals_lds {gs : List Int} (h : ∀ i, i < gs.length → gok (at0 gs i) = true) : Lds (vals gs) := fun i hi => by
  rw [vals_length] at hi
  rw [vals_at gs hi]
  have := (vo_is (gok_in (h i hi)).2.2).1
  omega

theorem vals_upto (gs : List Int) : vals gs = upto (fun i => (vl (at0 gs i).toNat : Int)) gs.length := by
  refine eq_of_at (by rw [vals_length, upto_length]) fun i hi => ?_
  rw [vals_length] at hi
  rw [vals_at gs hi, upto_at _ hi]

end Go.Proofs.YthkibjhhlcfceaiGreatDoor.Frm

/-
  The middle of a gain's numbers, as it is reckoned. No program here.
-/
namespace Go.Proofs.YthkibjhhlcfceaiGreatDoor.Gai
open Go.RowKit
set_option linter.unusedVariables false

theorem mid_is {g : Nat} (h0 : 0 < g) (h1 : g ≤ 53) : ∃ m q P : Nat, Int.tdiv ((g : Int) - 1) 4 = (m : Int) ∧ Int.tmod ((g : Int) - 1) 4 = (q : Int) ∧ m ≤ 13 ∧ q ≤ 3 ∧ (2 : Int) ^ m = (P : Int) ∧ 0 < P ∧ P ≤ 8192 ∧
    Hid (mid g = P + (2 * q + 1) * P / 8) := by
  refine ⟨(g - 1) / 4, (g - 1) % 4, 2 ^ ((g - 1) / 4), ?_, ?_, by omega, by omega, by simp, Nat.two_pow_pos _, ?_, rfl⟩
  · rw [show (g : Int) - 1 = ((g - 1 : Nat) : Int) by omega]; rfl
  · rw [show (g : Int) - 1 = ((g - 1 : Nat) : Int) by omega]; rfl
  · exact Nat.pow_le_pow_right (j := 13) (by omega) (by omega)

end Go.Proofs.YthkibjhhlcfceaiGreatDoor.Gai

/-
  Package gain: Value: by its contract.
-/
namespace Go.Proofs.YthkibjhhlcfceaiGreatDoor.Gai
open Go.RowKit
set_option linter.unusedVariables false

/-- The parts of a gain. -/
theorem middle (g : Nat) (h0 : 0 < g) (h1 : g ≤ 53) (w : World) :
    Calls Tryz.prog 76 #[.int .i64 g] w fun e w' => e = .returned (.int .i64 (mid g)) ∧ w' = w := by
  obtain ⟨m, q, P, e1, e2, hm, hq, e3, hp, hp', HM⟩ := mid_is h0 h1
  rw [unhide HM]
  clear HM
  have hq' : q = 0 ∨ q = 1 ∨ q = 2 ∨ q = 3 := by omega
  rcases hq' with rfl | rfl | rfl | rfl
  all_goals
    go_enter Tryz.func76, Tryz.ntmps76
    go_wp2
    go_ret
    exact ⟨ret_int (by first | (simp; done) | (simp; omega) | omega), rfl⟩

theorem value_far (g : Int) (w : World) (h : g < 0 ∨ (0 ≤ g ∧ 53 < g)) :
    Calls Tryz.prog 37 #[.int .i64 g] w fun e w' => e = .returned (.tuple #[.int .i64 0, .iface 63 (.int .i64 1)]) ∧ w' = w := by
  rcases h with h | ⟨h, g⟩
  all_goals
    go_enter Tryz.func37, Tryz.ntmps37
    go_wp2
    go_ret2
    exact ⟨rfl, rfl⟩

theorem value_ok (g : Nat) (h : g ≤ 53) (hv : Hid (vo g = true)) (w : World) :
    Calls Tryz.prog 37 #[.int .i64 g] w fun e w' => e = .returned (.tuple #[.int .i64 (vl g), .nilIface]) ∧ w' = w := by
  obtain ⟨v1, v2⟩ := vo_is (unhide hv)
  rcases Nat.eq_zero_or_pos g with e | hg
  · subst e
    go_enter Tryz.func37, Tryz.ntmps37
    go_wp2
    go_ret2
    exact ⟨rfl, rfl⟩
  · have hz : ((g : Int) == 0) = false := by simp; omega
    have ev : vl g = mid g := by unfold vl; rw [if_neg (by omega)]
    rw [ev] at v1 v2 ⊢
    have hc1 := hide (middle g hg h w)
    have hc2 := index_ok (mid g) v1 w
    rw [v2] at hc2
    have HC2 := hide hc2
    have eg : ((g : Int) == (g : Int)) = true := by simp
    obtain ⟨N, hN⟩ : ∃ N, mid g = N := ⟨_, rfl⟩
    rw [hN] at hc1 HC2 v1 ⊢
    clear v2 hN ev hc2 hv
    go_enter Tryz.func37, Tryz.ntmps37
    go_wp2_with fail
    refine (unhide hc1).mono ?_
    rintro e w1 ⟨rfl, rfl⟩
    go_wp2_with fail
    refine (unhide HC2).mono ?_
    rintro e w1 ⟨rfl, rfl⟩
    go_wp2
    go_ret2
    exact ⟨rfl, rfl⟩

theorem value_no (g : Nat) (h : g ≤ 53) (hv : Hid (vo g = false)) (w : World) :
    Calls Tryz.prog 37 #[.int .i64 g] w fun e w' => e = .returned (.tuple #[.int .i64 0, .iface 63 (.int .i64 1)]) ∧ w' = w := by
  have hg : 0 < g := by
    rcases Nat.eq_zero_or_pos g with e | e
    · subst e
      exact absurd (unhide hv) (by decide +kernel)
    · exact e
  have hz : ((g : Int) == 0) = false := by simp; omega
  have ev : vl g = mid g := by unfold vl; rw [if_neg (by omega)]
  have hc1 := hide (middle g hg h w)
  have hw := vo_not (unhide hv)
  rw [ev] at hw
  have hc2 := fun h => index_ok (mid g) h w
  obtain ⟨N, hN⟩ : ∃ N, mid g = N := ⟨_, rfl⟩
  rw [hN] at hc1 hc2 hw
  clear hN ev hv
  rcases hw with hw | ⟨hw, hne⟩
  · go_enter Tryz.func37, Tryz.ntmps37
    go_wp2_with fail
    refine (unhide hc1).mono ?_
    rintro e w1 ⟨rfl, rfl⟩
    go_wp2_with fail
    refine (index_no N _ (Or.inr ⟨by omega, by omega⟩)).mono ?_
    rintro e w1 ⟨rfl, rfl⟩
    go_wp2
    go_ret2
    exact ⟨rfl, rfl⟩
  · have HC2 := hide (hc2 hw)
    have eg : ((gi N : Int) == (g : Int)) = false := by simp; omega
    obtain ⟨B, hB⟩ : ∃ B, gi N = B := ⟨_, rfl⟩
    rw [hB] at HC2 eg
    clear hB hne hc2
    go_enter Tryz.func37, Tryz.ntmps37
    go_wp2_with fail
    refine (unhide hc1).mono ?_
    rintro e w1 ⟨rfl, rfl⟩
    go_wp2_with fail
    refine (unhide HC2).mono ?_
    rintro e w1 ⟨rfl, rfl⟩
    go_wp2
    go_ret2
    exact ⟨rfl, rfl⟩

end Go.Proofs.YthkibjhhlcfceaiGreatDoor.Gai
