/-
  The middle of a gain's numbers, as it is reckoned. No program here.
-/
import Derived.Test.YtjnmogmagngenaiDoorBase
import Derived.Test.YtjnmogmagngenaiDoorGainMath
namespace Go.Proofs.YtjnmogmagngenaiDoor.Gai
open Go.RowKit
set_option linter.unusedVariables false

theorem mid_is {g : Nat} (h0 : 0 < g) (h1 : g ≤ 53) : ∃ m q P : Nat, Int.tdiv ((g : Int) - 1) 4 = (m : Int) ∧ Int.tmod ((g : Int) - 1) 4 = (q : Int) ∧ m ≤ 13 ∧ q ≤ 3 ∧ (2 : Int) ^ m = (P : Int) ∧ 0 < P ∧ P ≤ 8192 ∧
    Hid (mid g = P + (2 * q + 1) * P / 8) := by
  refine ⟨(g - 1) / 4, (g - 1) % 4, 2 ^ ((g - 1) / 4), ?_, ?_, by omega, by omega, by simp, Nat.two_pow_pos _, ?_, rfl⟩
  · rw [show (g : Int) - 1 = ((g - 1 : Nat) : Int) by omega]; rfl
  · rw [show (g : Int) - 1 = ((g - 1 : Nat) : Int) by omega]; rfl
  · exact Nat.pow_le_pow_right (j := 13) (by omega) (by omega)

end Go.Proofs.YtjnmogmagngenaiDoor.Gai
