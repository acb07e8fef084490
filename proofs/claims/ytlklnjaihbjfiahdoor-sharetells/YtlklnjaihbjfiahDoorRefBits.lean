/-
  hornref1.Bits: by its contract.
-/
import Derived.Test.YtlklnjaihbjfiahDoorCountMath
import Derived.Test.YtlklnjaihbjfiahDoorOwnSet
namespace Go.Proofs.YtlklnjaihbjfiahDoor.Cnt
open Go.RowKit
set_option linter.unusedVariables false

set_option maxHeartbeats 4000000 in
theorem refBits (m : Int) (hm : m ≤ 20256) (w : World) :
    Calls Tryd.prog 12 #[.int .i64 m] w fun e w' => ∃ b : Nat, e = .returned (.int .i64 b) ∧ Least m b ∧ w = w' := by
  go_enter Tryd.func12, Tryd.ntmps12
  go_wp2
  go_loop [3, 4] (fun i p => ∃ (j : Nat) (P : Int), j ≤ 15 ∧ i = .int .i64 j ∧ p = .int .i64 P ∧ Hid (P = 2 ^ j) ∧ Hid (∀ i, i < j → (2 : Int) ^ i < m)) (fun i _ => 15 - (intOf i).toNat)
  case atStart => exact ⟨0, 1, by omega, rfl, rfl, rfl, fun i hi => absurd hi (by omega)⟩
  case round =>
    obtain ⟨j, P, hj, rfl, rfl, HP, H⟩ := hrel
    obtain ⟨p0, p1⟩ := pow_in j (by omega)
    rw [← unhide HP] at p0 p1
    by_cases hlt : P < m
    · have hj2 : j < 15 := by
        rcases Nat.lt_or_ge j 15 with h | h
        · exact h
        · obtain rfl : j = 15 := by omega
          have := unhide HP
          omega
      have H2 : Hid (∀ i, i < j + 1 → (2 : Int) ^ i < m) := hide (fun i hi => by
        rcases Nat.lt_or_ge i j with h | h
        · exact unhide H i h
        · obtain rfl : i = j := by omega
          rw [← unhide HP]; exact hlt)
      have H3 : Hid (2 * P = 2 ^ (j + 1)) := hide (by rw [unhide HP, Int.pow_succ]; omega)
      go_wp2
      go_round
      case rel => exact ⟨j + 1, 2 * P, by omega, by go_num, by go_num, H3, H2⟩
      case measure => simp [intOf]; omega
    · have hle : Hid (m ≤ (2 : Int) ^ j) := hide (by rw [← unhide HP]; omega)
      go_wp2
      go_ret
      exact ⟨j, rfl, ⟨unhide hle, unhide H⟩, rfl⟩

end Go.Proofs.YtlklnjaihbjfiahDoor.Cnt
