/-
  Package count: bitsFor, Bits: by their contracts.
-/
import Derived.Test.YtjnmogmagngenaiDoorCount
namespace Go.Proofs.YtjnmogmagngenaiDoor.Cnt
open Go.RowKit
open Go.Proofs.YtjnmogmagngenaiDoor.Tre Go.Proofs.YtjnmogmagngenaiDoor.Lap Go.Proofs.YtjnmogmagngenaiDoor.Mid
set_option linter.unusedVariables false


set_option maxHeartbeats 4000000 in
theorem bitsFor (m : Int) (hm : m ≤ 20256) (w : World) :
    Calls Tryd.prog 51 #[.int .i64 m] w fun e w' => ∃ b : Nat, e = .returned (.int .i64 b) ∧ Least m b ∧ w = w' := by
  go_enter Tryd.func51, Tryd.ntmps51
  go_wp2
  go_loop [3] (fun i => ∃ j : Nat, j ≤ 15 ∧ i = .int .i64 j ∧ Hid (∀ i, i < j → (2 : Int) ^ i < m)) (fun i => 15 - (intOf i).toNat)
  case atStart => exact ⟨0, by omega, rfl, fun i hi => absurd hi (by omega)⟩
  case round =>
    obtain ⟨j, hj, rfl, H⟩ := hrel
    obtain ⟨p0, p1⟩ := pow_in j (by omega)
    have h15 : Hid (j = 15 → m ≤ 2 ^ j) := hide (fun e => by subst e; omega)
    by_cases hlt : (2 : Int) ^ j < m
    · have hj2 : j < 15 := by
        rcases Nat.lt_or_ge j 15 with h | h
        · exact h
        · have := unhide h15 (by omega); omega
      have H2 : Hid (∀ i, i < j + 1 → (2 : Int) ^ i < m) := hide (fun i hi => by
        rcases Nat.lt_or_ge i j with h | h
        · exact unhide H i h
        · obtain rfl : i = j := by omega
          exact hlt)
      go_wp2
      go_round
      case rel => exact ⟨j + 1, by omega, by go_num, H2⟩
      case measure => simp [intOf]; omega
    · have hle : Hid (m ≤ (2 : Int) ^ j) := hide (by omega)
      go_wp2
      go_ret
      exact ⟨j, rfl, ⟨unhide hle, unhide H⟩, rfl⟩

theorem bits_ok (n k : Nat) (hn : n ≤ 6) (hk : k ≤ 8) (w : World) :
    Calls Tryd.prog 28 #[.int .i64 n, .int .i64 k] w fun e w' => ∃ b : Nat, e = .returned (.tuple #[.int .i64 b, .nilIface]) ∧ Least (V k n) b ∧ Below w.heap.size w w' := by
  go_enter Tryd.func28, Tryd.ntmps28
  go_wp2_with fail
  refine (of_ok n k hn hk w).mono ?_
  rintro e w1 ⟨rfl, hb1⟩
  go_wp2_with fail
  refine (bitsFor (V k n) (V_in k n (by omega) (by omega)).2 w1).mono ?_
  rintro e w2 ⟨b, rfl, hb, rfl⟩
  go_wp2
  go_ret2
  exact ⟨b, rfl, hb, hb1⟩

theorem bits_no (n k : Int) (w : World) (h : Hid (wide n 6 = true) ∨ (Hid (wide n 6 = false) ∧ Hid (wide k 8 = true))) :
    Calls Tryd.prog 28 #[.int .i64 n, .int .i64 k] w fun e w' => e = .returned (.tuple #[.int .i64 0, .iface 47 (.int .i64 1)]) ∧ Below w.heap.size w w' := by
  go_enter Tryd.func28, Tryd.ntmps28
  go_wp2_with fail
  refine (of_no n k w h).mono ?_
  rintro e w1 ⟨rfl, hb1⟩
  go_wp2
  go_ret2
  exact ⟨rfl, hb1⟩

end Go.Proofs.YtjnmogmagngenaiDoor.Cnt
