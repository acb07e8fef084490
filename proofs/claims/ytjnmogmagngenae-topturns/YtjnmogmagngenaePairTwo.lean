/-
  pair.Forward and pair.Inverse, called with any numbers: contracts.
-/
import Derived.Test.YtjnmogmagngenaePair
namespace Go.Proofs.Ytjnmogmagngenae.Par
open Go.RowKit
set_option linter.unusedVariables false

theorem fwd_ok (a b : Int) (w : World) (h0 : -2000 ≤ a) (h1 : a ≤ 2000) (h2 : -2000 ≤ b) (h3 : b ≤ 2000) :
    Calls Try.prog 62 #[.int .i64 a, .int .i64 b] w fun e w' => e = .returned (.tuple #[.int .i64 ((a + b) / 2), .int .i64 (a - b), .nilIface]) ∧ w' = w := by
  have H := hide (out_no h0 h1)
  have K := hide (out_no h2 h3)
  go_enter Try.func62, Try.ntmps62
  go_wp2_with fail
  refine (beyond a 2000 w (by omega) (by omega)).mono ?_
  rw [unhide H]
  rintro e w1 ⟨rfl, rfl⟩
  go_wp2_with fail
  refine (beyond b 2000 _ (by omega) (by omega)).mono ?_
  rw [unhide K]
  rintro e w1 ⟨rfl, rfl⟩
  go_wp2_with fail
  refine (half (a + b) _ (by omega) (by omega)).mono ?_
  rintro e w2 ⟨rfl, rfl⟩
  go_wp2
  go_ret3
  exact ⟨rfl, rfl⟩

theorem inv_ok (a b : Int) (w : World) (h0 : -4000 ≤ a) (h1 : a ≤ 4000) (h2 : -4000 ≤ b) (h3 : b ≤ 4000) :
    Calls Try.prog 64 #[.int .i64 a, .int .i64 b] w fun e w' => e = .returned (.tuple #[.int .i64 (a + (b + 1) / 2), .int .i64 (a + (b + 1) / 2 - b), .nilIface]) ∧ w' = w := by
  have H := hide (out_no h0 h1)
  have K := hide (out_no h2 h3)
  go_enter Try.func64, Try.ntmps64
  go_wp2_with fail
  refine (beyond a 4000 w (by omega) (by omega)).mono ?_
  rw [unhide H]
  rintro e w1 ⟨rfl, rfl⟩
  go_wp2_with fail
  refine (beyond b 4000 _ (by omega) (by omega)).mono ?_
  rw [unhide K]
  rintro e w1 ⟨rfl, rfl⟩
  go_wp2_with fail
  refine (half (b + 1) _ (by omega) (by omega)).mono ?_
  rintro e w2 ⟨rfl, rfl⟩
  go_wp2
  go_ret3
  exact ⟨rfl, rfl⟩

theorem fwd_no (a b : Int) (w : World) (h : Hid ((out a 2000 || out b 2000) = true)) :
    Calls Try.prog 62 #[.int .i64 a, .int .i64 b] w fun e w' => e = .returned (.tuple #[.int .i64 0, .int .i64 0, .iface 45 (.int .i64 1)]) ∧ w' = w := by
  by_cases h1 : out a 2000 = true
  · have H := hide h1
    clear h1
    go_enter Try.func62, Try.ntmps62
    go_wp2_with fail
    refine (beyond a 2000 w (by omega) (by omega)).mono ?_
    rw [unhide H]
    rintro e w1 ⟨rfl, rfl⟩
    go_wp2
    go_ret3
    exact ⟨rfl, rfl⟩
  · have h2 : out a 2000 = false := by simpa using h1
    have h3 : out b 2000 = true := by have := unhide h; rw [h2] at this; simpa using this
    have H := hide h2
    have K := hide h3
    clear h1 h2 h3
    go_enter Try.func62, Try.ntmps62
    go_wp2_with fail
    refine (beyond a 2000 w (by omega) (by omega)).mono ?_
    rw [unhide H]
    rintro e w1 ⟨rfl, rfl⟩
    go_wp2_with fail
    refine (beyond b 2000 _ (by omega) (by omega)).mono ?_
    rw [unhide K]
    rintro e w1 ⟨rfl, rfl⟩
    go_wp2
    go_ret3
    exact ⟨rfl, rfl⟩
theorem inv_no (a b : Int) (w : World) (h : Hid ((out a 4000 || out b 4000) = true)) :
    Calls Try.prog 64 #[.int .i64 a, .int .i64 b] w fun e w' => e = .returned (.tuple #[.int .i64 0, .int .i64 0, .iface 45 (.int .i64 1)]) ∧ w' = w := by
  by_cases h1 : out a 4000 = true
  · have H := hide h1
    clear h1
    go_enter Try.func64, Try.ntmps64
    go_wp2_with fail
    refine (beyond a 4000 w (by omega) (by omega)).mono ?_
    rw [unhide H]
    rintro e w1 ⟨rfl, rfl⟩
    go_wp2
    go_ret3
    exact ⟨rfl, rfl⟩
  · have h2 : out a 4000 = false := by simpa using h1
    have h3 : out b 4000 = true := by have := unhide h; rw [h2] at this; simpa using this
    have H := hide h2
    have K := hide h3
    clear h1 h2 h3
    go_enter Try.func64, Try.ntmps64
    go_wp2_with fail
    refine (beyond a 4000 w (by omega) (by omega)).mono ?_
    rw [unhide H]
    rintro e w1 ⟨rfl, rfl⟩
    go_wp2_with fail
    refine (beyond b 4000 _ (by omega) (by omega)).mono ?_
    rw [unhide K]
    rintro e w1 ⟨rfl, rfl⟩
    go_wp2
    go_ret3
    exact ⟨rfl, rfl⟩

end Go.Proofs.Ytjnmogmagngenae.Par
