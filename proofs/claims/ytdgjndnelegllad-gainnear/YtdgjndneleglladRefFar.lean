/-
  hornref1's Far, alone: by its contract.
-/
import Derived.Test.YtdgjndneleglladBase
namespace Go.Proofs.Ytdgjndnelegllad.Gai
open Go.RowKit
set_option linter.unusedVariables false

theorem refFar1 (n : Int) (w : World) (h0 : -1000000 ≤ n) (h1 : n ≤ 1000000) :
    Calls Try.prog 11 #[.int .i64 n] w fun e w' => e = .returned (.int .i64 (n.natAbs : Int)) ∧ w' = w := by
  by_cases h : n < 0
  all_goals
    go_enter Try.func11, Try.ntmps11
    go_wp2
    go_ret
    exact ⟨ret_int (by omega), rfl⟩

end Go.Proofs.Ytdgjndnelegllad.Gai
