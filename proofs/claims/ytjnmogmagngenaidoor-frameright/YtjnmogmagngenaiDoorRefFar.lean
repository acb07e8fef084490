/-
  hornref1's Far, alone: by its contract.
-/
import Derived.Test.YtjnmogmagngenaiDoorBase
namespace Go.Proofs.YtjnmogmagngenaiDoor.Gai
open Go.RowKit
set_option linter.unusedVariables false

theorem refFar1 (n : Int) (w : World) (h0 : -1000000 ≤ n) (h1 : n ≤ 1000000) :
    Calls Tryd.prog 14 #[.int .i64 n] w fun e w' => e = .returned (.int .i64 (n.natAbs : Int)) ∧ w' = w := by
  by_cases h : n < 0
  all_goals
    go_enter Tryd.func14, Tryd.ntmps14
    go_wp2
    go_ret
    exact ⟨ret_int (by omega), rfl⟩

end Go.Proofs.YtjnmogmagngenaiDoor.Gai
