/-
  sound.Distance: by its contract.
-/
import Derived.Test.YtjnmogmagngenadDoorPulseMath
import Derived.Deep.QuietTactic
import Derived.BigQuiet
namespace Go.Proofs.YtjnmogmagngenadDoor.Pls
open Go.RowKit
set_option linter.unusedVariables false

theorem dist (n : Int) (w : World) (h0 : -1000000 ≤ n) (h1 : n ≤ 1000000) :
    Calls Tryd.prog 24 #[.int .i64 n] w fun e w' => e = .returned (.int .i64 (n.natAbs : Int)) ∧ w = w' := by
  go_enter Tryd.func24, Tryd.ntmps24
  go_wp2
  all_goals (go_ret; exact ⟨ret_int (by omega), rfl⟩)

end Go.Proofs.YtjnmogmagngenadDoor.Pls
