/-
  hornsame.Error of an error and whatever number.
-/
import Derived.Test.YtonbdongafbcdahDoorTold
namespace Go.Proofs.YtonbdongafbcdahDoor.Aser
open Go.RowKit
set_option linter.unusedVariables false

theorem error_two (n m : Int) (w : World) (hL : Laid w) :
    Calls Tryd.prog 9 #[.iface 53 (.int .i64 n), .int .i64 m] w fun e w' => e = .returned (.bool (n == m)) ∧ Below w.heap.size w w' := by
  go_enter Tryd.func9, Tryd.ntmps9
  go_wp2_with fail
  refine (told_is n w hL).mono ?_
  rintro e w' ⟨rfl, hb⟩
  go_wp2
  go_ret
  exact ⟨rfl, hb⟩
end Go.Proofs.YtonbdongafbcdahDoor.Aser
