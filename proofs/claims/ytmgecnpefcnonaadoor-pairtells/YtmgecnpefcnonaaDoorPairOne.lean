/-
  pair.Half, called with any number: contracts.
-/
import Derived.Test.YtmgecnpefcnonaaDoorPair
namespace Go.Proofs.YtmgecnpefcnonaaDoor.Par
open Go.RowKit
set_option linter.unusedVariables false

theorem half_ok (n : Int) (w : World) (h0 : -8000 ≤ n) (h1 : n ≤ 8000) :
    Calls Tryd.prog 16 #[.int .i64 n] w fun e w' => e = .returned (.tuple #[.int .i64 (n / 2), .nilIface]) ∧ w' = w := by
  have H := hide (out_no h0 h1)
  go_enter Tryd.func16, Tryd.ntmps16
  go_wp2_with fail
  refine (beyond n 8000 w (by omega) (by omega)).mono ?_
  rw [unhide H]
  rintro e w1 ⟨rfl, rfl⟩
  go_wp2_with fail
  refine (half n _ (by omega) (by omega)).mono ?_
  rintro e w2 ⟨rfl, rfl⟩
  go_wp2
  go_ret2
  exact ⟨rfl, rfl⟩
theorem half_no (n : Int) (w : World) (h : Hid (out n 8000 = true)) :
    Calls Tryd.prog 16 #[.int .i64 n] w fun e w' => e = .returned (.tuple #[.int .i64 0, .iface 42 (.int .i64 1)]) ∧ w' = w := by
  go_enter Tryd.func16, Tryd.ntmps16
  go_wp2_with fail
  refine (beyond n 8000 w (by omega) (by omega)).mono ?_
  rw [unhide h]
  rintro e w1 ⟨rfl, rfl⟩
  go_wp2
  go_ret2
  exact ⟨rfl, rfl⟩

end Go.Proofs.YtmgecnpefcnonaaDoor.Par
