/-
  Package count: Table: by its contract.
-/
import Derived.Test.YtnodflcdijkdoacDoorCount
namespace Go.Proofs.YtnodflcdijkdoacDoor.Cnt
open Go.RowKit
open Go.Proofs.YtnodflcdijkdoacDoor.Tre Go.Proofs.YtnodflcdijkdoacDoor.Lap Go.Proofs.YtnodflcdijkdoacDoor.Mid
set_option linter.unusedVariables false

theorem table_ok (k : Nat) (hk : k ≤ 8) (w : World) :
    Calls Tryd.prog 11 #[.int .i64 k] w fun e w' => ∃ v, e = .returned (.tuple #[v, .nilIface]) ∧ Has w' w.heap.size v (cts k) ∧ Below w.heap.size w w' := by
  have H2 := hide (wide_no (n := (k : Int)) (most := 8) (by omega) (by omega))
  go_enter Tryd.func11, Tryd.ntmps11
  go_wp2_with fail
  refine (outside k 8 w).mono ?_
  rw [unhide H2]
  rintro e w' ⟨rfl, rfl⟩
  go_wp2_with fail
  refine (counts k hk w).mono ?_
  rintro e w1 ⟨v1, rfl, h1, hb1⟩
  go_wp2
  go_ret2
  exact ⟨_, rfl, h1, hb1⟩

theorem table_no (k : Int) (w : World) (H2 : Hid (wide k 8 = true)) :
    Calls Tryd.prog 11 #[.int .i64 k] w fun e w' => e = .returned (.tuple #[.slice none 0 0, .iface 39 (.int .i64 1)]) ∧ Below w.heap.size w w' := by
  go_enter Tryd.func11, Tryd.ntmps11
  go_wp2_with fail
  refine (outside k 8 w).mono ?_
  rw [unhide H2]
  rintro e w' ⟨rfl, rfl⟩
  go_wp2
  go_ret2
  exact ⟨rfl, Below.refl _ _⟩

end Go.Proofs.YtnodflcdijkdoacDoor.Cnt
