/-
  hornsame.Error of any error, or none, and whatever number.
-/
import Derived.Test.YtjojeifoddonnakGreatDoorLd08
import Derived.Test.YtjojeifoddonnakGreatDoorLd02
namespace Go.Proofs.YtjojeifoddonnakGreatDoor.Ev
open Go.RowKit
open Go.Proofs.YtjojeifoddonnakGreatDoor.Tre Go.Proofs.YtjojeifoddonnakGreatDoor.Aser
set_option linter.unusedVariables false

theorem error_none (m : Int) (w : World) :
    Calls Tryz.prog 12 #[.nilIface, .int .i64 m] w fun e w' => e = .returned (.bool ((0 : Int) == m)) ∧ w' = w := by
  go_enter Tryz.func12, Tryz.ntmps12
  go_wp2_with fail
  refine (told_nil w).mono ?_
  rintro e w' ⟨rfl, rfl⟩
  go_wp2
  go_ret
  exact ⟨rfl, rfl⟩
theorem error_all (E m : Int) (w : World) (hL : Laid w) : Calls Tryz.prog 12 #[errV E, .int .i64 m] w fun e w' => e = .returned (.bool (E == m)) ∧ Below w.heap.size w w' := by
  by_cases h : E = 0
  · subst h
    exact (error_none m w).mono fun e w' ⟨he, hw⟩ => ⟨he, by rw [hw]; exact Below.refl _ _⟩
  · rw [errV_ne h]
    exact error_two E m w hL

end Go.Proofs.YtjojeifoddonnakGreatDoor.Ev
