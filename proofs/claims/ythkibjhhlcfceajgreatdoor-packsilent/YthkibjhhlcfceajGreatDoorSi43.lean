/-
  hornsame.Error, with an error and without: one contract.
-/
import Derived.Test.YthkibjhhlcfceajGreatDoorSi06
import Derived.Test.YthkibjhhlcfceajGreatDoorSi42
namespace Go.Proofs.YthkibjhhlcfceajGreatDoor.Ev
open Go.RowKit
open Go.Proofs.YthkibjhhlcfceajGreatDoor.Tre Go.Proofs.YthkibjhhlcfceajGreatDoor.Aser
set_option linter.unusedVariables false

theorem error_any (E : Int) (w : World) (hL : Laid w) : Calls Tryz.prog 10 #[errV E, .int .i64 E] w fun e w' => e = .returned (.bool true) ∧ Below w.heap.size w w' := by
  by_cases h : E = 0
  · subst h
    exact (error_nil w).mono fun e w' ⟨he, hw⟩ => ⟨he, by rw [hw]; exact Below.refl _ _⟩
  · rw [errV_ne h]
    exact error_is E w hL

end Go.Proofs.YthkibjhhlcfceajGreatDoor.Ev
