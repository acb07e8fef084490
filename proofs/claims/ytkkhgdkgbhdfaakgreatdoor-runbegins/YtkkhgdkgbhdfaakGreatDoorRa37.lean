/-
  A world that has what the rows of this seat list.
-/
import Derived.Test.YtkkhgdkgbhdfaakGreatDoorRa28
import Derived.Lay
import Derived.LaidHandle
import Derived.Deep.DeepHandedRow
import Derived.Deep.DeepWitnessRowRef
namespace Go.Proofs.YtkkhgdkgbhdfaakGreatDoor.Lb
open Go.ChangeShapes Go.WideShapes Go.ChangeAt Go.RowKit
set_option linter.unusedVariables false

/- The world: the door's, with the listed data laid. -/
theorem w20_os (os : Os) : ((World.doorLaid Tryz.prog 400 os).layVars Tryz.prog laidD).os = os := (World.layVars_os _ _ _).trans rfl
theorem fits20W (os : Os) : (World.doorLaid Tryz.prog 400 os).layFits Tryz.prog laidD [] = true := by kernel_rfl
theorem ifaces20 (os : Os) : (World.doorLaid Tryz.prog 400 os).layIfaces Tryz.prog laidD ((World.doorLaid Tryz.prog 400 os).layVars Tryz.prog laidD) = true := by kernel_rfl
theorem handle20 (os : Os) : laidE.all (handleAtB Tryz.prog ((World.doorLaid Tryz.prog 400 os).layVars Tryz.prog laidD)) = true := by kernel_rfl
theorem great_all : (laidD.filter fun x => (laidD.map (·.1)).contains x.1) = laidD := by kernel_rfl
theorem great_none : (laidD.filter fun x => !(laidD.map (·.1)).contains x.1) = [] := by kernel_rfl
theorem met20 (os : Os) : laidMetH Tryz.prog laid20 ((World.doorLaid Tryz.prog 400 os).layVars Tryz.prog laidD) := by
  refine laidMetH_of_parts ?_ (by rw [handle_list]; exact handle20 os)
  rw [data_list]
  refine laidMet_layVars (w0 := World.doorLaid Tryz.prog 400 os) (laidD.map (·.1)) [] (by rw [great_all]) (by rw [great_all]; exact fits20W os) (by rw [great_all]; exact ifaces20 os) (by rw [great_none]; exact LaidIn.none)
theorem door20 (os : Os) (args : Array Value) : laidMetH Tryz.prog laid20 (((World.doorLaid Tryz.prog 400 os).layVars Tryz.prog laidD).forCall (fun _ _ => 0) ⟨#[], args, []⟩).memory :=
  (met20 os).of_heap (by simp [World.memory, World.forCall, Input.heap])

end Go.Proofs.YtkkhgdkgbhdfaakGreatDoor.Lb
