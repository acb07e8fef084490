/-
  run.Run, by its contract.
-/
import Derived.Test.YtkkhgdkgbhdfaakGreatDoorRa33
import Derived.Test.YtkkhgdkgbhdfaakGreatDoorRa36
namespace Go.Proofs.YtkkhgdkgbhdfaakGreatDoor.Lb
open Go.RowKit
open Go.Proofs.YtkkhgdkgbhdfaakGreatDoor.Ses
set_option linter.unusedVariables false

theorem runs20 (w : World) (hL : Lib20 w) (hg : 9 ≤ w.heap.size) : Runs w := runs_of (hide (fun l D M H W h1 h2 h3 h4 h5 h6 h7 => answer20 h1 h2 D M H W h3 h4 h5 h6 h7)) w hL hg

end Go.Proofs.YtkkhgdkgbhdfaakGreatDoor.Lb
