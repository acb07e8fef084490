/-
  sound.Loud of a few numbers: by their contracts.
-/
import Derived.Test.YtjnmogmagngenadDoorLapSnd
import Derived.Test.YtjnmogmagngenadDoorPulseSum
namespace Go.Proofs.YtjnmogmagngenadDoor.Pls
open Go.RowKit
open Go.Proofs.YtjnmogmagngenadDoor.Tre Go.Proofs.YtjnmogmagngenadDoor.Lap
set_option linter.unusedVariables false

theorem loud_ok (a : Option Addr) (cap : Nat) (l : List Int) (w : World) (hl : l.length ≤ 32) (hi : In 1000 l) (hr : Row w a l) :
    Calls Tryd.prog 33 #[.slice a l.length cap] w fun e w' => e = .returned (.tuple #[.int .i64 (loud l : Int), .nilIface]) ∧ Below w.heap.size w w' := by
  go_enter Tryd.func33, Tryd.ntmps33
  go_wp2_with fail
  refine (snd_ok a cap l w hl hi hr).mono ?_
  rintro e w1 ⟨rfl, hb1⟩
  have hr1 := hr.below hb1
  go_wp2_with fail
  refine (dists a cap l w1 hl (hi.mono (by omega)) hr1).mono ?_
  rintro e w2 ⟨rfl, rfl⟩
  go_wp2
  go_ret2
  exact ⟨rfl, hb1⟩

end Go.Proofs.YtjnmogmagngenadDoor.Pls
