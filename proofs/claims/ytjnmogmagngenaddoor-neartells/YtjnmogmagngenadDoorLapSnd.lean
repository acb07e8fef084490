/-
  sound.Check, at so many numbers as may be: by its contract.
-/
import Derived.Test.YtjnmogmagngenadDoorBeyond
namespace Go.Proofs.YtjnmogmagngenadDoor.Lap
open Go.RowKit
open Go.Proofs.YtjnmogmagngenadDoor.Tre
set_option linter.unusedVariables false

theorem snd_ok (a : Option Addr) (cap : Nat) (l : List Int) (w : World) (hl : l.length ≤ 32) (hi : In 1000 l) (hr : Row w a l) :
    Calls Tryd.prog 47 #[.slice a l.length cap] w fun e w' => e = .returned .nilIface ∧ Below w.heap.size w w' := by
  have hb1 : Below w.heap.size w (w.alloc (.cells #[.int .i64 1000] 3)) := (Below.refl _ _).alloc (Nat.le_refl _) _
  have HA := hide (any_of_in hi)
  go_enter Tryd.func47, Tryd.ntmps47
  go_wp2_with fail
  refine (beyond 1000 w).mono ?_
  rintro e w1 ⟨rfl, rfl⟩
  go_wp2_with fail
  refine (containsFunc 1000 a cap l w.heap.size (w.alloc (.cells #[.int .i64 1000] 3)) (by omega) (by omega) (by omega) (hr.below hb1) (boxed_cell w 1000 3)).mono ?_
  rw [unhide HA]
  rintro e w1 ⟨rfl, rfl⟩
  go_wp2
  go_ret
  exact ⟨rfl, hb1⟩
theorem snd_no (a : Option Addr) (cap : Nat) (l : List Int) (w : World) (hl : l.length ≤ 32) (hi : Hid (l.any (out 1000) = true)) (hr : Row w a l) :
    Calls Tryd.prog 47 #[.slice a l.length cap] w fun e w' => e = .returned (.iface 45 (.int .i64 1)) ∧ Below w.heap.size w w' := by
  have hb1 : Below w.heap.size w (w.alloc (.cells #[.int .i64 1000] 3)) := (Below.refl _ _).alloc (Nat.le_refl _) _
  go_enter Tryd.func47, Tryd.ntmps47
  go_wp2_with fail
  refine (beyond 1000 w).mono ?_
  rintro e w1 ⟨rfl, rfl⟩
  go_wp2_with fail
  refine (containsFunc 1000 a cap l w.heap.size (w.alloc (.cells #[.int .i64 1000] 3)) (by omega) (by omega) (by omega) (hr.below hb1) (boxed_cell w 1000 3)).mono ?_
  rw [unhide hi]
  rintro e w1 ⟨rfl, rfl⟩
  go_wp2
  go_ret
  exact ⟨rfl, hb1⟩

end Go.Proofs.YtjnmogmagngenadDoor.Lap
