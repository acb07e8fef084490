/-
  Package near: loudOf: by its contracts.
-/
import Derived.Test.YtjnmogmagngenadDoorPulseSnd
import Derived.Test.YtjnmogmagngenadDoorNearSort
import Derived.Test.YtjnmogmagngenadDoorMid
namespace Go.Proofs.YtjnmogmagngenadDoor.Nea
open Go.RowKit
open Go.Proofs.YtjnmogmagngenadDoor.Tre Go.Proofs.YtjnmogmagngenadDoor.Lap Go.Proofs.YtjnmogmagngenadDoor.Pls Go.Proofs.YtjnmogmagngenadDoor.Mid
set_option linter.unusedVariables false

/-- The fault of numbers: 0 where there is none. -/
def vf (v : List Int) : Int := if 6 < v.length then 4 else if v.any (out 1000) = true then 1 else 0
theorem vf_ok {v : List Int} (h : vf v = 0) : v.length ≤ 6 ∧ In 1000 v := by
  unfold vf at h
  split at h
  · omega
  · split at h
    · omega
    · rename_i h1 h2
      exact ⟨by omega, in_of_any (by simpa using h2)⟩
theorem vf_none {v : List Int} (h1 : v.length ≤ 6) (h2 : In 1000 v) : vf v = 0 := by
  unfold vf
  rw [if_neg (by omega), if_neg (by rw [any_of_in h2]; simp)]

theorem loud_no (a : Option Addr) (cap : Nat) (l : List Int) (w : World) (hl : l.length ≤ 32) (hi : Hid (l.any (out 1000) = true)) (hr : Row w a l) :
    Calls Tryd.prog 33 #[.slice a l.length cap] w fun e w' => e = .returned (.tuple #[.int .i64 0, .iface 45 (.int .i64 1)]) ∧ Below w.heap.size w w' := by
  go_enter Tryd.func33, Tryd.ntmps33
  go_wp2_with fail
  refine (snd_no a cap l w hl hi hr).mono ?_
  rintro e w1 ⟨rfl, hb1⟩
  go_wp2
  go_ret2
  exact ⟨rfl, hb1⟩

theorem loudOf_ok (a : Option Addr) (cap : Nat) (l : List Int) (w : World) (hr : Row w a l) (h : Hid (vf l = 0)) :
    Calls Tryd.prog 29 #[.slice a l.length cap] w fun e w' => e = .returned (.tuple #[.int .i64 (loud l : Int), .nilIface]) ∧ Below w.heap.size w w' := by
  obtain ⟨h1, h2⟩ := vf_ok (unhide h)
  go_enter Tryd.func29, Tryd.ntmps29
  go_wp2_with fail
  refine (loud_ok a cap l w (by omega) h2 hr).mono ?_
  rintro e w1 ⟨rfl, hb1⟩
  go_wp2
  go_ret2
  exact ⟨rfl, hb1⟩
theorem loudOf_no (a : Option Addr) (cap : Nat) (l : List Int) (w : World) (hl : l.length ≤ 9223372036854775807) (hr : Row w a l) (h : Hid (vf l ≠ 0)) :
    Calls Tryd.prog 29 #[.slice a l.length cap] w fun e w' => e = .returned (.tuple #[.int .i64 0, .iface 45 (.int .i64 (vf l))]) ∧ Below w.heap.size w w' := by
  by_cases h1 : 6 < l.length
  · have hv : vf l = 4 := by unfold vf; rw [if_pos h1]
    rw [hv]
    clear hv h
    go_enter Tryd.func29, Tryd.ntmps29
    go_wp2
    go_ret2
    exact ⟨rfl, Below.refl _ _⟩
  · have h2 : l.any (out 1000) = true := by
      cases e : l.any (out 1000) with
      | true => rfl
      | false => exact absurd (vf_none (by omega) (in_of_any e)) (unhide h)
    have hv : vf l = 1 := by unfold vf; rw [if_neg h1, if_pos h2]
    rw [hv]
    have H2 := hide h2
    clear hv h h2
    go_enter Tryd.func29, Tryd.ntmps29
    go_wp2_with fail
    refine (loud_no a cap l w (by omega) H2 hr).mono ?_
    rintro e w1 ⟨rfl, hb1⟩
    go_wp2
    go_ret2
    exact ⟨rfl, hb1⟩

end Go.Proofs.YtjnmogmagngenadDoor.Nea
