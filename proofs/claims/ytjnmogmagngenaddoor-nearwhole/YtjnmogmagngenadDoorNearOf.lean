/-
  near.Of: by its contracts.
-/
import Derived.Test.YtjnmogmagngenadDoorNearSmall
import Derived.Test.YtjnmogmagngenadDoorNearSpread
namespace Go.Proofs.YtjnmogmagngenadDoor.Nea
open Go.RowKit
open Go.Proofs.YtjnmogmagngenadDoor.Tre Go.Proofs.YtjnmogmagngenadDoor.Lap Go.Proofs.YtjnmogmagngenadDoor.Pls Go.Proofs.YtjnmogmagngenadDoor.Mid
set_option linter.unusedVariables false

theorem of_no (a : Option Addr) (cap : Nat) (v : List Int) (k : Int) (w : World) (hl : v.length ≤ 9223372036854775807) (hr : Row w a v) (h : Hid (vf v ≠ 0)) :
    Calls Tryd.prog 13 #[.slice a v.length cap, .int .i64 k] w fun e w' => e = .returned (.tuple #[.slice none 0 0, .iface 45 (.int .i64 (vf v))]) ∧ Below w.heap.size w w' := by
  go_enter Tryd.func13, Tryd.ntmps13
  go_wp2_with fail
  refine (loudOf_no a cap v w hl hr h).mono ?_
  rintro e w1 ⟨rfl, hb1⟩
  go_wp2
  go_ret2
  exact ⟨rfl, hb1⟩
theorem of_range (a : Option Addr) (cap : Nat) (v : List Int) (k : Int) (w : World) (hr : Row w a v) (h : Hid (vf v = 0)) (hk : k < 0 ∨ (0 ≤ k ∧ 8 < k)) :
    Calls Tryd.prog 13 #[.slice a v.length cap, .int .i64 k] w fun e w' => e = .returned (.tuple #[.slice none 0 0, .iface 45 (.int .i64 1)]) ∧ Below w.heap.size w w' := by
  have HK := hide hk
  clear hk
  go_enter Tryd.func13, Tryd.ntmps13
  go_wp2_with fail
  refine (loudOf_ok a cap v w hr h).mono ?_
  rintro e w1 ⟨rfl, hb1⟩
  go_wp2_with fail
  refine (spread_range a cap v.length k w1 (unhide HK)).mono ?_
  rintro e w2 ⟨rfl, rfl⟩
  go_wp2
  go_ret2
  exact ⟨rfl, hb1⟩
theorem of_none (a : Option Addr) (cap : Nat) (v : List Int) (k : Nat) (w : World) (hr : Row w a v) (h : Hid (vf v = 0)) (hk : 0 < k) (hk8 : k ≤ 8) (hM : Hid (loud v = 0)) :
    Calls Tryd.prog 13 #[.slice a v.length cap, .int .i64 k] w fun e w' => e = .returned (.tuple #[.slice none 0 0, .iface 45 (.int .i64 5)]) ∧ Below w.heap.size w w' := by
  obtain ⟨h6, hi⟩ := vf_ok (unhide h)
  go_enter Tryd.func13, Tryd.ntmps13
  go_wp2_with fail
  refine (loudOf_ok a cap v w hr h).mono ?_
  rintro e w1 ⟨rfl, hb1⟩
  go_wp2_with fail
  refine (spread_none a cap v k w1 (hr.below hb1) h6 (hi.mono (by omega)) hk hk8 hM).mono ?_
  rintro e w2 ⟨rfl, rfl⟩
  go_wp2
  go_ret2
  exact ⟨rfl, hb1⟩
theorem of_ok (a : Option Addr) (cap : Nat) (v : List Int) (k : Nat) (w : World) (hr : Row w a v) (h : Hid (vf v = 0)) (hk8 : k ≤ 8) (hM0 : Hid (k = 0 ∨ 0 < loud v)) :
    Calls Tryd.prog 13 #[.slice a v.length cap, .int .i64 k] w fun e w' => ∃ p l, e = .returned (.tuple #[p, .nilIface]) ∧ Has w' w.heap.size p l ∧ Hid (Near v k l) ∧ Below w.heap.size w w' := by
  obtain ⟨h6, hi⟩ := vf_ok (unhide h)
  go_enter Tryd.func13, Tryd.ntmps13
  go_wp2_with fail
  refine (loudOf_ok a cap v w hr h).mono ?_
  rintro e w1 ⟨rfl, hb1⟩
  go_wp2_with fail
  refine (spread_ok a cap v k w1 (hr.below hb1) h6 (hi.mono (by omega)) hk8 hM0).mono ?_
  rintro e w2 ⟨p, l, rfl, hp, hn, hb2⟩
  go_wp2
  go_ret2
  exact ⟨p, l, rfl, hp.mono hb1.size, hn, Below.chain hb1 hb2⟩
theorem of_some (a : Option Addr) (cap : Nat) (v : List Int) (k : Nat) (w : World) (hr : Row w a v) (h : Hid (vf v = 0)) (hk : 0 < k) (hk8 : k ≤ 8) (hM0 : Hid (0 < loud v)) :
    Calls Tryd.prog 13 #[.slice a v.length cap, .int .i64 k] w fun e w' => ∃ p l, e = .returned (.tuple #[p, .nilIface]) ∧ Has w' w.heap.size p l ∧ Hid (Near v k l) ∧ Below w.heap.size w w' :=
  of_ok a cap v k w hr h hk8 (hide (Or.inr (unhide hM0)))
theorem of_zero (a : Option Addr) (cap : Nat) (v : List Int) (w : World) (hr : Row w a v) (h : Hid (vf v = 0)) :
    Calls Tryd.prog 13 #[.slice a v.length cap, .int .i64 0] w fun e w' => ∃ p l, e = .returned (.tuple #[p, .nilIface]) ∧ Has w' w.heap.size p l ∧ Hid (Near v 0 l) ∧ Below w.heap.size w w' :=
  of_ok a cap v 0 w hr h (by omega) (hide (Or.inl rfl))

end Go.Proofs.YtjnmogmagngenadDoor.Nea
