/-
  hornref1.Sum: by its contract.
-/
import Derived.Test.YtgffpljnhadigafDoorScaleBase
namespace Go.Proofs.YtgffpljnhadigafDoor.Scl
open Go.RowKit
open Go.Proofs.YtgffpljnhadigafDoor.Tre
set_option linter.unusedVariables false

set_option maxHeartbeats 1000000 in
theorem refSum (a : Option Addr) (cap N : Nat) (l : List Int) (w : World) (hn : Hid (N = l.length)) (hl : N ≤ 9223372036854775807) (hr : Row w a l) (hs : Hid (Small l)) :
    Calls Tryd.prog 14 #[.slice a N cap] w fun e w' => e = .returned (.int .i64 (tot l)) ∧ w' = w := by
  go_enter Tryd.func14, Tryd.ntmps14
  go_wp2
  go_loopw [3, 4] (fun t i wr => ∃ (j : Nat) (T : Int), j ≤ N ∧ i = .int .i64 j ∧ t = .int .i64 T ∧ Hid (T = pfx l j) ∧ w = wr) (fun _ i _ => N - (intOf i).toNat)
  case atStart => exact ⟨0, 0, Nat.zero_le _, rfl, rfl, rfl, rfl⟩
  case round =>
    obtain ⟨j, T, hj, rfl, rfl, HT, rfl⟩ := hrel
    by_cases hlt : j < N
    · have hlt' : j < l.length := by rw [← unhide hn]; exact hlt
      obtain ⟨b, off, rfl, hb, hc⟩ := cell_at hr (by omega)
      have c1 := hc j hlt'
      have HS : Hid (T + at0 l j = pfx l (j + 1)) := hide (by rw [pfx, unhide HT])
      have hb1 := unhide hs (j + 1) hlt'
      rw [← unhide HS] at hb1
      obtain ⟨X, hX⟩ : ∃ X, at0 l j = X := ⟨_, rfl⟩
      rw [hX] at c1 HS hb1
      have hw : IntKind.i64.wrap (T + X) = T + X := IntWalk.i64_in _ (by omega)
      clear hc hX hlt' hb1
      go_wp2
      go_roundw
      case rel => exact ⟨j + 1, T + X, by omega, by go_num, by first | rfl | go_num, HS, by first | trivial | rfl⟩
      case measure => simp [intOf]; omega
    · obtain rfl : j = N := by omega
      go_wp2
      go_ret
      exact ⟨by rw [unhide HT, unhide hn]; rfl, rfl⟩

end Go.Proofs.YtgffpljnhadigafDoor.Scl
