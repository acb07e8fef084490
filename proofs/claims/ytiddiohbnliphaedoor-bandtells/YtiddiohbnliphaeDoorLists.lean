/-
  hornsame.Lists, where both are the same: its contract.
-/
import Derived.Test.YtiddiohbnliphaeDoorInts
import Derived.Test.YtiddiohbnliphaeDoorDeep
namespace Go.Proofs.YtiddiohbnliphaeDoor.Same
open Go.RowKit
set_option linter.unusedVariables false

theorem Below.drewN (w : World) (n : Nat) : Below w.heap.size w (w.drewN n) := ⟨rfl, rfl, rfl, Nat.le_refl _, fun _ _ => rfl⟩

set_option maxHeartbeats 2000000 in
theorem lists_same (a : Option Addr) (cap : Nat) (a' : Option Addr) (cap' : Nat) (ll : List (List Int)) (w : World) (hl : ll.length ≤ 9223372036854775807) (hr : Rws w a ll) (hr' : Rws w a' ll) :
    Calls Tryd.prog 9 #[.slice a ll.length cap, .slice a' ll.length cap'] w fun e w' => e = .returned (.bool true) ∧ Below w.heap.size w w' := by
  obtain ⟨N, hN⟩ : ∃ N, ll.length = N := ⟨_, rfl⟩
  have HN := hide hN
  rw [hN] at hl ⊢
  clear hN
  go_enter Tryd.func9, Tryd.ntmps9
  go_wp2
  go_loopw [5] (fun i wr => ∃ k : Nat, k ≤ N ∧ i = .int .i64 k ∧ Below w.heap.size w wr) (fun i _ => N - (intOf i).toNat)
  case atStart => exact ⟨0, Nat.zero_le _, rfl, Below.refl _ _⟩
  case round =>
    obtain ⟨k, hk, rfl, hB⟩ := hrel
    by_cases hlt : k < N
    · have hkl : k < ll.length := by rw [unhide HN]; exact hlt
      obtain ⟨b1, off1, rfl, _, hc1⟩ := (hr.below hB).at hkl
      obtain ⟨b2, off2, rfl, _, hc2⟩ := (hr'.below hB).at hkl
      obtain ⟨A, C, c1, c2, c3, c4, c5⟩ := hc1 k hkl
      obtain ⟨A', C', d1, d2, d3, d4, d5⟩ := hc2 k hkl
      have HI : Hid (∀ x, Calls Tryd.prog 11 #[.slice A (rowAt ll k).length C, .slice A' (rowAt ll k).length C'] (wr.drewN x) fun e w' => e = .returned (.bool true) ∧ ∃ n, w' = wr.drewN n) := hide (fun x =>
        (ints A C (rowAt ll k) A' C' (rowAt ll k) (wr.drewN x) (by omega) (by omega) (c5.below (Below.drewN wr x)) (d5.below (Below.drewN wr x))).mono fun e w' ⟨he, n, hn⟩ => ⟨by rw [he, decide_eq_true rfl], x + n, by rw [hn, World.drewN_drewN]⟩)
      obtain ⟨L, hL⟩ : ∃ L, (rowAt ll k).length = L := ⟨_, rfl⟩
      rw [hL] at c1 d1 HI
      clear hc1 hc2 c2 c3 c4 c5 d2 d3 d4 d5 hL hkl
      go_wp2
      go_quiet ((go_at_call 11; exact unhide HI _))
      go_wp2
      go_roundw
      case rel => exact ⟨k + 1, by omega, by go_num, hB.trans ((Below.drewN _ _).mono hB.size)⟩
      case measure => simp [intOf]; omega
    · obtain rfl : k = N := by omega
      go_wp2
      go_ret
      exact ⟨rfl, hB⟩

end Go.Proofs.YtiddiohbnliphaeDoor.Same
