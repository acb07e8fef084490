/-
  hornref1.All, at any bound: by its contract.
-/
import Derived.Test.YtjnmogmagngenadDoorAnyOut
namespace Go.Proofs.YtjnmogmagngenadDoor.Tre
open Go.RowKit
set_option linter.unusedVariables false

theorem out_lo {c n : Int} (h : n < -c) : out c n = true := by simp [out, h]
theorem out_hi {c n : Int} (h : c < n) : out c n = true := by simp [out, h]
theorem out_mid {c n : Int} (h : ¬ n < -c) (k : ¬ c < n) : out c n = false := by simp [out, h, k]

set_option maxHeartbeats 400000 in
theorem refAll (c : Int) (a : Option Addr) (cap : Nat) (l : List Int) (w : World) (hc0 : 0 ≤ c) (hc9 : c ≤ 8000) (hl : l.length ≤ 9223372036854775807) (hr : Row w a l) :
    Calls Tryd.prog 28 #[.slice a l.length cap, .int .i64 c] w fun e w' => e = .returned (.bool (!l.any (out c))) ∧ w' = w := by
  go_enter Tryd.func28, Tryd.ntmps28
  go_wp2
  go_loop [5] (fun i => ∃ k : Nat, k ≤ l.length ∧ i = .int .i64 k ∧ Hid ((l.take k).any (out c) = false)) (fun i => l.length - (intOf i).toNat)
  case atStart => exact ⟨0, Nat.zero_le _, rfl, hide rfl⟩
  case round =>
    obtain ⟨k, hk, rfl, HN⟩ := hrel
    by_cases hlt : k < l.length
    · obtain ⟨b, off, rfl, hb, hcs⟩ := hr.at hlt
      have hck := hcs k hlt
      clear hcs
      by_cases h1 : l[k] < -c
      · have h1' : decide (l[k] < -c) = true := by simpa using h1
        have HB := hide (any_of c l k hlt (out_lo h1))
        go_wp2
        go_ret
        exact ⟨by rw [unhide HB]; rfl, rfl⟩
      · have h1' : decide (l[k] < -c) = false := by simpa using h1
        by_cases h2 : c < l[k]
        · have h2' : decide (c < l[k]) = true := by simpa using h2
          have HB := hide (any_of c l k hlt (out_hi h2))
          go_wp2
          go_ret
          exact ⟨by rw [unhide HB]; rfl, rfl⟩
        · have h2' : decide (c < l[k]) = false := by simpa using h2
          have HB := hide (out_mid h1 h2)
          go_wp2
          go_round
          case rel => exact ⟨k + 1, by omega, by go_num, hide (any_step c l k hlt (unhide HN) (unhide HB))⟩
          case measure => simp [intOf]; omega
    · go_wp2
      go_ret
      have hh := unhide HN
      rw [List.take_of_length_le (by omega)] at hh
      exact ⟨by rw [hh]; rfl, rfl⟩

end Go.Proofs.YtjnmogmagngenadDoor.Tre
