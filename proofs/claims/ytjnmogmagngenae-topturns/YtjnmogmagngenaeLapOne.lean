/-
  lap.guess, lap.lift: by their contracts.
-/
import Derived.Test.YtjnmogmagngenaeLapCell
namespace Go.Proofs.Ytjnmogmagngenae.Lap
open Go.RowKit
open Go.Proofs.Ytjnmogmagngenae.Tre
set_option linter.unusedVariables false

set_option maxHeartbeats 1000000 in
theorem guess (a : Option Addr) (n cap : Nat) (l : List Int) (i : Nat) (w : World) (hn : Hid (n = l.length)) (hl : n ≤ 1000) (hi : i < n) (hin : In 100000 l) (hr : Row w a l) :
    Calls Try.prog 44 #[.slice a n cap, .int .i64 i] w fun e w' => e = .returned (.int .i64 (gs l i)) ∧ ∃ q, w' = w.drewN q := by
  obtain ⟨b, off, rfl, hc⟩ := row_cell hr (by rw [← unhide hn]; omega)
  obtain ⟨x0, x1⟩ := hin.at (by omega) i
  obtain ⟨k, hk⟩ : ∃ k, k = min (i + 1) (n - 1) := ⟨_, rfl⟩
  obtain ⟨y0, y1⟩ := hin.at (by omega) k
  have hc1 := hc i (by rw [← unhide hn]; exact hi)
  have hc2 := hc k (by rw [← unhide hn]; omega)
  have HG : Hid (gs l i = (at0 l i + at0 l k) / 2) := hide (by unfold gs; rw [← unhide hn, ← hk])
  clear hc
  obtain ⟨X, hX⟩ : ∃ X, at0 l i = X := ⟨_, rfl⟩
  obtain ⟨Y, hY⟩ : ∃ Y, at0 l k = Y := ⟨_, rfl⟩
  rw [hX, hY] at HG
  rw [hX] at x0 x1 hc1
  rw [hY] at y0 y1 hc2
  clear hX hY
  obtain ⟨G, hG⟩ : ∃ G, gs l i = G := ⟨_, rfl⟩
  rw [hG] at HG ⊢
  clear hG
  have hkn : k < n := by omega
  by_cases h : i + 1 < n
  · obtain rfl : k = i + 1 := by omega
    have hm : ¬ ((n : Int) - 1 < (i : Int) + 1) := by omega
    clear hk
    go_enter Try.func44, Try.ntmps44
    go_wp2
    go_quiet (fail)
    go_wp2
    go_ret
    exact ⟨ret_int (unhide HG).symm, nq, rfl⟩
  · obtain rfl : i = k := by omega
    obtain rfl : X = Y := by rw [hc1] at hc2; cases hc2; rfl
    have hm : (n : Int) - 1 = (i : Int) := by omega
    clear hk
    go_enter Try.func44, Try.ntmps44
    go_wp2
    go_quiet (fail)
    go_wp2
    go_ret
    exact ⟨ret_int (unhide HG).symm, nq, rfl⟩

set_option maxHeartbeats 1000000 in
theorem lift (a : Option Addr) (n cap : Nat) (l : List Int) (i : Nat) (w : World) (hn : Hid (n = l.length)) (hl : n ≤ 1000) (hi : i < n) (hin : In 100000 l) (hr : Row w a l) :
    Calls Try.prog 45 #[.slice a n cap, .int .i64 i] w fun e w' => e = .returned (.int .i64 (lf l i)) ∧ ∃ q, w' = w.drewN q := by
  obtain ⟨b, off, rfl, hc⟩ := row_cell hr (by rw [← unhide hn]; omega)
  obtain ⟨x0, x1⟩ := hin.at (by omega) i
  obtain ⟨k, hk⟩ : ∃ k, k = i - 1 := ⟨_, rfl⟩
  obtain ⟨y0, y1⟩ := hin.at (by omega) k
  have hc1 := hc i (by rw [← unhide hn]; exact hi)
  have hc2 := hc k (by rw [← unhide hn]; omega)
  have HG : Hid (lf l i = (at0 l k + at0 l i + 2) / 4) := hide (by unfold lf; rw [← hk])
  clear hc
  obtain ⟨X, hX⟩ : ∃ X, at0 l i = X := ⟨_, rfl⟩
  obtain ⟨Y, hY⟩ : ∃ Y, at0 l k = Y := ⟨_, rfl⟩
  rw [hX, hY] at HG
  rw [hX] at x0 x1 hc1
  rw [hY] at y0 y1 hc2
  clear hX hY
  obtain ⟨G, hG⟩ : ∃ G, lf l i = G := ⟨_, rfl⟩
  rw [hG] at HG ⊢
  clear hG
  have hkn : k < n := by omega
  by_cases h : 0 < i
  · have hm : (i : Int) - 1 = (k : Int) := by omega
    have hm0 : ¬ ((k : Int) < 0) := by omega
    clear hk
    go_enter Try.func45, Try.ntmps45
    go_wp2
    go_quiet (fail)
    go_wp2
    go_ret
    exact ⟨ret_int (unhide HG).symm, nq, rfl⟩
  · obtain rfl : i = 0 := by omega
    obtain rfl : k = 0 := by omega
    obtain rfl : X = Y := by rw [hc1] at hc2; cases hc2; rfl
    clear hk
    rw [Nat.add_zero] at hc1
    go_enter Try.func45, Try.ntmps45
    go_wp2
    go_quiet (fail)
    go_wp2
    go_ret
    exact ⟨ret_int (unhide HG).symm, nq, rfl⟩

end Go.Proofs.Ytjnmogmagngenae.Lap
