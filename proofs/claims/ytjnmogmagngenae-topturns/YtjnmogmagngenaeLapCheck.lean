/-
  lap.check, called with any list, any bound up to 8000: its contract.
-/
import Derived.Test.YtjnmogmagngenaeBeyond
namespace Go.Proofs.Ytjnmogmagngenae.Lap
open Go.RowKit
open Go.Proofs.Ytjnmogmagngenae.Tre
set_option linter.unusedVariables false

/-- The fault of so many numbers; that of a list: 0 where there is none. -/
def shp (N : Nat) : Int := if 32 < N then 4 else if N % 2 ≠ 0 then 3 else 0
def chk (l : List Int) (b : Int) : Int := if 32 < l.length then 4 else if l.length % 2 ≠ 0 then 3 else if l.any (out b) = true then 1 else 0
/-- An error as a value. -/
def errV (e : Int) : Value := if e = 0 then .nilIface else .iface 45 (.int .i64 e)
theorem errV_zero {e : Int} (h : e = 0) : errV e = .nilIface := by simp [errV, h]
theorem errV_ne {e : Int} (h : e ≠ 0) : errV e = .iface 45 (.int .i64 e) := by simp [errV, h]

theorem chk_zero {l : List Int} {b : Int} (h : chk l b = 0) : l.length ≤ 32 ∧ l.length = 2 * (l.length / 2) ∧ In b l := by
  unfold chk at h
  split at h
  · omega
  · split at h
    · omega
    · split at h
      · omega
      · rename_i h1 h2 h3
        refine ⟨by omega, by omega, in_of_any (by simpa using h3)⟩
theorem chk_of {l : List Int} {b : Int} (h1 : l.length ≤ 32) (h2 : l.length = 2 * (l.length / 2)) (h3 : In b l) : chk l b = 0 := by
  unfold chk
  rw [if_neg (by omega), if_neg (by omega), if_neg (by rw [any_of_in h3]; simp)]
theorem chk_shp {l : List Int} {b : Int} (h : shp l.length ≠ 0) : chk l b = shp l.length := by
  unfold shp at h
  unfold chk shp
  split
  · rfl
  · split
    · rfl
    · rename_i h1 h2
      rw [if_neg h1, if_neg h2] at h
      exact absurd rfl h
theorem chk_any {l : List Int} {b : Int} (h : shp l.length = 0) : chk l b = if l.any (out b) = true then 1 else 0 := by
  unfold shp at h
  unfold chk
  split
  · rename_i h1; rw [if_pos h1] at h; omega
  · rename_i h1
    rw [if_neg h1] at h
    split
    · rename_i h2; rw [if_pos h2] at h; omega
    · rfl

set_option maxHeartbeats 1000000 in
theorem check (a : Option Addr) (cap : Nat) (l : List Int) (b : Int) (w : World) (hl : l.length ≤ 9223372036854775807) (hb0 : 0 ≤ b) (hb9 : b ≤ 8000) (hr : Row w a l) :
    Calls Try.prog 42 #[.slice a l.length cap, .int .i64 b] w fun e w' => e = .returned (errV (chk l b)) ∧ Below w.heap.size w w' := by
  by_cases h32 : 32 < l.length
  · have hv : errV (chk l b) = .iface 45 (.int .i64 4) := by simp [errV, chk, h32]
    rw [hv]
    clear hv
    go_enter Try.func42, Try.ntmps42
    go_wp2
    go_ret
    exact ⟨rfl, Below.refl _ _⟩
  · have hb1 : Below w.heap.size w (w.alloc (.cells #[.int .i64 b] 3)) := (Below.refl _ _).alloc (Nat.le_refl _) _
    have hr1 := hr.below hb1
    have hc1 := boxed_cell w b 3
    have hmod : Int.tmod (l.length : Int) 2 = ((l.length % 2 : Nat) : Int) := rfl
    by_cases hm : l.length % 2 = 0
    · cases hany : l.any (out b)
      · have hv : errV (chk l b) = .nilIface := errV_zero (by unfold chk; rw [if_neg h32, if_neg (fun h => h hm), if_neg (by rw [hany]; simp)])
        rw [hv]
        have HA := hide hany
        clear hv hany
        go_enter Try.func42, Try.ntmps42
        go_wp2_with fail
        refine (beyond b w).mono ?_
        rintro e w1 ⟨rfl, rfl⟩
        go_wp2_with fail
        refine (containsFunc b a cap l w.heap.size (w.alloc (.cells #[.int .i64 b] 3)) hb0 hb9 hl hr1 hc1).mono ?_
        rw [unhide HA]
        rintro e w1 ⟨rfl, rfl⟩
        go_wp2
        go_ret
        exact ⟨rfl, hb1⟩
      · have hv : errV (chk l b) = .iface 45 (.int .i64 1) := by unfold chk; rw [if_neg h32, if_neg (fun h => h hm), if_pos hany]; rfl
        rw [hv]
        have HA := hide hany
        clear hv hany
        go_enter Try.func42, Try.ntmps42
        go_wp2_with fail
        refine (beyond b w).mono ?_
        rintro e w1 ⟨rfl, rfl⟩
        go_wp2_with fail
        refine (containsFunc b a cap l w.heap.size (w.alloc (.cells #[.int .i64 b] 3)) hb0 hb9 hl hr1 hc1).mono ?_
        rw [unhide HA]
        rintro e w1 ⟨rfl, rfl⟩
        go_wp2
        go_ret
        exact ⟨rfl, hb1⟩
    · have hv : errV (chk l b) = .iface 45 (.int .i64 3) := by simp [errV, chk, h32, hm]
      rw [hv]
      clear hv
      go_enter Try.func42, Try.ntmps42
      go_wp2
      go_ret
      exact ⟨rfl, Below.refl _ _⟩

theorem check_ok (a : Option Addr) (cap : Nat) (l : List Int) (b : Int) (w : World) (hl : l.length ≤ 9223372036854775807) (hb0 : 0 ≤ b) (hb9 : b ≤ 8000) (hr : Row w a l) (h : Hid (chk l b = 0)) :
    Calls Try.prog 42 #[.slice a l.length cap, .int .i64 b] w fun e w' => e = .returned .nilIface ∧ Below w.heap.size w w' := by
  have := check a cap l b w hl hb0 hb9 hr
  rwa [errV_zero h] at this
theorem check_no (a : Option Addr) (cap : Nat) (l : List Int) (b : Int) (w : World) (hl : l.length ≤ 9223372036854775807) (hb0 : 0 ≤ b) (hb9 : b ≤ 8000) (hr : Row w a l) (h : Hid (chk l b ≠ 0)) :
    Calls Try.prog 42 #[.slice a l.length cap, .int .i64 b] w fun e w' => e = .returned (.iface 45 (.int .i64 (chk l b))) ∧ Below w.heap.size w w' := by
  have := check a cap l b w hl hb0 hb9 hr
  rwa [errV_ne h] at this

end Go.Proofs.Ytjnmogmagngenae.Lap
