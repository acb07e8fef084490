/-
  tree.check, called with any list, any levels, any bound up to 8000: its contract.
-/
import Derived.Test.YtjnmogmagngenaeBeyond
namespace Go.Proofs.Ytjnmogmagngenae.Tre
open Go.RowKit
set_option linter.unusedVariables false

/-- The fault of a list, of so many levels, ahead of the first one: 0 where there is none. -/
def chk (l : List Int) (n b : Int) : Int :=
  if 32 < l.length then 4 else if n < 0 ∨ 5 < n then 1 else if l.length % 2 ^ n.toNat ≠ 0 then 3 else if l.any (out b) = true then 1 else 0
/-- An error as a value. -/
def errV (e : Int) : Value := if e = 0 then .nilIface else .iface 45 (.int .i64 e)
theorem errV_zero {e : Int} (h : e = 0) : errV e = .nilIface := by simp [errV, h]
theorem errV_ne {e : Int} (h : e ≠ 0) : errV e = .iface 45 (.int .i64 e) := by simp [errV, h]

theorem chk_zero {l : List Int} {n b : Int} (h : chk l n b = 0) : l.length ≤ 32 ∧ 0 ≤ n ∧ n ≤ 5 ∧ 2 ^ n.toNat ∣ l.length ∧ In b l := by
  unfold chk at h
  split at h
  · omega
  · split at h
    · omega
    · split at h
      · omega
      · split at h
        · omega
        · rename_i h1 h2 h3 h4
          refine ⟨by omega, by omega, by omega, Nat.dvd_of_mod_eq_zero (by omega), in_of_any (by simpa using h4)⟩
theorem chk_of {l : List Int} {n b : Int} (h1 : l.length ≤ 32) (h2 : 0 ≤ n) (h3 : n ≤ 5) (h4 : 2 ^ n.toNat ∣ l.length) (h5 : In b l) : chk l n b = 0 := by
  unfold chk
  rw [if_neg (by omega), if_neg (by omega), if_neg (by have := Nat.mod_eq_zero_of_dvd h4; omega), if_neg (by rw [any_of_in h5]; simp)]

set_option maxHeartbeats 2000000 in
theorem check (a : Option Addr) (cap : Nat) (l : List Int) (n b : Int) (w : World) (hl : l.length ≤ 9223372036854775807) (hb0 : 0 ≤ b) (hb9 : b ≤ 8000) (hr : Row w a l) :
    Calls Try.prog 39 #[.slice a l.length cap, .int .i64 n, .int .i64 b] w fun e w' => e = .returned (errV (chk l n b)) ∧ Below w.heap.size w w' := by
  by_cases h32 : 32 < l.length
  · have hv : errV (chk l n b) = .iface 45 (.int .i64 4) := by simp [errV, chk, h32]
    rw [hv]
    clear hv
    go_enter Try.func39, Try.ntmps39
    go_wp2
    go_ret
    exact ⟨rfl, Below.refl _ _⟩
  · by_cases h0 : n < 0
    · have hv : errV (chk l n b) = .iface 45 (.int .i64 1) := by simp [errV, chk, h32, h0]
      rw [hv]
      clear hv
      go_enter Try.func39, Try.ntmps39
      go_wp2
      go_ret
      exact ⟨rfl, Below.refl _ _⟩
    · by_cases h5 : 5 < n
      · have hv : errV (chk l n b) = .iface 45 (.int .i64 1) := by simp [errV, chk, h32, h5]
        rw [hv]
        clear hv
        go_enter Try.func39, Try.ntmps39
        go_wp2
        go_ret
        exact ⟨rfl, Below.refl _ _⟩
      · have hb1 : Below w.heap.size w (w.alloc (.cells #[.int .i64 b] 3)) := (Below.refl _ _).alloc (Nat.le_refl _) _
        have hr1 := hr.below hb1
        have hc1 := boxed_cell w b 3
        have hn : n = 0 ∨ n = 1 ∨ n = 2 ∨ n = 3 ∨ n = 4 ∨ n = 5 := by omega
        clear h0 h5
        rcases hn with rfl | rfl | rfl | rfl | rfl | rfl
        · have hmod : Int.tmod (l.length : Int) 1 = ((l.length % 1 : Nat) : Int) := rfl
          by_cases hm : l.length % 1 = 0
          · cases hany : l.any (out b)
            · have hv : errV (chk l 0 b) = .nilIface := errV_zero (by unfold chk; rw [if_neg h32, if_neg (by omega), if_neg (show ¬ (l.length % 2 ^ Int.toNat 0 ≠ 0) from fun h => h hm), if_neg (by rw [hany]; simp)])
              rw [hv]
              have HA := hide hany
              clear hv hany
              go_enter Try.func39, Try.ntmps39
              go_wp2_with fail
              refine (beyond b w).mono ?_
              rintro e w1 ⟨rfl, rfl⟩
              go_wp2_with fail
              refine (containsFunc b a cap l w.heap.size (w.alloc (.cells #[.int .i64 b] 3)) hb0 hb9 hl hr1 hc1).mono ?_
              rw [unhide HA]
              rintro e w1 ⟨rfl, rfl⟩
              go_wp2
              go_ret
              exact ⟨rfl, hb1⟩
            · have hv : errV (chk l 0 b) = .iface 45 (.int .i64 1) := by unfold chk; rw [if_neg h32, if_neg (by omega), if_neg (show ¬ (l.length % 2 ^ Int.toNat 0 ≠ 0) from fun h => h hm), if_pos hany]; rfl
              rw [hv]
              have HA := hide hany
              clear hv hany
              go_enter Try.func39, Try.ntmps39
              go_wp2_with fail
              refine (beyond b w).mono ?_
              rintro e w1 ⟨rfl, rfl⟩
              go_wp2_with fail
              refine (containsFunc b a cap l w.heap.size (w.alloc (.cells #[.int .i64 b] 3)) hb0 hb9 hl hr1 hc1).mono ?_
              rw [unhide HA]
              rintro e w1 ⟨rfl, rfl⟩
              go_wp2
              go_ret
              exact ⟨rfl, hb1⟩
          · first
              | (exfalso; omega)
              | (have hv : errV (chk l 0 b) = .iface 45 (.int .i64 3) := by simp [errV, chk, h32, hm]
                 rw [hv]
                 clear hv
                 go_enter Try.func39, Try.ntmps39
                 go_wp2
                 go_ret
                 exact ⟨rfl, Below.refl _ _⟩)
        · have hmod : Int.tmod (l.length : Int) 2 = ((l.length % 2 : Nat) : Int) := rfl
          by_cases hm : l.length % 2 = 0
          · cases hany : l.any (out b)
            · have hv : errV (chk l 1 b) = .nilIface := errV_zero (by unfold chk; rw [if_neg h32, if_neg (by omega), if_neg (show ¬ (l.length % 2 ^ Int.toNat 1 ≠ 0) from fun h => h hm), if_neg (by rw [hany]; simp)])
              rw [hv]
              have HA := hide hany
              clear hv hany
              go_enter Try.func39, Try.ntmps39
              go_wp2_with fail
              refine (beyond b w).mono ?_
              rintro e w1 ⟨rfl, rfl⟩
              go_wp2_with fail
              refine (containsFunc b a cap l w.heap.size (w.alloc (.cells #[.int .i64 b] 3)) hb0 hb9 hl hr1 hc1).mono ?_
              rw [unhide HA]
              rintro e w1 ⟨rfl, rfl⟩
              go_wp2
              go_ret
              exact ⟨rfl, hb1⟩
            · have hv : errV (chk l 1 b) = .iface 45 (.int .i64 1) := by unfold chk; rw [if_neg h32, if_neg (by omega), if_neg (show ¬ (l.length % 2 ^ Int.toNat 1 ≠ 0) from fun h => h hm), if_pos hany]; rfl
              rw [hv]
              have HA := hide hany
              clear hv hany
              go_enter Try.func39, Try.ntmps39
              go_wp2_with fail
              refine (beyond b w).mono ?_
              rintro e w1 ⟨rfl, rfl⟩
              go_wp2_with fail
              refine (containsFunc b a cap l w.heap.size (w.alloc (.cells #[.int .i64 b] 3)) hb0 hb9 hl hr1 hc1).mono ?_
              rw [unhide HA]
              rintro e w1 ⟨rfl, rfl⟩
              go_wp2
              go_ret
              exact ⟨rfl, hb1⟩
          · first
              | (exfalso; omega)
              | (have hv : errV (chk l 1 b) = .iface 45 (.int .i64 3) := by simp [errV, chk, h32, hm]
                 rw [hv]
                 clear hv
                 go_enter Try.func39, Try.ntmps39
                 go_wp2
                 go_ret
                 exact ⟨rfl, Below.refl _ _⟩)
        · have hmod : Int.tmod (l.length : Int) 4 = ((l.length % 4 : Nat) : Int) := rfl
          by_cases hm : l.length % 4 = 0
          · cases hany : l.any (out b)
            · have hv : errV (chk l 2 b) = .nilIface := errV_zero (by unfold chk; rw [if_neg h32, if_neg (by omega), if_neg (show ¬ (l.length % 2 ^ Int.toNat 2 ≠ 0) from fun h => h hm), if_neg (by rw [hany]; simp)])
              rw [hv]
              have HA := hide hany
              clear hv hany
              go_enter Try.func39, Try.ntmps39
              go_wp2_with fail
              refine (beyond b w).mono ?_
              rintro e w1 ⟨rfl, rfl⟩
              go_wp2_with fail
              refine (containsFunc b a cap l w.heap.size (w.alloc (.cells #[.int .i64 b] 3)) hb0 hb9 hl hr1 hc1).mono ?_
              rw [unhide HA]
              rintro e w1 ⟨rfl, rfl⟩
              go_wp2
              go_ret
              exact ⟨rfl, hb1⟩
            · have hv : errV (chk l 2 b) = .iface 45 (.int .i64 1) := by unfold chk; rw [if_neg h32, if_neg (by omega), if_neg (show ¬ (l.length % 2 ^ Int.toNat 2 ≠ 0) from fun h => h hm), if_pos hany]; rfl
              rw [hv]
              have HA := hide hany
              clear hv hany
              go_enter Try.func39, Try.ntmps39
              go_wp2_with fail
              refine (beyond b w).mono ?_
              rintro e w1 ⟨rfl, rfl⟩
              go_wp2_with fail
              refine (containsFunc b a cap l w.heap.size (w.alloc (.cells #[.int .i64 b] 3)) hb0 hb9 hl hr1 hc1).mono ?_
              rw [unhide HA]
              rintro e w1 ⟨rfl, rfl⟩
              go_wp2
              go_ret
              exact ⟨rfl, hb1⟩
          · first
              | (exfalso; omega)
              | (have hv : errV (chk l 2 b) = .iface 45 (.int .i64 3) := by simp [errV, chk, h32, hm]
                 rw [hv]
                 clear hv
                 go_enter Try.func39, Try.ntmps39
                 go_wp2
                 go_ret
                 exact ⟨rfl, Below.refl _ _⟩)
        · have hmod : Int.tmod (l.length : Int) 8 = ((l.length % 8 : Nat) : Int) := rfl
          by_cases hm : l.length % 8 = 0
          · cases hany : l.any (out b)
            · have hv : errV (chk l 3 b) = .nilIface := errV_zero (by unfold chk; rw [if_neg h32, if_neg (by omega), if_neg (show ¬ (l.length % 2 ^ Int.toNat 3 ≠ 0) from fun h => h hm), if_neg (by rw [hany]; simp)])
              rw [hv]
              have HA := hide hany
              clear hv hany
              go_enter Try.func39, Try.ntmps39
              go_wp2_with fail
              refine (beyond b w).mono ?_
              rintro e w1 ⟨rfl, rfl⟩
              go_wp2_with fail
              refine (containsFunc b a cap l w.heap.size (w.alloc (.cells #[.int .i64 b] 3)) hb0 hb9 hl hr1 hc1).mono ?_
              rw [unhide HA]
              rintro e w1 ⟨rfl, rfl⟩
              go_wp2
              go_ret
              exact ⟨rfl, hb1⟩
            · have hv : errV (chk l 3 b) = .iface 45 (.int .i64 1) := by unfold chk; rw [if_neg h32, if_neg (by omega), if_neg (show ¬ (l.length % 2 ^ Int.toNat 3 ≠ 0) from fun h => h hm), if_pos hany]; rfl
              rw [hv]
              have HA := hide hany
              clear hv hany
              go_enter Try.func39, Try.ntmps39
              go_wp2_with fail
              refine (beyond b w).mono ?_
              rintro e w1 ⟨rfl, rfl⟩
              go_wp2_with fail
              refine (containsFunc b a cap l w.heap.size (w.alloc (.cells #[.int .i64 b] 3)) hb0 hb9 hl hr1 hc1).mono ?_
              rw [unhide HA]
              rintro e w1 ⟨rfl, rfl⟩
              go_wp2
              go_ret
              exact ⟨rfl, hb1⟩
          · first
              | (exfalso; omega)
              | (have hv : errV (chk l 3 b) = .iface 45 (.int .i64 3) := by simp [errV, chk, h32, hm]
                 rw [hv]
                 clear hv
                 go_enter Try.func39, Try.ntmps39
                 go_wp2
                 go_ret
                 exact ⟨rfl, Below.refl _ _⟩)
        · have hmod : Int.tmod (l.length : Int) 16 = ((l.length % 16 : Nat) : Int) := rfl
          by_cases hm : l.length % 16 = 0
          · cases hany : l.any (out b)
            · have hv : errV (chk l 4 b) = .nilIface := errV_zero (by unfold chk; rw [if_neg h32, if_neg (by omega), if_neg (show ¬ (l.length % 2 ^ Int.toNat 4 ≠ 0) from fun h => h hm), if_neg (by rw [hany]; simp)])
              rw [hv]
              have HA := hide hany
              clear hv hany
              go_enter Try.func39, Try.ntmps39
              go_wp2_with fail
              refine (beyond b w).mono ?_
              rintro e w1 ⟨rfl, rfl⟩
              go_wp2_with fail
              refine (containsFunc b a cap l w.heap.size (w.alloc (.cells #[.int .i64 b] 3)) hb0 hb9 hl hr1 hc1).mono ?_
              rw [unhide HA]
              rintro e w1 ⟨rfl, rfl⟩
              go_wp2
              go_ret
              exact ⟨rfl, hb1⟩
            · have hv : errV (chk l 4 b) = .iface 45 (.int .i64 1) := by unfold chk; rw [if_neg h32, if_neg (by omega), if_neg (show ¬ (l.length % 2 ^ Int.toNat 4 ≠ 0) from fun h => h hm), if_pos hany]; rfl
              rw [hv]
              have HA := hide hany
              clear hv hany
              go_enter Try.func39, Try.ntmps39
              go_wp2_with fail
              refine (beyond b w).mono ?_
              rintro e w1 ⟨rfl, rfl⟩
              go_wp2_with fail
              refine (containsFunc b a cap l w.heap.size (w.alloc (.cells #[.int .i64 b] 3)) hb0 hb9 hl hr1 hc1).mono ?_
              rw [unhide HA]
              rintro e w1 ⟨rfl, rfl⟩
              go_wp2
              go_ret
              exact ⟨rfl, hb1⟩
          · first
              | (exfalso; omega)
              | (have hv : errV (chk l 4 b) = .iface 45 (.int .i64 3) := by simp [errV, chk, h32, hm]
                 rw [hv]
                 clear hv
                 go_enter Try.func39, Try.ntmps39
                 go_wp2
                 go_ret
                 exact ⟨rfl, Below.refl _ _⟩)
        · have hmod : Int.tmod (l.length : Int) 32 = ((l.length % 32 : Nat) : Int) := rfl
          by_cases hm : l.length % 32 = 0
          · cases hany : l.any (out b)
            · have hv : errV (chk l 5 b) = .nilIface := errV_zero (by unfold chk; rw [if_neg h32, if_neg (by omega), if_neg (show ¬ (l.length % 2 ^ Int.toNat 5 ≠ 0) from fun h => h hm), if_neg (by rw [hany]; simp)])
              rw [hv]
              have HA := hide hany
              clear hv hany
              go_enter Try.func39, Try.ntmps39
              go_wp2_with fail
              refine (beyond b w).mono ?_
              rintro e w1 ⟨rfl, rfl⟩
              go_wp2_with fail
              refine (containsFunc b a cap l w.heap.size (w.alloc (.cells #[.int .i64 b] 3)) hb0 hb9 hl hr1 hc1).mono ?_
              rw [unhide HA]
              rintro e w1 ⟨rfl, rfl⟩
              go_wp2
              go_ret
              exact ⟨rfl, hb1⟩
            · have hv : errV (chk l 5 b) = .iface 45 (.int .i64 1) := by unfold chk; rw [if_neg h32, if_neg (by omega), if_neg (show ¬ (l.length % 2 ^ Int.toNat 5 ≠ 0) from fun h => h hm), if_pos hany]; rfl
              rw [hv]
              have HA := hide hany
              clear hv hany
              go_enter Try.func39, Try.ntmps39
              go_wp2_with fail
              refine (beyond b w).mono ?_
              rintro e w1 ⟨rfl, rfl⟩
              go_wp2_with fail
              refine (containsFunc b a cap l w.heap.size (w.alloc (.cells #[.int .i64 b] 3)) hb0 hb9 hl hr1 hc1).mono ?_
              rw [unhide HA]
              rintro e w1 ⟨rfl, rfl⟩
              go_wp2
              go_ret
              exact ⟨rfl, hb1⟩
          · first
              | (exfalso; omega)
              | (have hv : errV (chk l 5 b) = .iface 45 (.int .i64 3) := by simp [errV, chk, h32, hm]
                 rw [hv]
                 clear hv
                 go_enter Try.func39, Try.ntmps39
                 go_wp2
                 go_ret
                 exact ⟨rfl, Below.refl _ _⟩)

theorem check_ok (a : Option Addr) (cap : Nat) (l : List Int) (n b : Int) (w : World) (hl : l.length ≤ 9223372036854775807) (hb0 : 0 ≤ b) (hb9 : b ≤ 8000) (hr : Row w a l) (h : Hid (chk l n b = 0)) :
    Calls Try.prog 39 #[.slice a l.length cap, .int .i64 n, .int .i64 b] w fun e w' => e = .returned .nilIface ∧ Below w.heap.size w w' := by
  have := check a cap l n b w hl hb0 hb9 hr
  rwa [errV_zero h] at this
theorem check_no (a : Option Addr) (cap : Nat) (l : List Int) (n b : Int) (w : World) (hl : l.length ≤ 9223372036854775807) (hb0 : 0 ≤ b) (hb9 : b ≤ 8000) (hr : Row w a l) (h : Hid (chk l n b ≠ 0)) :
    Calls Try.prog 39 #[.slice a l.length cap, .int .i64 n, .int .i64 b] w fun e w' => e = .returned (.iface 45 (.int .i64 (chk l n b))) ∧ Below w.heap.size w w' := by
  have := check a cap l n b w hl hb0 hb9 hr
  rwa [errV_ne h] at this

end Go.Proofs.Ytjnmogmagngenae.Tre
