/-
  The document's own answers of chapter 1 (hornref1: Far, All, Sound, Two), by their contracts.
-/
import Derived.Test.YtjnmogmagngenaaDoorSoundMath
namespace Go.Proofs.YtjnmogmagngenaaDoor.Snd
open Go.RowKit
set_option linter.unusedVariables false

theorem refFar (n : Int) (w : World) (h0 : -1000000 ≤ n) (h1 : n ≤ 1000000) :
    Calls Tryd.prog 8 #[.int .i64 n] w fun e w' => e = .returned (.int .i64 (far n)) ∧ w' = w := by
  by_cases h : n < 0
  · go_enter Tryd.func8, Tryd.ntmps8
    go_wp2
    go_ret
    exact ⟨ret_int (by unfold far; rw [if_pos (by omega)]), rfl⟩
  · go_enter Tryd.func8, Tryd.ntmps8
    go_wp2
    go_ret
    exact ⟨ret_int (by unfold far; rw [if_neg (by omega)]), rfl⟩

theorem bey_lo {n : Int} (h : n < -1000) : bey n = true := by simp [bey, h]
theorem bey_hi {n : Int} (h : 1000 < n) : bey n = true := by simp [bey, h]
theorem bey_in {n : Int} (h : ¬ n < -1000) (k : ¬ 1000 < n) : bey n = false := by simp [bey, h, k]

set_option maxHeartbeats 400000 in
theorem refAll (a : Option Addr) (cap : Nat) (l : List Int) (w : World) (hl : l.length ≤ 9223372036854775807) (hr : Row w a l) :
    Calls Tryd.prog 19 #[.slice a l.length cap, .int .i64 1000] w fun e w' => e = .returned (.bool (!l.any bey)) ∧ w' = w := by
  go_enter Tryd.func19, Tryd.ntmps19
  go_wp2
  go_loop [5] (fun i => ∃ k : Nat, k ≤ l.length ∧ i = .int .i64 k ∧ Hid ((l.take k).any bey = false)) (fun i => l.length - (intOf i).toNat)
  case atStart => exact ⟨0, Nat.zero_le _, rfl, hide rfl⟩
  case round =>
    obtain ⟨k, hk, rfl, HN⟩ := hrel
    by_cases hlt : k < l.length
    · obtain ⟨b, off, rfl, hb, hcs⟩ := hr.at hlt
      have hck := hcs k hlt
      clear hcs
      by_cases h1 : l[k] < -1000
      · have HB := hide (any_of l k hlt (bey_lo h1))
        go_wp2
        go_ret
        exact ⟨by rw [unhide HB]; rfl, rfl⟩
      · have h1' : decide (l[k] < -1000) = false := by simpa using h1
        by_cases h2 : 1000 < l[k]
        · have HB := hide (any_of l k hlt (bey_hi h2))
          go_wp2
          go_ret
          exact ⟨by rw [unhide HB]; rfl, rfl⟩
        · have HB := hide (bey_in h1 h2)
          go_wp2
          go_round
          case rel => exact ⟨k + 1, by omega, by go_num, hide (any_step l k hlt (unhide HN) (unhide HB))⟩
          case measure => simp [intOf]; omega
    · go_wp2
      go_ret
      have hh := unhide HN
      rw [List.take_of_length_le (by omega)] at hh
      exact ⟨by rw [hh]; rfl, rfl⟩

theorem refSound (a : Option Addr) (cap : Nat) (l : List Int) (w : World) (hl : l.length ≤ 9223372036854775807) (hr : Row w a l) :
    Calls Tryd.prog 5 #[.slice a l.length cap] w fun e w' => e = .returned (.int .i64 (chk l)) ∧ w' = w := by
  by_cases h32 : 32 < l.length
  · have hv : chk l = 4 := by simp [chk, h32]
    rw [hv]
    clear hv
    go_enter Tryd.func5, Tryd.ntmps5
    go_wp2
    go_ret
    exact ⟨rfl, rfl⟩
  · cases hany : l.any bey
    · have hv : chk l = 0 := by simp [chk, h32, hany]
      rw [hv]
      have HA := hide hany
      clear hv hany
      go_enter Tryd.func5, Tryd.ntmps5
      go_wp2_with fail
      refine (refAll a cap l w hl hr).mono ?_
      rw [unhide HA]
      rintro e w' ⟨rfl, rfl⟩
      go_wp2
      go_ret
      exact ⟨rfl, rfl⟩
    · have hv : chk l = 1 := by simp [chk, h32, hany]
      rw [hv]
      have HA := hide hany
      clear hv hany
      go_enter Tryd.func5, Tryd.ntmps5
      go_wp2_with fail
      refine (refAll a cap l w hl hr).mono ?_
      rw [unhide HA]
      rintro e w' ⟨rfl, rfl⟩
      go_wp2
      go_ret
      exact ⟨rfl, rfl⟩

theorem refTwo (a : Option Addr) (cap : Nat) (l : List Int) (a' : Option Addr) (cap' : Nat) (m : List Int) (w : World) (hl : l.length ≤ 9223372036854775807) (hm : m.length ≤ 9223372036854775807) (hr : Row w a l) (hr' : Row w a' m) :
    Calls Tryd.prog 11 #[.slice a l.length cap, .slice a' m.length cap'] w fun e w' => e = .returned (.int .i64 (two l m)) ∧ w' = w := by
  by_cases h1 : chk l = 0
  · have H1 := hide h1
    by_cases h2 : chk m = 0
    · have H2 := hide h2
      by_cases h3 : l.length = m.length
      · have hv : two l m = 0 := by simp [two, h1, h2, h3]
        rw [hv]
        clear hv h1 h2
        have hb : ((l.length : Int) == (m.length : Int)) = true := by simp [h3]
        clear h3
        go_enter Tryd.func11, Tryd.ntmps11
        go_wp2_with fail
        refine (refSound a cap l w hl hr).mono ?_
        rw [unhide H1]
        rintro e w1 ⟨rfl, rfl⟩
        go_wp2_with fail
        refine (refSound a' cap' m _ hm hr').mono ?_
        rw [unhide H2]
        rintro e w2 ⟨rfl, rfl⟩
        go_wp2
        go_ret
        exact ⟨rfl, rfl⟩
      · have hv : two l m = 3 := by simp [two, h1, h2, h3]
        rw [hv]
        clear hv h1 h2
        have hb : ((l.length : Int) == (m.length : Int)) = false := by simp; omega
        clear h3
        go_enter Tryd.func11, Tryd.ntmps11
        go_wp2_with fail
        refine (refSound a cap l w hl hr).mono ?_
        rw [unhide H1]
        rintro e w1 ⟨rfl, rfl⟩
        go_wp2_with fail
        refine (refSound a' cap' m _ hm hr').mono ?_
        rw [unhide H2]
        rintro e w2 ⟨rfl, rfl⟩
        go_wp2
        go_ret
        exact ⟨rfl, rfl⟩
    · have hv : two l m = chk m := by simp [two, h1, h2]
      rw [hv]
      have hq : (chk m == 0) = false := by simpa using h2
      clear hv h1 h2
      go_enter Tryd.func11, Tryd.ntmps11
      go_wp2_with fail
      refine (refSound a cap l w hl hr).mono ?_
      rw [unhide H1]
      rintro e w1 ⟨rfl, rfl⟩
      go_wp2_with fail
      refine (refSound a' cap' m _ hm hr').mono ?_
      rintro e w2 ⟨rfl, rfl⟩
      go_wp2
      go_ret
      exact ⟨rfl, rfl⟩
  · have hv : two l m = chk l := by simp [two, h1]
    rw [hv]
    have hq : (chk l == 0) = false := by simpa using h1
    clear hv h1
    go_enter Tryd.func11, Tryd.ntmps11
    go_wp2_with fail
    refine (refSound a cap l w hl hr).mono ?_
    rintro e w1 ⟨rfl, rfl⟩
    go_wp2
    go_ret
    exact ⟨rfl, rfl⟩
end Go.Proofs.YtjnmogmagngenaaDoor.Snd
