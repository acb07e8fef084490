/-
  Whether any number of a row is beyond a bound, one by one.
-/
import Derived.Test.YtkkhgdkgbhdfaakGreatDoorRa00
import Derived.Deep.QuietTactic
import Derived.BigQuiet
namespace Go.Proofs.YtkkhgdkgbhdfaakGreatDoor.Tre
open Go.RowKit
set_option linter.unusedVariables false

theorem any_of (c : Int) (l : List Int) (k : Nat) (hk : k < l.length) (h : out c l[k] = true) : l.any (out c) = true :=
  List.any_eq_true.2 ⟨l[k], List.getElem_mem hk, h⟩
theorem any_step (c : Int) (l : List Int) (k : Nat) (hk : k < l.length) (h0 : (l.take k).any (out c) = false) (h : out c l[k] = false) : (l.take (k + 1)).any (out c) = false := by
  rw [List.take_succ_eq_append_getElem hk, List.any_append, h0]
  simp [h]

end Go.Proofs.YtkkhgdkgbhdfaakGreatDoor.Tre

/-
  sound.Beyond and what asks it of each number: slices.ContainsFunc, at whatever bound.
-/
namespace Go.Proofs.YtkkhgdkgbhdfaakGreatDoor.Tre
open Go.RowKit
set_option linter.unusedVariables false

theorem beyond1 (c n : Int) (B : Nat) (w : World) (h0 : 0 ≤ c) (h9 : c ≤ 8000) (hc : w.cell? ⟨B, 0, none⟩ = some (.int .i64 c)) :
    Calls Tryz.prog 160 #[.int .i64 n, .pointer (some ⟨B, 0, none⟩)] w fun e w' => e = .returned (.bool (out c n)) ∧ w' = w := by
  by_cases h1 : n < -c
  · have h3 : decide (n < -c) = true := by simpa using h1
    go_enter Tryz.func160, Tryz.ntmps160
    go_wp2
    go_ret
    exact ⟨by simp [out, h3], rfl⟩
  · have h2 : decide (n < -c) = false := by simpa using h1
    go_enter Tryz.func160, Tryz.ntmps160
    go_wp2
    go_ret
    exact ⟨by simp [out, h2], rfl⟩

set_option maxHeartbeats 400000 in
theorem indexFunc (c : Int) (a : Option Addr) (cap : Nat) (l : List Int) (B : Nat) (w : World) (h0 : 0 ≤ c) (h9 : c ≤ 8000) (hl : l.length ≤ 9223372036854775807) (hr : Row w a l) (hc : w.cell? ⟨B, 0, none⟩ = some (.int .i64 c)) :
    Calls Tryz.prog 110 #[.slice a l.length cap, .func (.func 160) #[] #[.pointer (some ⟨B, 0, none⟩)]] w
      fun e w' => (∃ r : Int, e = .returned (.int .i64 r) ∧ (decide (0 ≤ r)) = l.any (out c)) ∧ w' = w := by
  go_enter Tryz.func110, Tryz.ntmps110
  go_wp2
  go_loop [8] (fun i => ∃ k : Nat, k ≤ l.length ∧ i = .int .i64 k ∧ (l.take k).any (out c) = false) (fun i => l.length - (intOf i).toNat)
  case atStart => exact ⟨0, Nat.zero_le _, rfl, by simp⟩
  case round =>
    obtain ⟨k, hk, rfl, hno⟩ := hrel
    have HNO : Hid ((l.take k).any (out c) = false) := hno
    clear hno
    by_cases hlt : k < l.length
    · obtain ⟨b, off, rfl, hb, hcs⟩ := hr.at hlt
      have hck := hcs k hlt
      clear hcs
      go_wp2_with (go_at_call 160; refine (beyond1 c _ _ _ h0 h9 hc).mono ?_; rintro e w' ⟨rfl, rfl⟩)
      · go_ret
        have hh : out c l[k] = true := by assumption
        exact ⟨⟨k, rfl, by rw [any_of c l k hlt hh]; simp⟩, rfl⟩
      · have hh : out c l[k] = false := by assumption
        go_round
        case rel => exact ⟨k + 1, by omega, by go_num, any_step c l k hlt HNO.out hh⟩
        case measure => simp [intOf]; omega
    · go_wp2
      go_ret
      have hh := HNO.out
      rw [List.take_of_length_le (by omega)] at hh
      exact ⟨⟨-1, rfl, by rw [hh]; rfl⟩, rfl⟩

theorem containsFunc (c : Int) (a : Option Addr) (cap : Nat) (l : List Int) (B : Nat) (w : World) (h0 : 0 ≤ c) (h9 : c ≤ 8000) (hl : l.length ≤ 9223372036854775807) (hr : Row w a l) (hc : w.cell? ⟨B, 0, none⟩ = some (.int .i64 c)) :
    Calls Tryz.prog 79 #[.slice a l.length cap, .func (.func 160) #[] #[.pointer (some ⟨B, 0, none⟩)]] w
      fun e w' => e = .returned (.bool (l.any (out c))) ∧ w' = w := by
  go_enter Tryz.func79, Tryz.ntmps79
  go_wp2_with fail
  refine (indexFunc c a cap l B w h0 h9 hl hr hc).mono ?_
  rintro e w' ⟨⟨r, rfl, hr2⟩, rfl⟩
  have HR := hide hr2
  clear hr2
  go_wp2
  go_ret
  exact ⟨by rw [← unhide HR]; rfl, rfl⟩

theorem boxed_cell (w : World) (c : Int) (t : TypeId) : (w.alloc (.cells #[.int .i64 c] t)).cell? ⟨w.heap.size, 0, none⟩ = some (.int .i64 c) := by
  rw [World.cell?_alloc_at _ _ _ _ rfl]; rfl

theorem beyond (c : Int) (w : World) : Calls Tryz.prog 124 #[.int .i64 c] w fun e w' => e = .returned (.func (.func 160) #[] #[.pointer (some ⟨w.heap.size, 0, none⟩)]) ∧ w' = w.alloc (.cells #[.int .i64 c] 3) := by
  have hmf : ∀ (fn : Fn) (first cap : Array Value) (w : World), (Instr.makeFunc fn first cap).run Tryz.prog w = .ok (.func fn first cap) w := fun _ _ _ _ => rfl
  go_enter Tryz.func124, Tryz.ntmps124
  go_wp2
  go_ret
  exact ⟨rfl, rfl⟩

end Go.Proofs.YtkkhgdkgbhdfaakGreatDoor.Tre

/-
  sound.Check, at so many numbers as may be: by its contract.
-/
namespace Go.Proofs.YtkkhgdkgbhdfaakGreatDoor.Lap
open Go.RowKit
open Go.Proofs.YtkkhgdkgbhdfaakGreatDoor.Tre
set_option linter.unusedVariables false

theorem snd_ok (a : Option Addr) (cap : Nat) (l : List Int) (w : World) (hl : l.length ≤ 32) (hi : In 1000 l) (hr : Row w a l) :
    Calls Tryz.prog 164 #[.slice a l.length cap] w fun e w' => e = .returned .nilIface ∧ Below w.heap.size w w' := by
  have hb1 : Below w.heap.size w (w.alloc (.cells #[.int .i64 1000] 3)) := (Below.refl _ _).alloc (Nat.le_refl _) _
  have HA := hide (any_of_in hi)
  go_enter Tryz.func164, Tryz.ntmps164
  go_wp2_with fail
  refine (beyond 1000 w).mono ?_
  rintro e w1 ⟨rfl, rfl⟩
  go_wp2_with fail
  refine (containsFunc 1000 a cap l w.heap.size (w.alloc (.cells #[.int .i64 1000] 3)) (by omega) (by omega) (by omega) (hr.below hb1) (boxed_cell w 1000 3)).mono ?_
  rw [unhide HA]
  rintro e w1 ⟨rfl, rfl⟩
  go_wp2
  go_ret
  exact ⟨rfl, hb1⟩
theorem snd_no (a : Option Addr) (cap : Nat) (l : List Int) (w : World) (hl : l.length ≤ 32) (hi : Hid (l.any (out 1000) = true)) (hr : Row w a l) :
    Calls Tryz.prog 164 #[.slice a l.length cap] w fun e w' => e = .returned (.iface 58 (.int .i64 1)) ∧ Below w.heap.size w w' := by
  have hb1 : Below w.heap.size w (w.alloc (.cells #[.int .i64 1000] 3)) := (Below.refl _ _).alloc (Nat.le_refl _) _
  go_enter Tryz.func164, Tryz.ntmps164
  go_wp2_with fail
  refine (beyond 1000 w).mono ?_
  rintro e w1 ⟨rfl, rfl⟩
  go_wp2_with fail
  refine (containsFunc 1000 a cap l w.heap.size (w.alloc (.cells #[.int .i64 1000] 3)) (by omega) (by omega) (by omega) (hr.below hb1) (boxed_cell w 1000 3)).mono ?_
  rw [unhide hi]
  rintro e w1 ⟨rfl, rfl⟩
  go_wp2
  go_ret
  exact ⟨rfl, hb1⟩

end Go.Proofs.YtkkhgdkgbhdfaakGreatDoor.Lap

/-
  sound.Distance: by its contract.
-/
namespace Go.Proofs.YtkkhgdkgbhdfaakGreatDoor.Pls
open Go.RowKit
set_option linter.unusedVariables false

theorem dist (n : Int) (w : World) (h0 : -1000000 ≤ n) (h1 : n ≤ 1000000) :
    Calls Tryz.prog 102 #[.int .i64 n] w fun e w' => e = .returned (.int .i64 (n.natAbs : Int)) ∧ w = w' := by
  go_enter Tryz.func102, Tryz.ntmps102
  go_wp2
  all_goals (go_ret; exact ⟨ret_int (by omega), rfl⟩)

end Go.Proofs.YtkkhgdkgbhdfaakGreatDoor.Pls

/-
  hornref1.All, at any bound: by its contract.
-/
namespace Go.Proofs.YtkkhgdkgbhdfaakGreatDoor.Tre
open Go.RowKit
set_option linter.unusedVariables false

theorem out_lo {c n : Int} (h : n < -c) : out c n = true := by simp [out, h]
theorem out_hi {c n : Int} (h : c < n) : out c n = true := by simp [out, h]
theorem out_mid {c n : Int} (h : ¬ n < -c) (k : ¬ c < n) : out c n = false := by simp [out, h, k]

set_option maxHeartbeats 400000 in
theorem refAll (c : Int) (a : Option Addr) (cap : Nat) (l : List Int) (w : World) (hc0 : 0 ≤ c) (hc9 : c ≤ 8000) (hl : l.length ≤ 9223372036854775807) (hr : Row w a l) :
    Calls Tryz.prog 77 #[.slice a l.length cap, .int .i64 c] w fun e w' => e = .returned (.bool (!l.any (out c))) ∧ w' = w := by
  go_enter Tryz.func77, Tryz.ntmps77
  go_wp2
  go_loop [5] (fun i => ∃ k : Nat, k ≤ l.length ∧ i = .int .i64 k ∧ Hid ((l.take k).any (out c) = false)) (fun i => l.length - (intOf i).toNat)
  case atStart => exact ⟨0, Nat.zero_le _, rfl, hide rfl⟩
  case round =>
    obtain ⟨k, hk, rfl, HN⟩ := hrel
    by_cases hlt : k < l.length
    · obtain ⟨b, off, rfl, hb, hcs⟩ := hr.at hlt
      have hck := hcs k hlt
      clear hcs
      by_cases h1 : l[k] < -c
      · have h1' : decide (l[k] < -c) = true := by simpa using h1
        have HB := hide (any_of c l k hlt (out_lo h1))
        go_wp2
        go_ret
        exact ⟨by rw [unhide HB]; rfl, rfl⟩
      · have h1' : decide (l[k] < -c) = false := by simpa using h1
        by_cases h2 : c < l[k]
        · have h2' : decide (c < l[k]) = true := by simpa using h2
          have HB := hide (any_of c l k hlt (out_hi h2))
          go_wp2
          go_ret
          exact ⟨by rw [unhide HB]; rfl, rfl⟩
        · have h2' : decide (c < l[k]) = false := by simpa using h2
          have HB := hide (out_mid h1 h2)
          go_wp2
          go_round
          case rel => exact ⟨k + 1, by omega, by go_num, hide (any_step c l k hlt (unhide HN) (unhide HB))⟩
          case measure => simp [intOf]; omega
    · go_wp2
      go_ret
      have hh := unhide HN
      rw [List.take_of_length_le (by omega)] at hh
      exact ⟨by rw [hh]; rfl, rfl⟩

end Go.Proofs.YtkkhgdkgbhdfaakGreatDoor.Tre
