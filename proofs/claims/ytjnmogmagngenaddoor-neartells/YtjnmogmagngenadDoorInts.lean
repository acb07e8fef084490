/-
  hornsame.Ints, at any two lists: its contract.
-/
import Derived.Test.YtjnmogmagngenadDoorBase
import Derived.Deep.QuietTactic
import Derived.BigQuiet
namespace Go.Proofs.YtjnmogmagngenadDoor.Same
open Go.RowKit
set_option linter.unusedVariables false

theorem same_step {l m : List Int} {k : Nat} (hl : k < l.length) (hm : k < m.length) (h : l.take k = m.take k) (e : l[k] = m[k]) : l.take (k + 1) = m.take (k + 1) := by
  rw [List.take_succ_eq_append_getElem hl, List.take_succ_eq_append_getElem hm, h, e]
theorem same_not {l m : List Int} {k : Nat} (hl : k < l.length) (hm : k < m.length) (e : l[k] ≠ m[k]) : decide (l = m) = false := by
  apply decide_eq_false
  intro h
  subst h
  exact e rfl

set_option maxHeartbeats 400000 in
theorem ints (a : Option Addr) (cap : Nat) (l : List Int) (a' : Option Addr) (cap' : Nat) (m : List Int) (w : World) (hl : l.length ≤ 9223372036854775807) (hm : m.length ≤ 9223372036854775807) (hr : Row w a l) (hr' : Row w a' m) :
    Calls Tryd.prog 14 #[.slice a l.length cap, .slice a' m.length cap'] w fun e w' => e = .returned (.bool (decide (l = m))) ∧ ∃ n, w' = w.drewN n := by
  by_cases hlm : l.length = m.length
  · have HLM := hide hlm
    have i1 : l.length ≤ m.length := by omega
    have i2 : m.length ≤ l.length := by omega
    clear hlm
    go_enter Tryd.func14, Tryd.ntmps14
    go_wp2
    go_loopw [5] (fun i wr => ∃ k : Nat, k ≤ l.length ∧ i = .int .i64 k ∧ Hid (l.take k = m.take k) ∧ ∃ n, wr = w.drewN n) (fun i _ => l.length - (intOf i).toNat)
    case atStart => exact ⟨0, Nat.zero_le _, rfl, hide rfl, 0, rfl⟩
    case round =>
      obtain ⟨k, hk, rfl, HT, n, rfl⟩ := hrel
      by_cases hlt : k < l.length
      · obtain ⟨b, off, rfl, hb, hcs⟩ := hr.at hlt
        have hck := hcs k hlt
        have hlt' : k < m.length := by omega
        obtain ⟨b', off', rfl, hb', hcs'⟩ := hr'.at hlt'
        have hck' := hcs' k hlt'
        clear hcs hcs'
        by_cases heq : l[k] = m[k]
        · have HE := hide heq
          have hq : (l[k] == m[k]) = true := by simp [heq]
          clear heq
          go_wp2
          go_quiet (fail)
          go_wp2
          go_roundw
          case rel => exact ⟨k + 1, by omega, by go_num, hide (same_step hlt hlt' (unhide HT) (unhide HE)), _, rfl⟩
          case measure => simp [intOf]; omega
        · have HE := hide heq
          have hq : (l[k] == m[k]) = false := by simp [heq]
          clear heq
          go_wp2
          go_quiet (fail)
          go_wp2
          go_ret
          exact ⟨by rw [same_not hlt hlt' (unhide HE)]; rfl, n + nq, by rw [World.drewN_drewN]⟩
      · have hkl : k = l.length := by omega
        subst hkl
        go_wp2
        go_ret
        have h1 := unhide HT
        rw [List.take_of_length_le (Nat.le_refl _), List.take_of_length_le (by omega)] at h1
        exact ⟨by rw [decide_eq_true h1]; rfl, _, rfl⟩
  · have hb : ((l.length : Int) == (m.length : Int)) = false := by simp; omega
    have hne : decide (l = m) = false := decide_eq_false fun h => hlm (by rw [h])
    rw [hne]
    clear hlm hne
    go_enter Tryd.func14, Tryd.ntmps14
    go_wp2
    go_ret
    exact ⟨rfl, 0, rfl⟩
/-- .. where they are the same. -/
theorem ints_same (a : Option Addr) (cap : Nat) (a' : Option Addr) (cap' : Nat) (l : List Int) (w : World) (hl : l.length ≤ 9223372036854775807) (hr : Row w a l) (hr' : Row w a' l) :
    Calls Tryd.prog 14 #[.slice a l.length cap, .slice a' l.length cap'] w fun e w' => e = .returned (.bool true) ∧ Below w.heap.size w w' :=
  (ints a cap l a' cap' l w hl hl hr hr').mono fun e w' ⟨he, n, hn⟩ => ⟨by rw [he, decide_eq_true rfl], by rw [hn]; exact ⟨rfl, rfl, rfl, Nat.le_refl _, fun _ _ => rfl⟩⟩

end Go.Proofs.YtjnmogmagngenadDoor.Same
