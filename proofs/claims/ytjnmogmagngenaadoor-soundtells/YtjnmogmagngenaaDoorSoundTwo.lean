/-
  What each function of package sound does, called with any slices: contracts, those of two slices and those that tell an error.
-/
import Derived.Test.YtjnmogmagngenaaDoorSound
namespace Go.Proofs.YtjnmogmagngenaaDoor.Snd
open Go.RowKit
set_option linter.unusedVariables false

theorem errV_zero {e : Int} (h : e = 0) : errV e = .nilIface := by simp [errV, h]
theorem errV_ne {e : Int} (h : e ≠ 0) : errV e = .iface 42 (.int .i64 e) := by simp [errV, h]

/-- The fault of two. -/
def two (l m : List Int) : Int := if chk l ≠ 0 then chk l else if chk m ≠ 0 then chk m else if l.length ≠ m.length then 3 else 0

theorem check_ok (a : Option Addr) (cap : Nat) (l : List Int) (w : World) (hl : l.length ≤ 9223372036854775807) (hr : Row w a l) (h : Hid (chk l = 0)) :
    Calls Tryd.prog 7 #[.slice a l.length cap] w fun e w' => e = .returned .nilIface ∧ Below w.heap.size w w' := by
  have := check a cap l w hl hr
  rwa [errV_zero h] at this
theorem check_no (a : Option Addr) (cap : Nat) (l : List Int) (w : World) (hl : l.length ≤ 9223372036854775807) (hr : Row w a l) (h : Hid (chk l ≠ 0)) :
    Calls Tryd.prog 7 #[.slice a l.length cap] w fun e w' => e = .returned (.iface 42 (.int .i64 (chk l))) ∧ Below w.heap.size w w' := by
  have := check a cap l w hl hr
  rwa [errV_ne h] at this

set_option maxHeartbeats 400000 in
theorem checkTwo (a : Option Addr) (cap : Nat) (l : List Int) (a' : Option Addr) (cap' : Nat) (m : List Int) (w : World) (hl : l.length ≤ 9223372036854775807) (hm : m.length ≤ 9223372036854775807) (hr : Row w a l) (hr' : Row w a' m) :
    Calls Tryd.prog 26 #[.slice a l.length cap, .slice a' m.length cap'] w fun e w' => e = .returned (errV (two l m)) ∧ Below w.heap.size w w' := by
  by_cases h1 : chk l = 0
  · have H1 := hide h1
    by_cases h2 : chk m = 0
    · have H2 := hide h2
      by_cases h3 : l.length = m.length
      · have hv : errV (two l m) = .nilIface := by rw [errV_zero]; simp [two, h1, h2, h3]
        rw [hv]
        clear hv h1 h2
        have hb : ((l.length : Int) == (m.length : Int)) = true := by simp [h3]
        clear h3
        go_enter Tryd.func26, Tryd.ntmps26
        go_wp2_with fail
        refine (check_ok a cap l w hl hr H1).mono ?_
        rintro e w1 ⟨rfl, hb1⟩
        have hr1 := hr'.below hb1
        go_wp2_with fail
        refine (check_ok a' cap' m w1 hm hr1 H2).mono ?_
        rintro e w2 ⟨rfl, hb2⟩
        go_wp2
        go_ret
        exact ⟨rfl, Below.chain hb1 hb2⟩
      · have hv : errV (two l m) = .iface 42 (.int .i64 3) := by rw [errV_ne] <;> simp [two, h1, h2, h3]
        rw [hv]
        clear hv h1 h2
        have hb : ((l.length : Int) == (m.length : Int)) = false := by simp; omega
        clear h3
        go_enter Tryd.func26, Tryd.ntmps26
        go_wp2_with fail
        refine (check_ok a cap l w hl hr H1).mono ?_
        rintro e w1 ⟨rfl, hb1⟩
        have hr1 := hr'.below hb1
        go_wp2_with fail
        refine (check_ok a' cap' m w1 hm hr1 H2).mono ?_
        rintro e w2 ⟨rfl, hb2⟩
        go_wp2
        go_ret
        exact ⟨rfl, Below.chain hb1 hb2⟩
    · have H2 := hide h2
      have hv : errV (two l m) = .iface 42 (.int .i64 (chk m)) := by rw [errV_ne] <;> simp [two, h1, h2]
      rw [hv]
      clear hv h1 h2
      go_enter Tryd.func26, Tryd.ntmps26
      go_wp2_with fail
      refine (check_ok a cap l w hl hr H1).mono ?_
      rintro e w1 ⟨rfl, hb1⟩
      have hr1 := hr'.below hb1
      go_wp2_with fail
      refine (check_no a' cap' m w1 hm hr1 H2).mono ?_
      rintro e w2 ⟨rfl, hb2⟩
      go_wp2
      go_ret
      exact ⟨rfl, Below.chain hb1 hb2⟩
  · have H1 := hide h1
    have hv : errV (two l m) = .iface 42 (.int .i64 (chk l)) := by rw [errV_ne] <;> simp [two, h1]
    rw [hv]
    clear hv h1
    go_enter Tryd.func26, Tryd.ntmps26
    go_wp2_with fail
    refine (check_no a cap l w hl hr H1).mono ?_
    rintro e w1 ⟨rfl, hb1⟩
    go_wp2
    go_ret
    exact ⟨rfl, hb1⟩

theorem checkTwo_ok (a : Option Addr) (cap : Nat) (l : List Int) (a' : Option Addr) (cap' : Nat) (m : List Int) (w : World) (hl : l.length ≤ 9223372036854775807) (hm : m.length ≤ 9223372036854775807) (hr : Row w a l) (hr' : Row w a' m) (h : Hid (two l m = 0)) :
    Calls Tryd.prog 26 #[.slice a l.length cap, .slice a' m.length cap'] w fun e w' => e = .returned .nilIface ∧ Below w.heap.size w w' := by
  have := checkTwo a cap l a' cap' m w hl hm hr hr'
  rwa [errV_zero h] at this
theorem checkTwo_no (a : Option Addr) (cap : Nat) (l : List Int) (a' : Option Addr) (cap' : Nat) (m : List Int) (w : World) (hl : l.length ≤ 9223372036854775807) (hm : m.length ≤ 9223372036854775807) (hr : Row w a l) (hr' : Row w a' m) (h : Hid (two l m ≠ 0)) :
    Calls Tryd.prog 26 #[.slice a l.length cap, .slice a' m.length cap'] w fun e w' => e = .returned (.iface 42 (.int .i64 (two l m))) ∧ Below w.heap.size w w' := by
  have := checkTwo a cap l a' cap' m w hl hm hr hr'
  rwa [errV_ne h] at this

theorem dists (a : Option Addr) (cap : Nat) (l : List Int) (w : World) (hl : Ok l) (hr : Row w a l) :
    Calls Tryd.prog 25 #[.slice a l.length cap] w fun e w' => e = .returned (.int .i64 (tot far l)) ∧ w' = w := by
  go_enter Tryd.func25, Tryd.ntmps25
  go_wp2_with fail
  refine (sumL a cap l w hl hr).mono ?_
  rintro e w2 ⟨rfl, rfl⟩
  go_wp2
  go_ret
  exact ⟨rfl, rfl⟩

theorem energy_ok (a : Option Addr) (cap : Nat) (l : List Int) (w : World) (hl : l.length ≤ 9223372036854775807) (hr : Row w a l) (h : Hid (chk l = 0)) :
    Calls Tryd.prog 9 #[.slice a l.length cap] w fun e w' => e = .returned (.tuple #[.int .i64 (tot sq l), .nilIface]) ∧ Below w.heap.size w w' := by
  go_enter Tryd.func9, Tryd.ntmps9
  go_wp2_with fail
  refine (check_ok a cap l w hl hr h).mono ?_
  rintro e w1 ⟨rfl, hb1⟩
  have hr1 := hr.below hb1
  go_wp2_with fail
  refine (sumE a cap l w1 (ok_of (unhide h)) hr1).mono ?_
  rintro e w2 ⟨rfl, rfl⟩
  go_wp2
  go_ret2
  exact ⟨rfl, hb1⟩
theorem energy_no (a : Option Addr) (cap : Nat) (l : List Int) (w : World) (hl : l.length ≤ 9223372036854775807) (hr : Row w a l) (h : Hid (chk l ≠ 0)) :
    Calls Tryd.prog 9 #[.slice a l.length cap] w fun e w' => e = .returned (.tuple #[.int .i64 0, .iface 42 (.int .i64 (chk l))]) ∧ Below w.heap.size w w' := by
  go_enter Tryd.func9, Tryd.ntmps9
  go_wp2_with fail
  refine (check_no a cap l w hl hr h).mono ?_
  rintro e w1 ⟨rfl, hb1⟩
  go_wp2
  go_ret2
  exact ⟨rfl, hb1⟩
theorem loud_ok (a : Option Addr) (cap : Nat) (l : List Int) (w : World) (hl : l.length ≤ 9223372036854775807) (hr : Row w a l) (h : Hid (chk l = 0)) :
    Calls Tryd.prog 10 #[.slice a l.length cap] w fun e w' => e = .returned (.tuple #[.int .i64 (tot far l), .nilIface]) ∧ Below w.heap.size w w' := by
  go_enter Tryd.func10, Tryd.ntmps10
  go_wp2_with fail
  refine (check_ok a cap l w hl hr h).mono ?_
  rintro e w1 ⟨rfl, hb1⟩
  have hr1 := hr.below hb1
  go_wp2_with fail
  refine (dists a cap l w1 (ok_of (unhide h)) hr1).mono ?_
  rintro e w2 ⟨rfl, rfl⟩
  go_wp2
  go_ret2
  exact ⟨rfl, hb1⟩
theorem loud_no (a : Option Addr) (cap : Nat) (l : List Int) (w : World) (hl : l.length ≤ 9223372036854775807) (hr : Row w a l) (h : Hid (chk l ≠ 0)) :
    Calls Tryd.prog 10 #[.slice a l.length cap] w fun e w' => e = .returned (.tuple #[.int .i64 0, .iface 42 (.int .i64 (chk l))]) ∧ Below w.heap.size w w' := by
  go_enter Tryd.func10, Tryd.ntmps10
  go_wp2_with fail
  refine (check_no a cap l w hl hr h).mono ?_
  rintro e w1 ⟨rfl, hb1⟩
  go_wp2
  go_ret2
  exact ⟨rfl, hb1⟩

theorem two_ok {l m : List Int} (h : two l m = 0) : Ok l ∧ Ok m ∧ l.length = m.length := by
  unfold two at h
  split at h
  · omega
  · split at h
    · omega
    · split at h
      · omega
      · rename_i h1 h2 h3
        exact ⟨ok_of (by simpa using h1), ok_of (by simpa using h2), by simpa using h3⟩

/-- How far the first k of two are apart. -/
def apTo (l m : List Int) : Nat → Int
  | 0 => 0
  | k + 1 => max (apTo l m k) (far (l.getD k 0 - m.getD k 0))
def ap (l m : List Int) : Int := apTo l m l.length

theorem getD_bd {l : List Int} (h : Ok l) (k : Nat) : -1000 ≤ l.getD k 0 ∧ l.getD k 0 ≤ 1000 := by
  by_cases hk : k < l.length
  · rw [List.getD_eq_getElem?_getD, List.getElem?_eq_getElem hk]; exact h.at hk
  · rw [List.getD_eq_getElem?_getD, List.getElem?_eq_none (by omega)]; simp

theorem apTo_bd (l m : List Int) (hl : Ok l) (hm : Ok m) (k : Nat) : 0 ≤ apTo l m k ∧ apTo l m k ≤ 2000 := by
  induction k with
  | zero => simp [apTo]
  | succ k ih =>
    have h1 := getD_bd hl k
    have h2 := getD_bd hm k
    unfold apTo far
    split <;> omega

theorem ap_step (l m : List Int) (k : Nat) (hl : k < l.length) (hm : k < m.length) : apTo l m (k + 1) = if apTo l m k < far (l[k] - m[k]) then far (l[k] - m[k]) else apTo l m k := by
  have e1 : l.getD k 0 = l[k] := by rw [List.getD_eq_getElem?_getD, List.getElem?_eq_getElem hl]; rfl
  have e2 : m.getD k 0 = m[k] := by rw [List.getD_eq_getElem?_getD, List.getElem?_eq_getElem hm]; rfl
  rw [apTo, e1, e2]
  split <;> omega
theorem quiet_plus {P : Program} {f : FuncId} {args : Array Value} {w : World} {n x : Nat} {v : Value}
    (h : Calls P f args (w.drewN (n + x)) fun e w' => e = .returned v ∧ w' = w.drewN (n + x)) : Calls P f args (w.drewN (n + x)) fun e w'' => e = .returned v ∧ ∃ m, w'' = w.drewN (n + m) :=
  h.mono fun _ _ ⟨he, hm⟩ => ⟨he, x, hm⟩
theorem sub_lo {x y : Int} (h : -1000 ≤ x) (k : y ≤ 1000) : -1000000 ≤ x - y := by omega
theorem sub_hi {x y : Int} (h : x ≤ 1000) (k : -1000 ≤ y) : x - y ≤ 1000000 := by omega

set_option maxHeartbeats 400000 in
theorem apart_ok (a : Option Addr) (cap : Nat) (l : List Int) (a' : Option Addr) (cap' : Nat) (m : List Int) (w : World) (hl : l.length ≤ 9223372036854775807) (hm : m.length ≤ 9223372036854775807) (hr : Row w a l) (hr' : Row w a' m) (h : Hid (two l m = 0)) :
    Calls Tryd.prog 12 #[.slice a l.length cap, .slice a' m.length cap'] w fun e w' => e = .returned (.tuple #[.int .i64 (ap l m), .nilIface]) ∧ Below w.heap.size w w' := by
  obtain ⟨ol, om, hlm⟩ := two_ok (unhide h)
  have HLM := hide hlm
  have i1 : l.length ≤ m.length := by omega
  have i2 : m.length ≤ l.length := by omega
  clear hlm
  go_enter Tryd.func12, Tryd.ntmps12
  go_wp2_with fail
  refine (checkTwo_ok a cap l a' cap' m w hl hm hr hr' h).mono ?_
  rintro e w1 ⟨rfl, hb1⟩
  have hr1 := hr.below hb1
  have hr2 := hr'.below hb1
  go_wp2
  go_loopw [7, 17] (fun t i wr => ∃ k : Nat, k ≤ l.length ∧ i = .int .i64 k ∧ t = .int .i64 (apTo l m k) ∧ ∃ n, wr = w1.drewN n) (fun _ i _ => l.length - (intOf i).toNat)
  case atStart => exact ⟨0, Nat.zero_le _, rfl, rfl, 0, rfl⟩
  case round =>
    obtain ⟨k, hk, rfl, rfl, n, rfl⟩ := hrel
    obtain ⟨b1, b2⟩ := apTo_bd l m ol om k
    by_cases hlt : k < l.length
    · obtain ⟨b, off, rfl, hb, hcs⟩ := hr1.at hlt
      have hck := hcs k hlt
      have hlt' : k < m.length := by omega
      obtain ⟨b', off', rfl, hb', hcs'⟩ := hr2.at hlt'
      have hck' := hcs' k hlt'
      clear hcs hcs'
      obtain ⟨e1, e2⟩ := ol.at hlt
      obtain ⟨e3, e4⟩ := om.at hlt'
      have HS := hide (ap_step l m k hlt hlt')
      have hsub : IntKind.i64.wrap (l[k] - m[k]) = l[k] - m[k] := IntWalk.i64_in _ (by omega)
      go_wp2
      go_quiet ((go_at_call 27; exact quiet_plus (distance (l[k] - m[k]) _ (sub_lo e1 e4) (sub_hi e2 e3))))
      go_wp2
      go_roundw
      case rel => exact ⟨k + 1, by omega, by go_num, by rw [unhide HS], _, rfl⟩
      case measure => simp [intOf]; omega
    · have hkl : k = l.length := by omega
      subst hkl
      go_wp2
      go_ret2
      exact ⟨rfl, below_drewN hb1 _⟩

theorem apart_no (a : Option Addr) (cap : Nat) (l : List Int) (a' : Option Addr) (cap' : Nat) (m : List Int) (w : World) (hl : l.length ≤ 9223372036854775807) (hm : m.length ≤ 9223372036854775807) (hr : Row w a l) (hr' : Row w a' m) (h : Hid (two l m ≠ 0)) :
    Calls Tryd.prog 12 #[.slice a l.length cap, .slice a' m.length cap'] w fun e w' => e = .returned (.tuple #[.int .i64 0, .iface 42 (.int .i64 (two l m))]) ∧ Below w.heap.size w w' := by
  go_enter Tryd.func12, Tryd.ntmps12
  go_wp2_with fail
  refine (checkTwo_no a cap l a' cap' m w hl hm hr hr' h).mono ?_
  rintro e w1 ⟨rfl, hb1⟩
  go_wp2
  go_ret2
  exact ⟨rfl, hb1⟩

theorem same_step {l m : List Int} {k : Nat} (hl : k < l.length) (hm : k < m.length) (h : l.take k = m.take k) (e : l[k] = m[k]) : l.take (k + 1) = m.take (k + 1) := by
  rw [List.take_succ_eq_append_getElem hl, List.take_succ_eq_append_getElem hm, h, e]
theorem same_not {l m : List Int} {k : Nat} (hl : k < l.length) (hm : k < m.length) (e : l[k] ≠ m[k]) : decide (l = m) = false := by
  apply decide_eq_false
  intro h
  subst h
  exact e rfl

set_option maxHeartbeats 400000 in
theorem ints (a : Option Addr) (cap : Nat) (l : List Int) (a' : Option Addr) (cap' : Nat) (m : List Int) (w : World) (hl : l.length ≤ 9223372036854775807) (hm : m.length ≤ 9223372036854775807) (hr : Row w a l) (hr' : Row w a' m) :
    Calls Tryd.prog 14 #[.slice a l.length cap, .slice a' m.length cap'] w fun e w' => e = .returned (.bool (decide (l = m))) ∧ ∃ n, w' = w.drewN n := by
  by_cases hlm : l.length = m.length
  · have HLM := hide hlm
    have i1 : l.length ≤ m.length := by omega
    have i2 : m.length ≤ l.length := by omega
    clear hlm
    go_enter Tryd.func14, Tryd.ntmps14
    go_wp2
    go_loopw [5] (fun i wr => ∃ k : Nat, k ≤ l.length ∧ i = .int .i64 k ∧ Hid (l.take k = m.take k) ∧ ∃ n, wr = w.drewN n) (fun i _ => l.length - (intOf i).toNat)
    case atStart => exact ⟨0, Nat.zero_le _, rfl, hide rfl, 0, rfl⟩
    case round =>
      obtain ⟨k, hk, rfl, HT, n, rfl⟩ := hrel
      by_cases hlt : k < l.length
      · obtain ⟨b, off, rfl, hb, hcs⟩ := hr.at hlt
        have hck := hcs k hlt
        have hlt' : k < m.length := by omega
        obtain ⟨b', off', rfl, hb', hcs'⟩ := hr'.at hlt'
        have hck' := hcs' k hlt'
        clear hcs hcs'
        by_cases heq : l[k] = m[k]
        · have HE := hide heq
          have hq : (l[k] == m[k]) = true := by simp [heq]
          clear heq
          go_wp2
          go_quiet (fail)
          go_wp2
          go_roundw
          case rel => exact ⟨k + 1, by omega, by go_num, hide (same_step hlt hlt' (unhide HT) (unhide HE)), _, rfl⟩
          case measure => simp [intOf]; omega
        · have HE := hide heq
          have hq : (l[k] == m[k]) = false := by simp [heq]
          clear heq
          go_wp2
          go_quiet (fail)
          go_wp2
          go_ret
          exact ⟨by rw [same_not hlt hlt' (unhide HE)]; rfl, n + nq, by rw [World.drewN_drewN]⟩
      · have hkl : k = l.length := by omega
        subst hkl
        go_wp2
        go_ret
        have h1 := unhide HT
        rw [List.take_of_length_le (Nat.le_refl _), List.take_of_length_le (by omega)] at h1
        exact ⟨by rw [decide_eq_true h1]; rfl, _, rfl⟩
  · have hb : ((l.length : Int) == (m.length : Int)) = false := by simp; omega
    have hne : decide (l = m) = false := decide_eq_false fun h => hlm (by rw [h])
    rw [hne]
    clear hlm hne
    go_enter Tryd.func14, Tryd.ntmps14
    go_wp2
    go_ret
    exact ⟨rfl, 0, rfl⟩
end Go.Proofs.YtjnmogmagngenaaDoor.Snd
