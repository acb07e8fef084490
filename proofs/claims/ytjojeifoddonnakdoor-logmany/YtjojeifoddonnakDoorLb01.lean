/-
  band.Check, called with any sizes: its contract.
-/
import Derived.Test.YtjojeifoddonnakDoorLb00
import Derived.Deep.QuietTactic
import Derived.BigQuiet
namespace Go.Proofs.YtjojeifoddonnakDoor.Bnd
open Go.RowKit
open Go.Proofs.YtjojeifoddonnakDoor.Tre
set_option linter.unusedVariables false

theorem any_of (l : List Int) (k : Nat) (hk : k < l.length) (h : bad l[k] = true) : l.any bad = true :=
  List.any_eq_true.2 ⟨l[k], List.getElem_mem hk, h⟩
theorem any_step (l : List Int) (k : Nat) (hk : k < l.length) (h0 : (l.take k).any bad = false) (h : bad l[k] = false) : (l.take (k + 1)).any bad = false := by
  rw [List.take_succ_eq_append_getElem hk, List.any_append, h0]
  simp [h]

theorem size1 (n : Int) (w : World) : Calls Tryd.prog 21 #[.int .i64 n] w fun e w' => e = .returned (.bool (bad n)) ∧ w' = w := by
  by_cases h1 : n < 1
  · have h3 : decide (n < 1) = true := by simpa using h1
    go_enter Tryd.func21, Tryd.ntmps21
    go_wp2
    go_ret
    exact ⟨by simp [bad, h3], rfl⟩
  · have h2 : decide (n < 1) = false := by simpa using h1
    go_enter Tryd.func21, Tryd.ntmps21
    go_wp2
    go_ret
    exact ⟨by simp [bad, h2], rfl⟩

set_option maxHeartbeats 400000 in
theorem indexFunc (a : Option Addr) (cap : Nat) (l : List Int) (w : World) (hl : l.length ≤ 9223372036854775807) (hr : Row w a l) :
    Calls Tryd.prog 31 #[.slice a l.length cap, .func (.func 21) #[] #[]] w
      fun e w' => (∃ r : Int, e = .returned (.int .i64 r) ∧ (decide (0 ≤ r)) = l.any bad) ∧ w' = w := by
  go_enter Tryd.func31, Tryd.ntmps31
  go_wp2
  go_loop [8] (fun i => ∃ k : Nat, k ≤ l.length ∧ i = .int .i64 k ∧ (l.take k).any bad = false) (fun i => l.length - (intOf i).toNat)
  case atStart => exact ⟨0, Nat.zero_le _, rfl, by simp⟩
  case round =>
    obtain ⟨k, hk, rfl, hno⟩ := hrel
    have HNO : Hid ((l.take k).any bad = false) := hno
    clear hno
    by_cases hlt : k < l.length
    · obtain ⟨b, off, rfl, hb, hcs⟩ := hr.at hlt
      have hck := hcs k hlt
      clear hcs
      go_wp2_with (go_at_call 21; refine (size1 _ _).mono ?_; rintro e w' ⟨rfl, rfl⟩)
      · go_ret
        have hh : bad l[k] = true := by assumption
        exact ⟨⟨k, rfl, by rw [any_of l k hlt hh]; simp⟩, rfl⟩
      · have hh : bad l[k] = false := by assumption
        go_round
        case rel => exact ⟨k + 1, by omega, by go_num, any_step l k hlt HNO.out hh⟩
        case measure => simp [intOf]; omega
    · go_wp2
      go_ret
      have hh := HNO.out
      rw [List.take_of_length_le (by omega)] at hh
      exact ⟨⟨-1, rfl, by rw [hh]; rfl⟩, rfl⟩

theorem containsFunc (a : Option Addr) (cap : Nat) (l : List Int) (w : World) (hl : l.length ≤ 9223372036854775807) (hr : Row w a l) :
    Calls Tryd.prog 20 #[.slice a l.length cap, .func (.func 21) #[] #[]] w
      fun e w' => e = .returned (.bool (l.any bad)) ∧ w' = w := by
  go_enter Tryd.func20, Tryd.ntmps20
  go_wp2_with fail
  refine (indexFunc a cap l w hl hr).mono ?_
  rintro e w' ⟨⟨r, rfl, hr2⟩, rfl⟩
  have HR := hide hr2
  clear hr2
  go_wp2
  go_ret
  exact ⟨by rw [← unhide HR]; rfl, rfl⟩

/-- An error as a value. -/
def errB (e : Int) : Value := if e = 0 then .nilIface else .iface 41 (.int .i64 e)
theorem errB_zero {e : Int} (h : e = 0) : errB e = .nilIface := by simp [errB, h]
theorem errB_ne {e : Int} (h : e ≠ 0) : errB e = .iface 41 (.int .i64 e) := by simp [errB, h]
/-- What Check tells. -/
def tells (s : List Int) : Ending := .returned (.tuple #[.int .i64 (if bf s = 0 then (total s : Int) else 0), errB (bf s)])

set_option maxHeartbeats 1000000 in
theorem check (a : Option Addr) (cap : Nat) (s : List Int) (w : World) (hl : s.length ≤ 9223372036854775807) (hr : Row w a s) :
    Calls Tryd.prog 16 #[.slice a s.length cap] w fun e w' => e = tells s ∧ w' = w := by
  by_cases h0 : s.length = 0
  · have hv : tells s = .returned (.tuple #[.int .i64 0, .iface 41 (.int .i64 5)]) := by simp [tells, errB, bf, h0]
    have hz : ((s.length : Int) == 0) = true := by simp [h0]
    rw [hv]
    clear hv
    go_enter Tryd.func16, Tryd.ntmps16
    go_wp2
    go_ret2
    exact ⟨rfl, rfl⟩
  · have hz : ((s.length : Int) == 0) = false := by rw [beq_eq_false_iff_ne]; omega
    by_cases h8 : 8 < s.length
    · have hv : tells s = .returned (.tuple #[.int .i64 0, .iface 41 (.int .i64 4)]) := by simp [tells, errB, bf, h0, h8]
      rw [hv]
      clear hv h0
      go_enter Tryd.func16, Tryd.ntmps16
      go_wp2
      go_ret2
      exact ⟨rfl, rfl⟩
    · cases hany : s.any bad
      · have hsz : Sizes s := fun i hi => by
          rw [at_get hi]
          exact bad_no (by simpa using List.any_eq_false.1 hany _ (List.getElem_mem hi))
        have HA := hide hany
        have HSZ := hide hsz
        have HT : Hid (tells s = if 32 < total s then .returned (.tuple #[.int .i64 0, .iface 41 (.int .i64 4)]) else .returned (.tuple #[.int .i64 (total s : Int), .nilIface])) := hide (by
          by_cases h : 32 < total s
          · rw [if_pos h]; simp [tells, errB, bf, h0, h8, hany, h]
          · rw [if_neg h]; simp [tells, errB, bf, h0, h8, hany, h])
        obtain ⟨N, hN⟩ : ∃ N, s.length = N := ⟨_, rfl⟩
        have HN := hide hN
        have hcf := containsFunc a cap s w hl hr
        rw [unhide HA] at hcf
        rw [hN] at hcf hz h8 h0 hl ⊢
        clear hN hany hsz h0
        go_enter Tryd.func16, Tryd.ntmps16
        go_wp2_with fail
        refine hcf.mono ?_
        clear hcf
        rintro e w1 ⟨rfl, rfl⟩
        go_wp2
        go_loopw [4, 20] (fun t i wr => ∃ j T : Nat, j ≤ N ∧ i = .int .i64 j ∧ t = .int .i64 T ∧ Hid (T = pre s j) ∧ T ≤ 48 ∧ wr = w1) (fun _ i _ => N - (intOf i).toNat)
        case atStart => exact ⟨0, 0, Nat.zero_le _, rfl, rfl, rfl, by omega, rfl⟩
        case round =>
          obtain ⟨j, T, hj, rfl, rfl, HT2, hT, rfl⟩ := hrel
          by_cases hlt : j < N
          · have hlt' : j < s.length := by rw [unhide HN]; exact hlt
            obtain ⟨b, off, rfl, hb, hc⟩ := hr.at hlt'
            have c1 := hc j hlt'
            have h1 := unhide HSZ j hlt'
            have eX : s.getD j 0 = at0 s j := by rw [List.getD_eq_getElem?_getD]; rfl
            have HS : Hid (pre s (j + 1) = T + (at0 s j).toNat) := hide (by rw [pre_succ, unhide HT2])
            have h6 := pre_six (unhide HSZ) (j := j + 1) (by omega)
            rw [unhide HS] at h6
            rw [eX] at c1
            obtain ⟨X, hX⟩ : ∃ X : Nat, at0 s j = X := ⟨(at0 s j).toNat, by omega⟩
            rw [hX] at c1 HS h6 h1
            have hX2 : ((X : Int)).toNat = X := by omega
            rw [hX2] at HS h6
            have hj1 : j + 1 ≤ N := by omega
            have h48 : T + X ≤ 48 := by omega
            clear hc hX eX hlt' h1 h6 hX2
            go_wp2
            go_roundw
            case rel => exact ⟨j + 1, T + X, by omega, by go_num, by go_num, hide (unhide HS).symm, h48, by first | trivial | rfl⟩
            case measure => simp [intOf]; omega
          · obtain rfl : j = N := by omega
            have HT3 : Hid (total s = T) := hide (by rw [unhide HT2, ← unhide HN]; rfl)
            have ht := unhide HT
            rw [unhide HT3] at ht
            by_cases h : 32 < T
            · rw [if_pos h] at ht
              have HE := hide ht
              clear ht
              go_wp2
              go_ret2
              exact ⟨(unhide HE).symm, rfl⟩
            · rw [if_neg h] at ht
              have HE := hide ht
              clear ht
              go_wp2
              go_ret2
              exact ⟨(unhide HE).symm, rfl⟩
      · have hv : tells s = .returned (.tuple #[.int .i64 0, .iface 41 (.int .i64 1)]) := by simp [tells, errB, bf, h0, h8, hany]
        have hcf := containsFunc a cap s w hl hr
        rw [hany] at hcf
        rw [hv]
        clear hv h0 hany
        go_enter Tryd.func16, Tryd.ntmps16
        go_wp2_with fail
        refine hcf.mono ?_
        clear hcf
        rintro e w1 ⟨rfl, rfl⟩
        go_wp2
        go_ret2
        exact ⟨rfl, rfl⟩

theorem check_ok (a : Option Addr) (cap : Nat) (s : List Int) (w : World) (hl : s.length ≤ 9223372036854775807) (hr : Row w a s) (h : Hid (bf s = 0)) :
    Calls Tryd.prog 16 #[.slice a s.length cap] w fun e w' => e = .returned (.tuple #[.int .i64 (total s : Int), .nilIface]) ∧ w' = w := by
  have := check a cap s w hl hr
  unfold tells at this
  rwa [if_pos (unhide h), errB_zero (unhide h)] at this
theorem check_no (a : Option Addr) (cap : Nat) (s : List Int) (w : World) (hl : s.length ≤ 9223372036854775807) (hr : Row w a s) (h : Hid (bf s ≠ 0)) :
    Calls Tryd.prog 16 #[.slice a s.length cap] w fun e w' => e = .returned (.tuple #[.int .i64 0, .iface 41 (.int .i64 (bf s))]) ∧ w' = w := by
  have := check a cap s w hl hr
  unfold tells at this
  rwa [if_neg (unhide h), errB_ne (unhide h)] at this

end Go.Proofs.YtjojeifoddonnakDoor.Bnd

/-
  sound.Distance: by its contract.
-/
namespace Go.Proofs.YtjojeifoddonnakDoor.Pls
open Go.RowKit
set_option linter.unusedVariables false

theorem dist (n : Int) (w : World) (h0 : -1000000 ≤ n) (h1 : n ≤ 1000000) :
    Calls Tryd.prog 42 #[.int .i64 n] w fun e w' => e = .returned (.int .i64 (n.natAbs : Int)) ∧ w = w' := by
  go_enter Tryd.func42, Tryd.ntmps42
  go_wp2
  all_goals (go_ret; exact ⟨ret_int (by omega), rfl⟩)

end Go.Proofs.YtjojeifoddonnakDoor.Pls
