/-
  Whether any number of a row is beyond a bound, one by one.
-/
import Derived.Test.YtjojeifoddonnakGreatLc00
import Derived.Deep.QuietTactic
import Derived.BigQuiet
namespace Go.Proofs.YtjojeifoddonnakGreat.Tre
open Go.RowKit
set_option linter.unusedVariables false

theorem any_of (c : Int) (l : List Int) (k : Nat) (hk : k < l.length) (h : out c l[k] = true) : l.any (out c) = true :=
  List.any_eq_true.2 ⟨l[k], List.getElem_mem hk, h⟩
theorem any_step (c : Int) (l : List Int) (k : Nat) (hk : k < l.length) (h0 : (l.take k).any (out c) = false) (h : out c l[k] = false) : (l.take (k + 1)).any (out c) = false := by
  rw [List.take_succ_eq_append_getElem hk, List.any_append, h0]
  simp [h]

end Go.Proofs.YtjojeifoddonnakGreat.Tre

/-
  sound.Beyond and what asks it of each number: slices.ContainsFunc, at whatever bound.
-/
namespace Go.Proofs.YtjojeifoddonnakGreat.Tre
open Go.RowKit
set_option linter.unusedVariables false

theorem beyond1 (c n : Int) (B : Nat) (w : World) (h0 : 0 ≤ c) (h9 : c ≤ 8000) (hc : w.cell? ⟨B, 0, none⟩ = some (.int .i64 c)) :
    Calls Tryz.prog 90 #[.int .i64 n, .pointer (some ⟨B, 0, none⟩)] w fun e w' => e = .returned (.bool (out c n)) ∧ w' = w := by
  by_cases h1 : n < -c
  · have h3 : decide (n < -c) = true := by simpa using h1
    go_enter Tryz.func90, Tryz.ntmps90
    go_wp2
    go_ret
    exact ⟨by simp [out, h3], rfl⟩
  · have h2 : decide (n < -c) = false := by simpa using h1
    go_enter Tryz.func90, Tryz.ntmps90
    go_wp2
    go_ret
    exact ⟨by simp [out, h2], rfl⟩

set_option maxHeartbeats 400000 in
theorem indexFunc (c : Int) (a : Option Addr) (cap : Nat) (l : List Int) (B : Nat) (w : World) (h0 : 0 ≤ c) (h9 : c ≤ 8000) (hl : l.length ≤ 9223372036854775807) (hr : Row w a l) (hc : w.cell? ⟨B, 0, none⟩ = some (.int .i64 c)) :
    Calls Tryz.prog 77 #[.slice a l.length cap, .func (.func 90) #[] #[.pointer (some ⟨B, 0, none⟩)]] w
      fun e w' => (∃ r : Int, e = .returned (.int .i64 r) ∧ (decide (0 ≤ r)) = l.any (out c)) ∧ w' = w := by
  go_enter Tryz.func77, Tryz.ntmps77
  go_wp2
  go_loop [8] (fun i => ∃ k : Nat, k ≤ l.length ∧ i = .int .i64 k ∧ (l.take k).any (out c) = false) (fun i => l.length - (intOf i).toNat)
  case atStart => exact ⟨0, Nat.zero_le _, rfl, by simp⟩
  case round =>
    obtain ⟨k, hk, rfl, hno⟩ := hrel
    have HNO : Hid ((l.take k).any (out c) = false) := hno
    clear hno
    by_cases hlt : k < l.length
    · obtain ⟨b, off, rfl, hb, hcs⟩ := hr.at hlt
      have hck := hcs k hlt
      clear hcs
      go_wp2_with (go_at_call 90; refine (beyond1 c _ _ _ h0 h9 hc).mono ?_; rintro e w' ⟨rfl, rfl⟩)
      · go_ret
        have hh : out c l[k] = true := by assumption
        exact ⟨⟨k, rfl, by rw [any_of c l k hlt hh]; simp⟩, rfl⟩
      · have hh : out c l[k] = false := by assumption
        go_round
        case rel => exact ⟨k + 1, by omega, by go_num, any_step c l k hlt HNO.out hh⟩
        case measure => simp [intOf]; omega
    · go_wp2
      go_ret
      have hh := HNO.out
      rw [List.take_of_length_le (by omega)] at hh
      exact ⟨⟨-1, rfl, by rw [hh]; rfl⟩, rfl⟩

theorem containsFunc (c : Int) (a : Option Addr) (cap : Nat) (l : List Int) (B : Nat) (w : World) (h0 : 0 ≤ c) (h9 : c ≤ 8000) (hl : l.length ≤ 9223372036854775807) (hr : Row w a l) (hc : w.cell? ⟨B, 0, none⟩ = some (.int .i64 c)) :
    Calls Tryz.prog 45 #[.slice a l.length cap, .func (.func 90) #[] #[.pointer (some ⟨B, 0, none⟩)]] w
      fun e w' => e = .returned (.bool (l.any (out c))) ∧ w' = w := by
  go_enter Tryz.func45, Tryz.ntmps45
  go_wp2_with fail
  refine (indexFunc c a cap l B w h0 h9 hl hr hc).mono ?_
  rintro e w' ⟨⟨r, rfl, hr2⟩, rfl⟩
  have HR := hide hr2
  clear hr2
  go_wp2
  go_ret
  exact ⟨by rw [← unhide HR]; rfl, rfl⟩

theorem boxed_cell (w : World) (c : Int) (t : TypeId) : (w.alloc (.cells #[.int .i64 c] t)).cell? ⟨w.heap.size, 0, none⟩ = some (.int .i64 c) := by
  rw [World.cell?_alloc_at _ _ _ _ rfl]; rfl

theorem beyond (c : Int) (w : World) : Calls Tryz.prog 60 #[.int .i64 c] w fun e w' => e = .returned (.func (.func 90) #[] #[.pointer (some ⟨w.heap.size, 0, none⟩)]) ∧ w' = w.alloc (.cells #[.int .i64 c] 3) := by
  have hmf : ∀ (fn : Fn) (first cap : Array Value) (w : World), (Instr.makeFunc fn first cap).run Tryz.prog w = .ok (.func fn first cap) w := fun _ _ _ _ => rfl
  go_enter Tryz.func60, Tryz.ntmps60
  go_wp2
  go_ret
  exact ⟨rfl, rfl⟩

end Go.Proofs.YtjojeifoddonnakGreat.Tre

/-
  sound.Check, at so many numbers as may be: by its contract.
-/
namespace Go.Proofs.YtjojeifoddonnakGreat.Lap
open Go.RowKit
open Go.Proofs.YtjojeifoddonnakGreat.Tre
set_option linter.unusedVariables false

theorem snd_ok (a : Option Addr) (cap : Nat) (l : List Int) (w : World) (hl : l.length ≤ 32) (hi : In 1000 l) (hr : Row w a l) :
    Calls Tryz.prog 91 #[.slice a l.length cap] w fun e w' => e = .returned .nilIface ∧ Below w.heap.size w w' := by
  have hb1 : Below w.heap.size w (w.alloc (.cells #[.int .i64 1000] 3)) := (Below.refl _ _).alloc (Nat.le_refl _) _
  have HA := hide (any_of_in hi)
  go_enter Tryz.func91, Tryz.ntmps91
  go_wp2_with fail
  refine (beyond 1000 w).mono ?_
  rintro e w1 ⟨rfl, rfl⟩
  go_wp2_with fail
  refine (containsFunc 1000 a cap l w.heap.size (w.alloc (.cells #[.int .i64 1000] 3)) (by omega) (by omega) (by omega) (hr.below hb1) (boxed_cell w 1000 3)).mono ?_
  rw [unhide HA]
  rintro e w1 ⟨rfl, rfl⟩
  go_wp2
  go_ret
  exact ⟨rfl, hb1⟩
theorem snd_no (a : Option Addr) (cap : Nat) (l : List Int) (w : World) (hl : l.length ≤ 32) (hi : Hid (l.any (out 1000) = true)) (hr : Row w a l) :
    Calls Tryz.prog 91 #[.slice a l.length cap] w fun e w' => e = .returned (.iface 60 (.int .i64 1)) ∧ Below w.heap.size w w' := by
  have hb1 : Below w.heap.size w (w.alloc (.cells #[.int .i64 1000] 3)) := (Below.refl _ _).alloc (Nat.le_refl _) _
  go_enter Tryz.func91, Tryz.ntmps91
  go_wp2_with fail
  refine (beyond 1000 w).mono ?_
  rintro e w1 ⟨rfl, rfl⟩
  go_wp2_with fail
  refine (containsFunc 1000 a cap l w.heap.size (w.alloc (.cells #[.int .i64 1000] 3)) (by omega) (by omega) (by omega) (hr.below hb1) (boxed_cell w 1000 3)).mono ?_
  rw [unhide hi]
  rintro e w1 ⟨rfl, rfl⟩
  go_wp2
  go_ret
  exact ⟨rfl, hb1⟩

end Go.Proofs.YtjojeifoddonnakGreat.Lap

/-
  sound.Distance: by its contract.
-/
namespace Go.Proofs.YtjojeifoddonnakGreat.Pls
open Go.RowKit
set_option linter.unusedVariables false

theorem dist (n : Int) (w : World) (h0 : -1000000 ≤ n) (h1 : n ≤ 1000000) :
    Calls Tryz.prog 44 #[.int .i64 n] w fun e w' => e = .returned (.int .i64 (n.natAbs : Int)) ∧ w = w' := by
  go_enter Tryz.func44, Tryz.ntmps44
  go_wp2
  all_goals (go_ret; exact ⟨ret_int (by omega), rfl⟩)

end Go.Proofs.YtjojeifoddonnakGreat.Pls

/-
  band.Check, called with any sizes: its contract.
-/
namespace Go.Proofs.YtjojeifoddonnakGreat.Bnd
open Go.RowKit
open Go.Proofs.YtjojeifoddonnakGreat.Tre
set_option linter.unusedVariables false

theorem any_of (l : List Int) (k : Nat) (hk : k < l.length) (h : bad l[k] = true) : l.any bad = true :=
  List.any_eq_true.2 ⟨l[k], List.getElem_mem hk, h⟩
theorem any_step (l : List Int) (k : Nat) (hk : k < l.length) (h0 : (l.take k).any bad = false) (h : bad l[k] = false) : (l.take (k + 1)).any bad = false := by
  rw [List.take_succ_eq_append_getElem hk, List.any_append, h0]
  simp [h]

theorem size1 (n : Int) (w : World) : Calls Tryz.prog 46 #[.int .i64 n] w fun e w' => e = .returned (.bool (bad n)) ∧ w' = w := by
  by_cases h1 : n < 1
  · have h3 : decide (n < 1) = true := by simpa using h1
    go_enter Tryz.func46, Tryz.ntmps46
    go_wp2
    go_ret
    exact ⟨by simp [bad, h3], rfl⟩
  · have h2 : decide (n < 1) = false := by simpa using h1
    go_enter Tryz.func46, Tryz.ntmps46
    go_wp2
    go_ret
    exact ⟨by simp [bad, h2], rfl⟩

set_option maxHeartbeats 400000 in
theorem indexFunc (a : Option Addr) (cap : Nat) (l : List Int) (w : World) (hl : l.length ≤ 9223372036854775807) (hr : Row w a l) :
    Calls Tryz.prog 77 #[.slice a l.length cap, .func (.func 46) #[] #[]] w
      fun e w' => (∃ r : Int, e = .returned (.int .i64 r) ∧ (decide (0 ≤ r)) = l.any bad) ∧ w' = w := by
  go_enter Tryz.func77, Tryz.ntmps77
  go_wp2
  go_loop [8] (fun i => ∃ k : Nat, k ≤ l.length ∧ i = .int .i64 k ∧ (l.take k).any bad = false) (fun i => l.length - (intOf i).toNat)
  case atStart => exact ⟨0, Nat.zero_le _, rfl, by simp⟩
  case round =>
    obtain ⟨k, hk, rfl, hno⟩ := hrel
    have HNO : Hid ((l.take k).any bad = false) := hno
    clear hno
    by_cases hlt : k < l.length
    · obtain ⟨b, off, rfl, hb, hcs⟩ := hr.at hlt
      have hck := hcs k hlt
      clear hcs
      go_wp2_with (go_at_call 46; refine (size1 _ _).mono ?_; rintro e w' ⟨rfl, rfl⟩)
      · go_ret
        have hh : bad l[k] = true := by assumption
        exact ⟨⟨k, rfl, by rw [any_of l k hlt hh]; simp⟩, rfl⟩
      · have hh : bad l[k] = false := by assumption
        go_round
        case rel => exact ⟨k + 1, by omega, by go_num, any_step l k hlt HNO.out hh⟩
        case measure => simp [intOf]; omega
    · go_wp2
      go_ret
      have hh := HNO.out
      rw [List.take_of_length_le (by omega)] at hh
      exact ⟨⟨-1, rfl, by rw [hh]; rfl⟩, rfl⟩

theorem containsFunc (a : Option Addr) (cap : Nat) (l : List Int) (w : World) (hl : l.length ≤ 9223372036854775807) (hr : Row w a l) :
    Calls Tryz.prog 45 #[.slice a l.length cap, .func (.func 46) #[] #[]] w
      fun e w' => e = .returned (.bool (l.any bad)) ∧ w' = w := by
  go_enter Tryz.func45, Tryz.ntmps45
  go_wp2_with fail
  refine (indexFunc a cap l w hl hr).mono ?_
  rintro e w' ⟨⟨r, rfl, hr2⟩, rfl⟩
  have HR := hide hr2
  clear hr2
  go_wp2
  go_ret
  exact ⟨by rw [← unhide HR]; rfl, rfl⟩

/-- An error as a value. -/
def errB (e : Int) : Value := if e = 0 then .nilIface else .iface 60 (.int .i64 e)
theorem errB_zero {e : Int} (h : e = 0) : errB e = .nilIface := by simp [errB, h]
theorem errB_ne {e : Int} (h : e ≠ 0) : errB e = .iface 60 (.int .i64 e) := by simp [errB, h]
/-- What Check tells. -/
def tells (s : List Int) : Ending := .returned (.tuple #[.int .i64 (if bf s = 0 then (total s : Int) else 0), errB (bf s)])

set_option maxHeartbeats 1000000 in
theorem check (a : Option Addr) (cap : Nat) (s : List Int) (w : World) (hl : s.length ≤ 9223372036854775807) (hr : Row w a s) :
    Calls Tryz.prog 20 #[.slice a s.length cap] w fun e w' => e = tells s ∧ w' = w := by
  by_cases h0 : s.length = 0
  · have hv : tells s = .returned (.tuple #[.int .i64 0, .iface 60 (.int .i64 5)]) := by simp [tells, errB, bf, h0]
    have hz : ((s.length : Int) == 0) = true := by simp [h0]
    rw [hv]
    clear hv
    go_enter Tryz.func20, Tryz.ntmps20
    go_wp2
    go_ret2
    exact ⟨rfl, rfl⟩
  · have hz : ((s.length : Int) == 0) = false := by rw [beq_eq_false_iff_ne]; omega
    by_cases h8 : 8 < s.length
    · have hv : tells s = .returned (.tuple #[.int .i64 0, .iface 60 (.int .i64 4)]) := by simp [tells, errB, bf, h0, h8]
      rw [hv]
      clear hv h0
      go_enter Tryz.func20, Tryz.ntmps20
      go_wp2
      go_ret2
      exact ⟨rfl, rfl⟩
    · cases hany : s.any bad
      · have hsz : Sizes s := fun i hi => by
          rw [at_get hi]
          exact bad_no (by simpa using List.any_eq_false.1 hany _ (List.getElem_mem hi))
        have HA := hide hany
        have HSZ := hide hsz
        have HT : Hid (tells s = if 32 < total s then .returned (.tuple #[.int .i64 0, .iface 60 (.int .i64 4)]) else .returned (.tuple #[.int .i64 (total s : Int), .nilIface])) := hide (by
          by_cases h : 32 < total s
          · rw [if_pos h]; simp [tells, errB, bf, h0, h8, hany, h]
          · rw [if_neg h]; simp [tells, errB, bf, h0, h8, hany, h])
        obtain ⟨N, hN⟩ : ∃ N, s.length = N := ⟨_, rfl⟩
        have HN := hide hN
        have hcf := containsFunc a cap s w hl hr
        rw [unhide HA] at hcf
        rw [hN] at hcf hz h8 h0 hl ⊢
        clear hN hany hsz h0
        go_enter Tryz.func20, Tryz.ntmps20
        go_wp2_with fail
        refine hcf.mono ?_
        clear hcf
        rintro e w1 ⟨rfl, rfl⟩
        go_wp2
        go_loopw [4, 20] (fun t i wr => ∃ j T : Nat, j ≤ N ∧ i = .int .i64 j ∧ t = .int .i64 T ∧ Hid (T = pre s j) ∧ T ≤ 48 ∧ wr = w1) (fun _ i _ => N - (intOf i).toNat)
        case atStart => exact ⟨0, 0, Nat.zero_le _, rfl, rfl, rfl, by omega, rfl⟩
        case round =>
          obtain ⟨j, T, hj, rfl, rfl, HT2, hT, rfl⟩ := hrel
          by_cases hlt : j < N
          · have hlt' : j < s.length := by rw [unhide HN]; exact hlt
            obtain ⟨b, off, rfl, hb, hc⟩ := hr.at hlt'
            have c1 := hc j hlt'
            have h1 := unhide HSZ j hlt'
            have eX : s.getD j 0 = at0 s j := by rw [List.getD_eq_getElem?_getD]; rfl
            have HS : Hid (pre s (j + 1) = T + (at0 s j).toNat) := hide (by rw [pre_succ, unhide HT2])
            have h6 := pre_six (unhide HSZ) (j := j + 1) (by omega)
            rw [unhide HS] at h6
            rw [eX] at c1
            obtain ⟨X, hX⟩ : ∃ X : Nat, at0 s j = X := ⟨(at0 s j).toNat, by omega⟩
            rw [hX] at c1 HS h6 h1
            have hX2 : ((X : Int)).toNat = X := by omega
            rw [hX2] at HS h6
            have hj1 : j + 1 ≤ N := by omega
            have h48 : T + X ≤ 48 := by omega
            clear hc hX eX hlt' h1 h6 hX2
            go_wp2
            go_roundw
            case rel => exact ⟨j + 1, T + X, by omega, by go_num, by go_num, hide (unhide HS).symm, h48, by first | trivial | rfl⟩
            case measure => simp [intOf]; omega
          · obtain rfl : j = N := by omega
            have HT3 : Hid (total s = T) := hide (by rw [unhide HT2, ← unhide HN]; rfl)
            have ht := unhide HT
            rw [unhide HT3] at ht
            by_cases h : 32 < T
            · rw [if_pos h] at ht
              have HE := hide ht
              clear ht
              go_wp2
              go_ret2
              exact ⟨(unhide HE).symm, rfl⟩
            · rw [if_neg h] at ht
              have HE := hide ht
              clear ht
              go_wp2
              go_ret2
              exact ⟨(unhide HE).symm, rfl⟩
      · have hv : tells s = .returned (.tuple #[.int .i64 0, .iface 60 (.int .i64 1)]) := by simp [tells, errB, bf, h0, h8, hany]
        have hcf := containsFunc a cap s w hl hr
        rw [hany] at hcf
        rw [hv]
        clear hv h0 hany
        go_enter Tryz.func20, Tryz.ntmps20
        go_wp2_with fail
        refine hcf.mono ?_
        clear hcf
        rintro e w1 ⟨rfl, rfl⟩
        go_wp2
        go_ret2
        exact ⟨rfl, rfl⟩

theorem check_ok (a : Option Addr) (cap : Nat) (s : List Int) (w : World) (hl : s.length ≤ 9223372036854775807) (hr : Row w a s) (h : Hid (bf s = 0)) :
    Calls Tryz.prog 20 #[.slice a s.length cap] w fun e w' => e = .returned (.tuple #[.int .i64 (total s : Int), .nilIface]) ∧ w' = w := by
  have := check a cap s w hl hr
  unfold tells at this
  rwa [if_pos (unhide h), errB_zero (unhide h)] at this
theorem check_no (a : Option Addr) (cap : Nat) (s : List Int) (w : World) (hl : s.length ≤ 9223372036854775807) (hr : Row w a s) (h : Hid (bf s ≠ 0)) :
    Calls Tryz.prog 20 #[.slice a s.length cap] w fun e w' => e = .returned (.tuple #[.int .i64 0, .iface 60 (.int .i64 (bf s))]) ∧ w' = w := by
  have := check a cap s w hl hr
  unfold tells at this
  rwa [if_neg (unhide h), errB_ne (unhide h)] at this

end Go.Proofs.YtjojeifoddonnakGreat.Bnd

/-
  lap.check, called with any list, any bound up to 8000: its contract.
-/
namespace Go.Proofs.YtjojeifoddonnakGreat.Lap
open Go.RowKit
open Go.Proofs.YtjojeifoddonnakGreat.Tre
set_option linter.unusedVariables false

/-- The fault of so many numbers; that of a list: 0 where there is none. -/
def shp (N : Nat) : Int := if 32 < N then 4 else if N % 2 ≠ 0 then 3 else 0
def chk (l : List Int) (b : Int) : Int := if 32 < l.length then 4 else if l.length % 2 ≠ 0 then 3 else if l.any (out b) = true then 1 else 0
/-- An error as a value. -/
def errV (e : Int) : Value := if e = 0 then .nilIface else .iface 60 (.int .i64 e)
theorem errV_zero {e : Int} (h : e = 0) : errV e = .nilIface := by simp [errV, h]
theorem errV_ne {e : Int} (h : e ≠ 0) : errV e = .iface 60 (.int .i64 e) := by simp [errV, h]

theorem chk_zero {l : List Int} {b : Int} (h : chk l b = 0) : l.length ≤ 32 ∧ l.length = 2 * (l.length / 2) ∧ In b l := by
  unfold chk at h
  split at h
  · omega
  · split at h
    · omega
    · split at h
      · omega
      · rename_i h1 h2 h3
        refine ⟨by omega, by omega, in_of_any (by simpa using h3)⟩
theorem chk_of {l : List Int} {b : Int} (h1 : l.length ≤ 32) (h2 : l.length = 2 * (l.length / 2)) (h3 : In b l) : chk l b = 0 := by
  unfold chk
  rw [if_neg (by omega), if_neg (by omega), if_neg (by rw [any_of_in h3]; simp)]
theorem chk_shp {l : List Int} {b : Int} (h : shp l.length ≠ 0) : chk l b = shp l.length := by
  unfold shp at h
  unfold chk shp
  split
  · rfl
  · split
    · rfl
    · rename_i h1 h2
      rw [if_neg h1, if_neg h2] at h
      exact absurd rfl h
theorem chk_any {l : List Int} {b : Int} (h : shp l.length = 0) : chk l b = if l.any (out b) = true then 1 else 0 := by
  unfold shp at h
  unfold chk
  split
  · rename_i h1; rw [if_pos h1] at h; omega
  · rename_i h1
    rw [if_neg h1] at h
    split
    · rename_i h2; rw [if_pos h2] at h; omega
    · rfl

set_option maxHeartbeats 1000000 in
theorem check (a : Option Addr) (cap : Nat) (l : List Int) (b : Int) (w : World) (hl : l.length ≤ 9223372036854775807) (hb0 : 0 ≤ b) (hb9 : b ≤ 8000) (hr : Row w a l) :
    Calls Tryz.prog 71 #[.slice a l.length cap, .int .i64 b] w fun e w' => e = .returned (errV (chk l b)) ∧ Below w.heap.size w w' := by
  by_cases h32 : 32 < l.length
  · have hv : errV (chk l b) = .iface 60 (.int .i64 4) := by simp [errV, chk, h32]
    rw [hv]
    clear hv
    go_enter Tryz.func71, Tryz.ntmps71
    go_wp2
    go_ret
    exact ⟨rfl, Below.refl _ _⟩
  · have hb1 : Below w.heap.size w (w.alloc (.cells #[.int .i64 b] 3)) := (Below.refl _ _).alloc (Nat.le_refl _) _
    have hr1 := hr.below hb1
    have hc1 := boxed_cell w b 3
    have hmod : Int.tmod (l.length : Int) 2 = ((l.length % 2 : Nat) : Int) := rfl
    by_cases hm : l.length % 2 = 0
    · cases hany : l.any (out b)
      · have hv : errV (chk l b) = .nilIface := errV_zero (by unfold chk; rw [if_neg h32, if_neg (fun h => h hm), if_neg (by rw [hany]; simp)])
        rw [hv]
        have HA := hide hany
        clear hv hany
        go_enter Tryz.func71, Tryz.ntmps71
        go_wp2_with fail
        refine (beyond b w).mono ?_
        rintro e w1 ⟨rfl, rfl⟩
        go_wp2_with fail
        refine (containsFunc b a cap l w.heap.size (w.alloc (.cells #[.int .i64 b] 3)) hb0 hb9 hl hr1 hc1).mono ?_
        rw [unhide HA]
        rintro e w1 ⟨rfl, rfl⟩
        go_wp2
        go_ret
        exact ⟨rfl, hb1⟩
      · have hv : errV (chk l b) = .iface 60 (.int .i64 1) := by unfold chk; rw [if_neg h32, if_neg (fun h => h hm), if_pos hany]; rfl
        rw [hv]
        have HA := hide hany
        clear hv hany
        go_enter Tryz.func71, Tryz.ntmps71
        go_wp2_with fail
        refine (beyond b w).mono ?_
        rintro e w1 ⟨rfl, rfl⟩
        go_wp2_with fail
        refine (containsFunc b a cap l w.heap.size (w.alloc (.cells #[.int .i64 b] 3)) hb0 hb9 hl hr1 hc1).mono ?_
        rw [unhide HA]
        rintro e w1 ⟨rfl, rfl⟩
        go_wp2
        go_ret
        exact ⟨rfl, hb1⟩
    · have hv : errV (chk l b) = .iface 60 (.int .i64 3) := by simp [errV, chk, h32, hm]
      rw [hv]
      clear hv
      go_enter Tryz.func71, Tryz.ntmps71
      go_wp2
      go_ret
      exact ⟨rfl, Below.refl _ _⟩

theorem check_ok (a : Option Addr) (cap : Nat) (l : List Int) (b : Int) (w : World) (hl : l.length ≤ 9223372036854775807) (hb0 : 0 ≤ b) (hb9 : b ≤ 8000) (hr : Row w a l) (h : Hid (chk l b = 0)) :
    Calls Tryz.prog 71 #[.slice a l.length cap, .int .i64 b] w fun e w' => e = .returned .nilIface ∧ Below w.heap.size w w' := by
  have := check a cap l b w hl hb0 hb9 hr
  rwa [errV_zero h] at this
theorem check_no (a : Option Addr) (cap : Nat) (l : List Int) (b : Int) (w : World) (hl : l.length ≤ 9223372036854775807) (hb0 : 0 ≤ b) (hb9 : b ≤ 8000) (hr : Row w a l) (h : Hid (chk l b ≠ 0)) :
    Calls Tryz.prog 71 #[.slice a l.length cap, .int .i64 b] w fun e w' => e = .returned (.iface 60 (.int .i64 (chk l b))) ∧ Below w.heap.size w w' := by
  have := check a cap l b w hl hb0 hb9 hr
  rwa [errV_ne h] at this

end Go.Proofs.YtjojeifoddonnakGreat.Lap

/-
  hornsame.Ints, at any two lists: its contract.
-/
namespace Go.Proofs.YtjojeifoddonnakGreat.Same
open Go.RowKit
set_option linter.unusedVariables false

theorem same_step {l m : List Int} {k : Nat} (hl : k < l.length) (hm : k < m.length) (h : l.take k = m.take k) (e : l[k] = m[k]) : l.take (k + 1) = m.take (k + 1) := by
  rw [List.take_succ_eq_append_getElem hl, List.take_succ_eq_append_getElem hm, h, e]
theorem same_not {l m : List Int} {k : Nat} (hl : k < l.length) (hm : k < m.length) (e : l[k] ≠ m[k]) : decide (l = m) = false := by
  apply decide_eq_false
  intro h
  subst h
  exact e rfl

set_option maxHeartbeats 400000 in
theorem ints (a : Option Addr) (cap : Nat) (l : List Int) (a' : Option Addr) (cap' : Nat) (m : List Int) (w : World) (hl : l.length ≤ 9223372036854775807) (hm : m.length ≤ 9223372036854775807) (hr : Row w a l) (hr' : Row w a' m) :
    Calls Tryz.prog 17 #[.slice a l.length cap, .slice a' m.length cap'] w fun e w' => e = .returned (.bool (decide (l = m))) ∧ ∃ n, w' = w.drewN n := by
  by_cases hlm : l.length = m.length
  · have HLM := hide hlm
    have i1 : l.length ≤ m.length := by omega
    have i2 : m.length ≤ l.length := by omega
    clear hlm
    go_enter Tryz.func17, Tryz.ntmps17
    go_wp2
    go_loopw [5] (fun i wr => ∃ k : Nat, k ≤ l.length ∧ i = .int .i64 k ∧ Hid (l.take k = m.take k) ∧ ∃ n, wr = w.drewN n) (fun i _ => l.length - (intOf i).toNat)
    case atStart => exact ⟨0, Nat.zero_le _, rfl, hide rfl, 0, rfl⟩
    case round =>
      obtain ⟨k, hk, rfl, HT, n, rfl⟩ := hrel
      by_cases hlt : k < l.length
      · obtain ⟨b, off, rfl, hb, hcs⟩ := hr.at hlt
        have hck := hcs k hlt
        have hlt' : k < m.length := by omega
        obtain ⟨b', off', rfl, hb', hcs'⟩ := hr'.at hlt'
        have hck' := hcs' k hlt'
        clear hcs hcs'
        by_cases heq : l[k] = m[k]
        · have HE := hide heq
          have hq : (l[k] == m[k]) = true := by simp [heq]
          clear heq
          go_wp2
          go_quiet (fail)
          go_wp2
          go_roundw
          case rel => exact ⟨k + 1, by omega, by go_num, hide (same_step hlt hlt' (unhide HT) (unhide HE)), _, rfl⟩
          case measure => simp [intOf]; omega
        · have HE := hide heq
          have hq : (l[k] == m[k]) = false := by simp [heq]
          clear heq
          go_wp2
          go_quiet (fail)
          go_wp2
          go_ret
          exact ⟨by rw [same_not hlt hlt' (unhide HE)]; rfl, n + nq, by rw [World.drewN_drewN]⟩
      · have hkl : k = l.length := by omega
        subst hkl
        go_wp2
        go_ret
        have h1 := unhide HT
        rw [List.take_of_length_le (Nat.le_refl _), List.take_of_length_le (by omega)] at h1
        exact ⟨by rw [decide_eq_true h1]; rfl, _, rfl⟩
  · have hb : ((l.length : Int) == (m.length : Int)) = false := by simp; omega
    have hne : decide (l = m) = false := decide_eq_false fun h => hlm (by rw [h])
    rw [hne]
    clear hlm hne
    go_enter Tryz.func17, Tryz.ntmps17
    go_wp2
    go_ret
    exact ⟨rfl, 0, rfl⟩
/-- .. where they are the same. -/
theorem ints_same (a : Option Addr) (cap : Nat) (a' : Option Addr) (cap' : Nat) (l : List Int) (w : World) (hl : l.length ≤ 9223372036854775807) (hr : Row w a l) (hr' : Row w a' l) :
    Calls Tryz.prog 17 #[.slice a l.length cap, .slice a' l.length cap'] w fun e w' => e = .returned (.bool true) ∧ Below w.heap.size w w' :=
  (ints a cap l a' cap' l w hl hl hr hr').mono fun e w' ⟨he, n, hn⟩ => ⟨by rw [he, decide_eq_true rfl], by rw [hn]; exact ⟨rfl, rfl, rfl, Nat.le_refl _, fun _ _ => rfl⟩⟩

end Go.Proofs.YtjojeifoddonnakGreat.Same
