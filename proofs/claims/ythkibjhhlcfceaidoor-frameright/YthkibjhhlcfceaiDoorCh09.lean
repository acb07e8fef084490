/-
  Whether any number of a row is beyond a bound, one by one.
-/
import Derived.Test.YthkibjhhlcfceaiDoorCh00
import Derived.Deep.QuietTactic
import Derived.BigQuiet
namespace Go.Proofs.YthkibjhhlcfceaiDoor.Tre
open Go.RowKit
set_option linter.unusedVariables false

theorem any_of (c : Int) (l : List Int) (k : Nat) (hk : k < l.length) (h : out c l[k] = true) : l.any (out c) = true :=
  List.any_eq_true.2 ⟨l[k], List.getElem_mem hk, h⟩
theorem any_step (c : Int) (l : List Int) (k : Nat) (hk : k < l.length) (h0 : (l.take k).any (out c) = false) (h : out c l[k] = false) : (l.take (k + 1)).any (out c) = false := by
  rw [List.take_succ_eq_append_getElem hk, List.any_append, h0]
  simp [h]

end Go.Proofs.YthkibjhhlcfceaiDoor.Tre

/-
  sound.Beyond and what asks it of each number: slices.ContainsFunc, at whatever bound.
-/
namespace Go.Proofs.YthkibjhhlcfceaiDoor.Tre
open Go.RowKit
set_option linter.unusedVariables false

theorem beyond1 (c n : Int) (B : Nat) (w : World) (h0 : 0 ≤ c) (h9 : c ≤ 8000) (hc : w.cell? ⟨B, 0, none⟩ = some (.int .i64 c)) :
    Calls Tryd.prog 48 #[.int .i64 n, .pointer (some ⟨B, 0, none⟩)] w fun e w' => e = .returned (.bool (out c n)) ∧ w' = w := by
  by_cases h1 : n < -c
  · have h3 : decide (n < -c) = true := by simpa using h1
    go_enter Tryd.func48, Tryd.ntmps48
    go_wp2
    go_ret
    exact ⟨by simp [out, h3], rfl⟩
  · have h2 : decide (n < -c) = false := by simpa using h1
    go_enter Tryd.func48, Tryd.ntmps48
    go_wp2
    go_ret
    exact ⟨by simp [out, h2], rfl⟩

set_option maxHeartbeats 400000 in
theorem indexFunc (c : Int) (a : Option Addr) (cap : Nat) (l : List Int) (B : Nat) (w : World) (h0 : 0 ≤ c) (h9 : c ≤ 8000) (hl : l.length ≤ 9223372036854775807) (hr : Row w a l) (hc : w.cell? ⟨B, 0, none⟩ = some (.int .i64 c)) :
    Calls Tryd.prog 47 #[.slice a l.length cap, .func (.func 48) #[] #[.pointer (some ⟨B, 0, none⟩)]] w
      fun e w' => (∃ r : Int, e = .returned (.int .i64 r) ∧ (decide (0 ≤ r)) = l.any (out c)) ∧ w' = w := by
  go_enter Tryd.func47, Tryd.ntmps47
  go_wp2
  go_loop [8] (fun i => ∃ k : Nat, k ≤ l.length ∧ i = .int .i64 k ∧ (l.take k).any (out c) = false) (fun i => l.length - (intOf i).toNat)
  case atStart => exact ⟨0, Nat.zero_le _, rfl, by simp⟩
  case round =>
    obtain ⟨k, hk, rfl, hno⟩ := hrel
    have HNO : Hid ((l.take k).any (out c) = false) := hno
    clear hno
    by_cases hlt : k < l.length
    · obtain ⟨b, off, rfl, hb, hcs⟩ := hr.at hlt
      have hck := hcs k hlt
      clear hcs
      go_wp2_with (go_at_call 48; refine (beyond1 c _ _ _ h0 h9 hc).mono ?_; rintro e w' ⟨rfl, rfl⟩)
      · go_ret
        have hh : out c l[k] = true := by assumption
        exact ⟨⟨k, rfl, by rw [any_of c l k hlt hh]; simp⟩, rfl⟩
      · have hh : out c l[k] = false := by assumption
        go_round
        case rel => exact ⟨k + 1, by omega, by go_num, any_step c l k hlt HNO.out hh⟩
        case measure => simp [intOf]; omega
    · go_wp2
      go_ret
      have hh := HNO.out
      rw [List.take_of_length_le (by omega)] at hh
      exact ⟨⟨-1, rfl, by rw [hh]; rfl⟩, rfl⟩

theorem containsFunc (c : Int) (a : Option Addr) (cap : Nat) (l : List Int) (B : Nat) (w : World) (h0 : 0 ≤ c) (h9 : c ≤ 8000) (hl : l.length ≤ 9223372036854775807) (hr : Row w a l) (hc : w.cell? ⟨B, 0, none⟩ = some (.int .i64 c)) :
    Calls Tryd.prog 24 #[.slice a l.length cap, .func (.func 48) #[] #[.pointer (some ⟨B, 0, none⟩)]] w
      fun e w' => e = .returned (.bool (l.any (out c))) ∧ w' = w := by
  go_enter Tryd.func24, Tryd.ntmps24
  go_wp2_with fail
  refine (indexFunc c a cap l B w h0 h9 hl hr hc).mono ?_
  rintro e w' ⟨⟨r, rfl, hr2⟩, rfl⟩
  have HR := hide hr2
  clear hr2
  go_wp2
  go_ret
  exact ⟨by rw [← unhide HR]; rfl, rfl⟩

theorem boxed_cell (w : World) (c : Int) (t : TypeId) : (w.alloc (.cells #[.int .i64 c] t)).cell? ⟨w.heap.size, 0, none⟩ = some (.int .i64 c) := by
  rw [World.cell?_alloc_at _ _ _ _ rfl]; rfl

theorem beyond (c : Int) (w : World) : Calls Tryd.prog 25 #[.int .i64 c] w fun e w' => e = .returned (.func (.func 48) #[] #[.pointer (some ⟨w.heap.size, 0, none⟩)]) ∧ w' = w.alloc (.cells #[.int .i64 c] 3) := by
  have hmf : ∀ (fn : Fn) (first cap : Array Value) (w : World), (Instr.makeFunc fn first cap).run Tryd.prog w = .ok (.func fn first cap) w := fun _ _ _ _ => rfl
  go_enter Tryd.func25, Tryd.ntmps25
  go_wp2
  go_ret
  exact ⟨rfl, rfl⟩

end Go.Proofs.YthkibjhhlcfceaiDoor.Tre

/-
  lap.check, called with any list, any bound up to 8000: its contract.
-/
namespace Go.Proofs.YthkibjhhlcfceaiDoor.Lap
open Go.RowKit
open Go.Proofs.YthkibjhhlcfceaiDoor.Tre
set_option linter.unusedVariables false

/-- The fault of so many numbers; that of a list: 0 where there is none. -/
def shp (N : Nat) : Int := if 32 < N then 4 else if N % 2 ≠ 0 then 3 else 0
def chk (l : List Int) (b : Int) : Int := if 32 < l.length then 4 else if l.length % 2 ≠ 0 then 3 else if l.any (out b) = true then 1 else 0
/-- An error as a value. -/
def errV (e : Int) : Value := if e = 0 then .nilIface else .iface 47 (.int .i64 e)
theorem errV_zero {e : Int} (h : e = 0) : errV e = .nilIface := by simp [errV, h]
theorem errV_ne {e : Int} (h : e ≠ 0) : errV e = .iface 47 (.int .i64 e) := by simp [errV, h]

theorem chk_zero {l : List Int} {b : Int} (h : chk l b = 0) : l.length ≤ 32 ∧ l.length = 2 * (l.length / 2) ∧ In b l := by
  unfold chk at h
  split at h
  · omega
  · split at h
    · omega
    · split at h
      · omega
      · rename_i h1 h2 h3
        refine ⟨by omega, by omega, in_of_any (by simpa using h3)⟩
theorem chk_of {l : List Int} {b : Int} (h1 : l.length ≤ 32) (h2 : l.length = 2 * (l.length / 2)) (h3 : In b l) : chk l b = 0 := by
  unfold chk
  rw [if_neg (by omega), if_neg (by omega), if_neg (by rw [any_of_in h3]; simp)]
theorem chk_shp {l : List Int} {b : Int} (h : shp l.length ≠ 0) : chk l b = shp l.length := by
  unfold shp at h
  unfold chk shp
  split
  · rfl
  · split
    · rfl
    · rename_i h1 h2
      rw [if_neg h1, if_neg h2] at h
      exact absurd rfl h
theorem chk_any {l : List Int} {b : Int} (h : shp l.length = 0) : chk l b = if l.any (out b) = true then 1 else 0 := by
  unfold shp at h
  unfold chk
  split
  · rename_i h1; rw [if_pos h1] at h; omega
  · rename_i h1
    rw [if_neg h1] at h
    split
    · rename_i h2; rw [if_pos h2] at h; omega
    · rfl

set_option maxHeartbeats 1000000 in
theorem check (a : Option Addr) (cap : Nat) (l : List Int) (b : Int) (w : World) (hl : l.length ≤ 9223372036854775807) (hb0 : 0 ≤ b) (hb9 : b ≤ 8000) (hr : Row w a l) :
    Calls Tryd.prog 33 #[.slice a l.length cap, .int .i64 b] w fun e w' => e = .returned (errV (chk l b)) ∧ Below w.heap.size w w' := by
  by_cases h32 : 32 < l.length
  · have hv : errV (chk l b) = .iface 47 (.int .i64 4) := by simp [errV, chk, h32]
    rw [hv]
    clear hv
    go_enter Tryd.func33, Tryd.ntmps33
    go_wp2
    go_ret
    exact ⟨rfl, Below.refl _ _⟩
  · have hb1 : Below w.heap.size w (w.alloc (.cells #[.int .i64 b] 3)) := (Below.refl _ _).alloc (Nat.le_refl _) _
    have hr1 := hr.below hb1
    have hc1 := boxed_cell w b 3
    have hmod : Int.tmod (l.length : Int) 2 = ((l.length % 2 : Nat) : Int) := rfl
    by_cases hm : l.length % 2 = 0
    · cases hany : l.any (out b)
      · have hv : errV (chk l b) = .nilIface := errV_zero (by unfold chk; rw [if_neg h32, if_neg (fun h => h hm), if_neg (by rw [hany]; simp)])
        rw [hv]
        have HA := hide hany
        clear hv hany
        go_enter Tryd.func33, Tryd.ntmps33
        go_wp2_with fail
        refine (beyond b w).mono ?_
        rintro e w1 ⟨rfl, rfl⟩
        go_wp2_with fail
        refine (containsFunc b a cap l w.heap.size (w.alloc (.cells #[.int .i64 b] 3)) hb0 hb9 hl hr1 hc1).mono ?_
        rw [unhide HA]
        rintro e w1 ⟨rfl, rfl⟩
        go_wp2
        go_ret
        exact ⟨rfl, hb1⟩
      · have hv : errV (chk l b) = .iface 47 (.int .i64 1) := by unfold chk; rw [if_neg h32, if_neg (fun h => h hm), if_pos hany]; rfl
        rw [hv]
        have HA := hide hany
        clear hv hany
        go_enter Tryd.func33, Tryd.ntmps33
        go_wp2_with fail
        refine (beyond b w).mono ?_
        rintro e w1 ⟨rfl, rfl⟩
        go_wp2_with fail
        refine (containsFunc b a cap l w.heap.size (w.alloc (.cells #[.int .i64 b] 3)) hb0 hb9 hl hr1 hc1).mono ?_
        rw [unhide HA]
        rintro e w1 ⟨rfl, rfl⟩
        go_wp2
        go_ret
        exact ⟨rfl, hb1⟩
    · have hv : errV (chk l b) = .iface 47 (.int .i64 3) := by simp [errV, chk, h32, hm]
      rw [hv]
      clear hv
      go_enter Tryd.func33, Tryd.ntmps33
      go_wp2
      go_ret
      exact ⟨rfl, Below.refl _ _⟩

theorem check_ok (a : Option Addr) (cap : Nat) (l : List Int) (b : Int) (w : World) (hl : l.length ≤ 9223372036854775807) (hb0 : 0 ≤ b) (hb9 : b ≤ 8000) (hr : Row w a l) (h : Hid (chk l b = 0)) :
    Calls Tryd.prog 33 #[.slice a l.length cap, .int .i64 b] w fun e w' => e = .returned .nilIface ∧ Below w.heap.size w w' := by
  have := check a cap l b w hl hb0 hb9 hr
  rwa [errV_zero h] at this
theorem check_no (a : Option Addr) (cap : Nat) (l : List Int) (b : Int) (w : World) (hl : l.length ≤ 9223372036854775807) (hb0 : 0 ≤ b) (hb9 : b ≤ 8000) (hr : Row w a l) (h : Hid (chk l b ≠ 0)) :
    Calls Tryd.prog 33 #[.slice a l.length cap, .int .i64 b] w fun e w' => e = .returned (.iface 47 (.int .i64 (chk l b))) ∧ Below w.heap.size w w' := by
  have := check a cap l b w hl hb0 hb9 hr
  rwa [errV_ne h] at this

end Go.Proofs.YthkibjhhlcfceaiDoor.Lap
