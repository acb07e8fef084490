/-
  What each function of package sound does, called with any slices: contracts.
-/
import Derived.Test.YtjnmogmagngenaaDoorBase
import Derived.Deep.QuietTactic
import Derived.BigQuiet
namespace Go.Proofs.YtjnmogmagngenaaDoor.Snd
open Go.RowKit
set_option linter.unusedVariables false

def bey (n : Int) : Bool := decide (n < -1000) || decide (1000 < n)

theorem any_of (l : List Int) (k : Nat) (hk : k < l.length) (h : bey l[k] = true) : l.any bey = true :=
  List.any_eq_true.2 ⟨l[k], List.getElem_mem hk, h⟩
theorem any_step (l : List Int) (k : Nat) (hk : k < l.length) (h0 : (l.take k).any bey = false) (h : bey l[k] = false) : (l.take (k + 1)).any bey = false := by
  rw [List.take_succ_eq_append_getElem hk, List.any_append, h0]
  simp [h]

def sq (n : Int) : Int := n * n
theorem sq_bd (n : Int) (h0 : -1000 ≤ n) (h1 : n ≤ 1000) : 0 ≤ sq n ∧ sq n ≤ 1000000 := by
  unfold sq
  refine ⟨by rcases Int.le_total 0 n with h | h; exact Int.mul_nonneg h h; exact Int.mul_nonneg_of_nonpos_of_nonpos h h, ?_⟩
  have h2 : n.natAbs ≤ 1000 := by omega
  have h3 : n.natAbs * n.natAbs ≤ 1000 * 1000 := Nat.mul_le_mul h2 h2
  have h4 : ((n.natAbs * n.natAbs : Nat) : Int) = n * n := Int.natAbs_mul_self
  omega
/-- How far a number is from 0. -/
def far (n : Int) : Int := if n < 0 then -n else n
theorem far_bd (n : Int) (h0 : -1000 ≤ n) (h1 : n ≤ 1000) : 0 ≤ far n ∧ far n ≤ 1000 := by unfold far; split <;> omega

theorem beyond1 (n : Int) (B : Nat) (w : World) (hc : w.cell? ⟨B, 0, none⟩ = some (.int .i64 1000)) :
    Calls Tryd.prog 32 #[.int .i64 n, .pointer (some ⟨B, 0, none⟩)] w fun e w' => e = .returned (.bool (bey n)) ∧ w' = w := by
  by_cases h1 : n < -1000
  · go_enter Tryd.func32, Tryd.ntmps32
    go_wp2
    go_ret
    exact ⟨by simp [bey, h1], rfl⟩
  · have h2 : decide (n < -1000) = false := by simpa using h1
    go_enter Tryd.func32, Tryd.ntmps32
    go_wp2
    go_ret
    exact ⟨by simp [bey, h2], rfl⟩

set_option maxHeartbeats 400000 in
theorem indexFunc (a : Option Addr) (cap : Nat) (l : List Int) (B : Nat) (w : World) (hl : l.length ≤ 9223372036854775807) (hr : Row w a l) (hc : w.cell? ⟨B, 0, none⟩ = some (.int .i64 1000)) :
    Calls Tryd.prog 31 #[.slice a l.length cap, .func (.func 32) #[] #[.pointer (some ⟨B, 0, none⟩)]] w
      fun e w' => (∃ r : Int, e = .returned (.int .i64 r) ∧ (decide (0 ≤ r)) = l.any bey) ∧ w' = w := by
  go_enter Tryd.func31, Tryd.ntmps31
  go_wp2
  go_loop [8] (fun i => ∃ k : Nat, k ≤ l.length ∧ i = .int .i64 k ∧ (l.take k).any bey = false) (fun i => l.length - (intOf i).toNat)
  case atStart => exact ⟨0, Nat.zero_le _, rfl, by simp⟩
  case round =>
    obtain ⟨k, hk, rfl, hno⟩ := hrel
    have HNO : Hid ((l.take k).any bey = false) := hno
    clear hno
    by_cases hlt : k < l.length
    · obtain ⟨b, off, rfl, hb, hcs⟩ := hr.at hlt
      have hck := hcs k hlt
      clear hcs
      go_wp2_with (go_at_call 32; refine (beyond1 _ _ _ hc).mono ?_; rintro e w' ⟨rfl, rfl⟩)
      · go_ret
        have hh : bey l[k] = true := by assumption
        exact ⟨⟨k, rfl, by rw [any_of l k hlt hh]; simp⟩, rfl⟩
      · have hh : bey l[k] = false := by assumption
        go_round
        case rel => exact ⟨k + 1, by omega, by go_num, any_step l k hlt HNO.out hh⟩
        case measure => simp [intOf]; omega
    · go_wp2
      go_ret
      have hh := HNO.out
      rw [List.take_of_length_le (by omega)] at hh
      exact ⟨⟨-1, rfl, by rw [hh]; rfl⟩, rfl⟩

theorem containsFunc (a : Option Addr) (cap : Nat) (l : List Int) (B : Nat) (w : World) (hl : l.length ≤ 9223372036854775807) (hr : Row w a l) (hc : w.cell? ⟨B, 0, none⟩ = some (.int .i64 1000)) :
    Calls Tryd.prog 21 #[.slice a l.length cap, .func (.func 32) #[] #[.pointer (some ⟨B, 0, none⟩)]] w
      fun e w' => e = .returned (.bool (l.any bey)) ∧ w' = w := by
  go_enter Tryd.func21, Tryd.ntmps21
  go_wp2_with fail
  refine (indexFunc a cap l B w hl hr hc).mono ?_
  rintro e w' ⟨⟨r, rfl, hr2⟩, rfl⟩
  have HR := hide hr2
  clear hr2
  go_wp2
  go_ret
  exact ⟨by rw [← unhide HR]; rfl, rfl⟩

/-- The fault of samples: 0 where there is none. -/
def chk (l : List Int) : Int := if 32 < l.length then 4 else if l.any bey = true then 1 else 0
/-- An error as a value. -/
def errV (e : Int) : Value := if e = 0 then .nilIface else .iface 42 (.int .i64 e)

theorem check (a : Option Addr) (cap : Nat) (l : List Int) (w : World) (hl : l.length ≤ 9223372036854775807) (hr : Row w a l) :
    Calls Tryd.prog 7 #[.slice a l.length cap] w fun e w' => e = .returned (errV (chk l)) ∧ Below w.heap.size w w' := by
  have hmf : ∀ (fn : Fn) (first cap : Array Value) (w : World), (Instr.makeFunc fn first cap).run Tryd.prog w = .ok (.func fn first cap) w := fun _ _ _ _ => rfl
  by_cases h32 : 32 < l.length
  · have hv : errV (chk l) = .iface 42 (.int .i64 4) := by simp [errV, chk, h32]
    rw [hv]
    clear hv
    go_enter Tryd.func7, Tryd.ntmps7
    go_wp2
    go_ret
    exact ⟨rfl, Below.refl _ _⟩
  · have hb1 : Below w.heap.size w (w.alloc (.cells #[.int .i64 1000] 3)) := (Below.refl _ _).alloc (Nat.le_refl _) _
    have hr1 := hr.below hb1
    have hc1 : (w.alloc (.cells #[.int .i64 1000] 3)).cell? ⟨w.heap.size, 0, none⟩ = some (.int .i64 1000) := by
      rw [World.cell?_alloc_at _ _ _ _ rfl]; rfl
    cases hany : l.any bey
    · have hv : errV (chk l) = .nilIface := by simp [errV, chk, h32, hany]
      rw [hv]
      have HA := hide hany
      clear hv hany
      go_enter Tryd.func7, Tryd.ntmps7
      go_wp2_with (first | (go_at_call 21; refine (containsFunc a cap l w.heap.size (w.alloc (.cells #[.int .i64 1000] 3)) hl hr1 hc1).mono ?_; rw [unhide HA]; rintro e w' ⟨rfl, rfl⟩) | go_in)
      go_ret
      exact ⟨rfl, hb1⟩
    · have hv : errV (chk l) = .iface 42 (.int .i64 1) := by simp [errV, chk, h32, hany]
      rw [hv]
      have HA := hide hany
      clear hv hany
      go_enter Tryd.func7, Tryd.ntmps7
      go_wp2_with (first | (go_at_call 21; refine (containsFunc a cap l w.heap.size (w.alloc (.cells #[.int .i64 1000] 3)) hl hr1 hc1).mono ?_; rw [unhide HA]; rintro e w' ⟨rfl, rfl⟩) | go_in)
      go_ret
      exact ⟨rfl, hb1⟩

/-- Each is a sample. -/
def Ok (l : List Int) : Prop := l.length ≤ 32 ∧ ∀ n ∈ l, -1000 ≤ n ∧ n ≤ 1000

theorem ok_of {l : List Int} (h : chk l = 0) : Ok l := by
  unfold chk at h
  split at h
  · omega
  · split at h
    · omega
    · rename_i h1 h2
      refine ⟨by omega, fun n hn => ?_⟩
      have h3 : l.any bey = false := by simpa using h2
      have := List.any_eq_false.1 h3 n hn
      simp [bey] at this
      omega

theorem Ok.at {l : List Int} (h : Ok l) {k : Nat} (hk : k < l.length) : -1000 ≤ l[k] ∧ l[k] ≤ 1000 := h.2 _ (List.getElem_mem hk)

theorem energy1 (n : Int) (w : World) (h0 : -1000 ≤ n) (h1 : n ≤ 1000) :
    Calls Tryd.prog 24 #[.int .i64 n] w fun e w' => e = .returned (.int .i64 (sq n)) ∧ w' = w := by
  have h2 : 0 ≤ n * n ∧ n * n ≤ 1000000 := sq_bd n h0 h1
  show Calls _ _ _ _ fun e w' => e = .returned (.int .i64 (n * n)) ∧ w' = w
  obtain ⟨h3, h4⟩ := h2
  go_enter Tryd.func24, Tryd.ntmps24
  go_wp2
  go_ret
  exact ⟨rfl, rfl⟩

theorem distance (n : Int) (w : World) (h0 : -1000000 ≤ n) (h1 : n ≤ 1000000) :
    Calls Tryd.prog 27 #[.int .i64 n] w fun e w' => e = .returned (.int .i64 (far n)) ∧ w' = w := by
  go_enter Tryd.func27, Tryd.ntmps27
  go_wp2
  all_goals (go_ret; exact ⟨ret_int (by unfold far; split <;> omega), rfl⟩)

/-- The sum of what is made of each. -/
def tot (g : Int → Int) (l : List Int) : Int := (l.map g).sum

theorem tot_snoc (g : Int → Int) (l : List Int) (k : Nat) (hk : k < l.length) : tot g (l.take (k + 1)) = tot g (l.take k) + g l[k] := by
  unfold tot
  rw [List.take_succ_eq_append_getElem hk, List.map_append, List.sum_append]
  simp only [List.map_cons, List.map_nil, List.sum_cons, List.sum_nil, Int.add_zero]

theorem tot_bd (g : Int → Int) (M : Int) (l : List Int) (h : ∀ n ∈ l, 0 ≤ g n ∧ g n ≤ M) : 0 ≤ tot g l ∧ tot g l ≤ M * l.length := by
  induction l with
  | nil => simp [tot]
  | cons x r ih =>
    have h1 := h x (by simp)
    have h2 := ih fun n hn => h n (by simp [hn])
    simp only [tot, List.map_cons, List.sum_cons, List.length_cons] at h2 ⊢
    rw [Int.natCast_add, Int.mul_add]
    omega

set_option maxHeartbeats 400000 in
theorem sumE (a : Option Addr) (cap : Nat) (l : List Int) (w : World) (hl : Ok l) (hr : Row w a l) :
    Calls Tryd.prog 23 #[.slice a l.length cap, .func (.func 24) #[] #[]] w fun e w' => e = .returned (.int .i64 (tot sq l)) ∧ w' = w := by
  have hlen := hl.1
  go_enter Tryd.func23, Tryd.ntmps23
  go_wp2
  go_loop [5, 10] (fun t i => ∃ k : Nat, k ≤ l.length ∧ i = .int .i64 k ∧ t = .int .i64 (tot sq (l.take k))) (fun _ i => l.length - (intOf i).toNat)
  case atStart => exact ⟨0, Nat.zero_le _, rfl, rfl⟩
  case round =>
    obtain ⟨k, hk, rfl, rfl⟩ := hrel
    have hb := tot_bd sq 1000000 (l.take k) fun n hn => sq_bd n (hl.2 n (List.mem_of_mem_take hn)).1 (hl.2 n (List.mem_of_mem_take hn)).2
    have hlk : ((l.take k).length : Int) ≤ 32 := by have := List.length_take_le k l; omega
    have hb2 : 0 ≤ tot sq (l.take k) ∧ tot sq (l.take k) ≤ 32000000 := by omega
    clear hb hlk
    obtain ⟨hb3, hb4⟩ := hb2
    by_cases hlt : k < l.length
    · obtain ⟨b, off, rfl, hb, hcs⟩ := hr.at hlt
      have hck := hcs k hlt
      clear hcs
      obtain ⟨e1, e2⟩ := hl.at hlt
      obtain ⟨e3, e4⟩ := sq_bd l[k] e1 e2
      have HS := hide (tot_snoc sq l k hlt)
      go_wp2_with fail
      refine (energy1 l[k] w (by omega) (by omega)).mono ?_
      rintro e w' ⟨rfl, rfl⟩
      go_wp2
      go_round
      case rel => exact ⟨k + 1, by omega, by go_num, by rw [unhide HS]⟩
      case measure => simp [intOf]; omega
    · go_wp2
      go_ret
      exact ⟨ret_int (by rw [List.take_of_length_le (by omega)]), rfl⟩
set_option maxHeartbeats 400000 in
theorem sumL (a : Option Addr) (cap : Nat) (l : List Int) (w : World) (hl : Ok l) (hr : Row w a l) :
    Calls Tryd.prog 23 #[.slice a l.length cap, .func (.func 27) #[] #[]] w fun e w' => e = .returned (.int .i64 (tot far l)) ∧ w' = w := by
  have hlen := hl.1
  go_enter Tryd.func23, Tryd.ntmps23
  go_wp2
  go_loop [5, 10] (fun t i => ∃ k : Nat, k ≤ l.length ∧ i = .int .i64 k ∧ t = .int .i64 (tot far (l.take k))) (fun _ i => l.length - (intOf i).toNat)
  case atStart => exact ⟨0, Nat.zero_le _, rfl, rfl⟩
  case round =>
    obtain ⟨k, hk, rfl, rfl⟩ := hrel
    have hb := tot_bd far 1000 (l.take k) fun n hn => far_bd n (hl.2 n (List.mem_of_mem_take hn)).1 (hl.2 n (List.mem_of_mem_take hn)).2
    have hlk : ((l.take k).length : Int) ≤ 32 := by have := List.length_take_le k l; omega
    have hb2 : 0 ≤ tot far (l.take k) ∧ tot far (l.take k) ≤ 32000000 := by omega
    clear hb hlk
    obtain ⟨hb3, hb4⟩ := hb2
    by_cases hlt : k < l.length
    · obtain ⟨b, off, rfl, hb, hcs⟩ := hr.at hlt
      have hck := hcs k hlt
      clear hcs
      obtain ⟨e1, e2⟩ := hl.at hlt
      obtain ⟨e3, e4⟩ := far_bd l[k] e1 e2
      have HS := hide (tot_snoc far l k hlt)
      go_wp2_with fail
      refine (distance l[k] w (by omega) (by omega)).mono ?_
      rintro e w' ⟨rfl, rfl⟩
      go_wp2
      go_round
      case rel => exact ⟨k + 1, by omega, by go_num, by rw [unhide HS]⟩
      case measure => simp [intOf]; omega
    · go_wp2
      go_ret
      exact ⟨ret_int (by rw [List.take_of_length_le (by omega)]), rfl⟩

end Go.Proofs.YtjnmogmagngenaaDoor.Snd
