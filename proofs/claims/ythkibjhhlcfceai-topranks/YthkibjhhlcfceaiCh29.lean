/-
  learn.check: by its contract.
-/
import Derived.Test.YthkibjhhlcfceaiCh27
import Derived.Test.YthkibjhhlcfceaiCh04
import Derived.Test.YthkibjhhlcfceaiCh28
import Derived.Deep.QuietTactic
import Derived.BigQuiet
namespace Go.Proofs.Ythkibjhhlcfceai.Lrn
open Go.RowKit
open Go.Proofs.Ythkibjhhlcfceai.Tre Go.Proofs.Ythkibjhhlcfceai.Scl Go.Proofs.Ythkibjhhlcfceai.Hrn
set_option linter.unusedVariables false

theorem any_of (c : Int) (l : List Int) (k : Nat) (hk : k < l.length) (h : out c l[k] = true) : l.any (out c) = true :=
  List.any_eq_true.2 ⟨l[k], List.getElem_mem hk, h⟩
theorem any_step (c : Int) (l : List Int) (k : Nat) (hk : k < l.length) (h0 : (l.take k).any (out c) = false) (h : out c l[k] = false) : (l.take (k + 1)).any (out c) = false := by
  rw [List.take_succ_eq_append_getElem hk, List.any_append, h0]
  simp [h]
theorem rows_cons {ll : List (List Int)} {k : Nat} (h : k < ll.length) : ll.drop k = rowAt ll k :: ll.drop (k + 1) := by
  rw [List.drop_eq_getElem_cons h, rowAt_get h]

theorem unknown (c n : Int) (B : Nat) (w : World) (hc : w.cell? ⟨B, 0, none⟩ = some (.int .i64 c)) :
    Calls Try.prog 81 #[.int .i64 n, .pointer (some ⟨B, 0, none⟩)] w fun e w' => e = .returned (.bool (out c n)) ∧ w' = w := by
  by_cases h1 : n < 0
  · have h3 : decide (n < 0) = true := by simpa using h1
    go_enter Try.func81, Try.ntmps81
    go_wp2
    go_ret
    exact ⟨by simp [out, h3], rfl⟩
  · have h2 : decide (n < 0) = false := by simpa using h1
    go_enter Try.func81, Try.ntmps81
    go_wp2
    go_ret
    exact ⟨by simp [out, h2], rfl⟩

set_option maxHeartbeats 400000 in
theorem indexFunc (c : Int) (a : Option Addr) (cap : Nat) (l : List Int) (B : Nat) (w : World) (hl : l.length ≤ 9223372036854775807) (hr : Row w a l) (hc : w.cell? ⟨B, 0, none⟩ = some (.int .i64 c)) :
    Calls Try.prog 62 #[.slice a l.length cap, .func (.func 81) #[] #[.pointer (some ⟨B, 0, none⟩)]] w
      fun e w' => (∃ r : Int, e = .returned (.int .i64 r) ∧ (decide (0 ≤ r)) = l.any (out c)) ∧ w' = w := by
  go_enter Try.func62, Try.ntmps62
  go_wp2
  go_loop [8] (fun i => ∃ k : Nat, k ≤ l.length ∧ i = .int .i64 k ∧ (l.take k).any (out c) = false) (fun i => l.length - (intOf i).toNat)
  case atStart => exact ⟨0, Nat.zero_le _, rfl, by simp⟩
  case round =>
    obtain ⟨k, hk, rfl, hno⟩ := hrel
    have HNO : Hid ((l.take k).any (out c) = false) := hno
    clear hno
    by_cases hlt : k < l.length
    · obtain ⟨b, off, rfl, hb, hcs⟩ := hr.at hlt
      have hck := hcs k hlt
      clear hcs
      go_wp2_with (go_at_call 81; refine (unknown c _ _ _ hc).mono ?_; rintro e w' ⟨rfl, rfl⟩)
      · go_ret
        have hh : out c l[k] = true := by assumption
        exact ⟨⟨k, rfl, by rw [any_of c l k hlt hh]; simp⟩, rfl⟩
      · have hh : out c l[k] = false := by assumption
        go_round
        case rel => exact ⟨k + 1, by omega, by go_num, any_step c l k hlt HNO.out hh⟩
        case measure => simp [intOf]; omega
    · go_wp2
      go_ret
      have hh := HNO.out
      rw [List.take_of_length_le (by omega)] at hh
      exact ⟨⟨-1, rfl, by rw [hh]; rfl⟩, rfl⟩

theorem containsFunc (c : Int) (a : Option Addr) (cap : Nat) (l : List Int) (B : Nat) (w : World) (hl : l.length ≤ 9223372036854775807) (hr : Row w a l) (hc : w.cell? ⟨B, 0, none⟩ = some (.int .i64 c)) :
    Calls Try.prog 34 #[.slice a l.length cap, .func (.func 81) #[] #[.pointer (some ⟨B, 0, none⟩)]] w
      fun e w' => e = .returned (.bool (l.any (out c))) ∧ w' = w := by
  go_enter Try.func34, Try.ntmps34
  go_wp2_with fail
  refine (indexFunc c a cap l B w hl hr hc).mono ?_
  rintro e w' ⟨⟨r, rfl, hr2⟩, rfl⟩
  have HR := hide hr2
  clear hr2
  go_wp2
  go_ret
  exact ⟨by rw [← unhide HR]; rfl, rfl⟩

/-- An error as a value. -/
def errV (e : Int) : Value := if e = 0 then .nilIface else .iface 52 (.int .i64 e)
theorem errV_zero : errV 0 = .nilIface := rfl
theorem errV_ne {e : Int} (h : e ≠ 0) : errV e = .iface 52 (.int .i64 e) := by simp [errV, h]
theorem box_cell (w : World) (c : Int) (t : TypeId) : (w.alloc (.cells #[.int .i64 c] t)).cell? ⟨w.heap.size, 0, none⟩ = some (.int .i64 c) := by
  rw [World.cell?_alloc_at _ _ _ _ rfl]; rfl
theorem box_below (w : World) (c : Int) (t : TypeId) : Below w.heap.size w (w.alloc (.cells #[.int .i64 c] t)) := (Below.refl _ _).alloc (Nat.le_refl _) _

set_option maxRecDepth 100000 in
set_option maxHeartbeats 4000000 in
theorem check (a : Option Addr) (cap : Nat) (ll : List (List Int)) (n E : Int) (w : World) (hr : Rws w a ll) (zl : ll.length ≤ 9223372036854775807) (hE : Hid (rows ll n = E)) :
    Calls Try.prog 56 #[.slice a ll.length cap, .int .i64 n] w fun e w' => e = .returned (errV E) ∧ Below w.heap.size w w' := by
  have hmf : ∀ (fn : Fn) (first cap : Array Value) (w : World), (Instr.makeFunc fn first cap).run Try.prog w = .ok (.func fn first cap) w := fun _ _ _ _ => rfl
  have hbc := box_cell w n 3
  have hbb := box_below w n 3
  by_cases h1 : n < 1
  · obtain rfl : E = 1 := by rw [← unhide hE]; unfold rows; rw [if_pos (Or.inl h1)]
    have d1 : decide (n < 1) = true := by simpa using h1
    rw [errV_ne (by omega)]
    obtain ⟨N, hN⟩ : ∃ N, ll.length = N := ⟨_, rfl⟩
    rw [hN]
    clear hN hE
    go_enter Try.func56, Try.ntmps56
    go_wp2
    go_ret
    exact ⟨rfl, hbb⟩
  · have d1 : decide (n < 1) = false := by simpa using h1
    by_cases h2 : 40 < n
    · obtain rfl : E = 1 := by rw [← unhide hE]; unfold rows; rw [if_pos (Or.inr h2)]
      have d2 : decide (40 < n) = true := by simpa using h2
      rw [errV_ne (by omega)]
      obtain ⟨N, hN⟩ : ∃ N, ll.length = N := ⟨_, rfl⟩
      rw [hN]
      clear hN hE
      go_enter Try.func56, Try.ntmps56
      go_wp2
      go_ret
      exact ⟨rfl, hbb⟩
    · have d2 : decide (40 < n) = false := by simpa using h2
      have HE : Hid ((if 60 < ll.length then 4 else rf n ll) = E) := hide (by
        have h := unhide hE
        unfold rows at h
        rw [if_neg (by omega)] at h
        exact h)
      have hr0 := hr.below hbb
      obtain ⟨N, hN⟩ : ∃ N, ll.length = N := ⟨_, rfl⟩
      have HN := hide hN
      rw [hN] at zl HE ⊢
      clear hN hE hr
      by_cases h3 : 60 < N
      · obtain rfl : E = 4 := by rw [← unhide HE, if_pos h3]
        rw [errV_ne (by omega)]
        go_enter Try.func56, Try.ntmps56
        go_wp2
        go_ret
        exact ⟨rfl, hbb⟩
      · have HS0 : Hid (rf n (ll.drop 0) = E) := hide (by rw [List.drop_zero, ← unhide HE, if_neg h3])
        clear HE
        go_enter Try.func56, Try.ntmps56
        go_wp2
        go_loopw [22] (fun i wr => ∃ j : Nat, j ≤ N ∧ i = .int .i64 j ∧ Hid (rf n (ll.drop j) = E) ∧ Rws wr a ll ∧ wr.cell? ⟨w.heap.size, 0, none⟩ = some (.int .i64 n) ∧ Below w.heap.size w wr) (fun i _ => N - (intOf i).toNat)
        case atStart => exact ⟨0, Nat.zero_le _, rfl, HS0, hr0, hbc, hbb⟩
        case round =>
          clear hbc hbb hr0
          obtain ⟨j, hj, rfl, HS, hr, hbc, hbb⟩ := hrel
          clear HS0
          by_cases hlt : j < N
          · have hlt' : j < ll.length := by rw [unhide HN]; exact hlt
            obtain ⟨b1, off1, rfl, _, hc1⟩ := hr.at hlt'
            obtain ⟨A, C, c1, c2, c3, c4, c5⟩ := hc1 j hlt'
            have HS2 : Hid ((if 60 < (rowAt ll j).length then 4 else if (rowAt ll j).any (out n) = true then 1 else rf n (ll.drop (j + 1))) = E) := hide (by rw [← unhide HS, rows_cons hlt', rf])
            obtain ⟨l, hl⟩ : ∃ l, rowAt ll j = l := ⟨_, rfl⟩
            rw [hl] at c1 c3 c5 HS2
            have hck := containsFunc n A C l w.heap.size wr (by omega) c5 hbc
            obtain ⟨L, hL⟩ : ∃ L, l.length = L := ⟨_, rfl⟩
            have HL := hide hL
            rw [hL] at c1 c3 HS2 hck
            have hL9 : L ≤ 9223372036854775807 := by omega
            obtain ⟨T, hT⟩ : ∃ T, l.any (out n) = T := ⟨_, rfl⟩
            rw [hT] at HS2 hck
            clear hl hL hc1 hlt' c2 HS hT
            by_cases h60 : 60 < L
            · obtain rfl : E = 4 := by rw [← unhide HS2, if_pos h60]
              clear HS2 hck
              go_wp2
              go_ret
              exact ⟨by first | rfl | (rw [errV_ne (by omega)]; rfl), hbb⟩
            · have HS3 : Hid ((if T = true then 1 else rf n (ll.drop (j + 1))) = E) := hide (by rw [← unhide HS2, if_neg h60])
              clear HS2
              cases T with
              | true =>
                obtain rfl : E = 1 := by rw [← unhide HS3, if_pos rfl]
                clear HS3
                go_wp2_with fail
                refine hck.mono ?_
                clear hck
                rintro e w2 ⟨rfl, hw2⟩
                obtain rfl : wr = w2 := hw2.symm
                clear hw2
                go_wp2
                go_ret
                exact ⟨by first | rfl | (rw [errV_ne (by omega)]; rfl), hbb⟩
              | false =>
                have HS4 : Hid (rf n (ll.drop (j + 1)) = E) := hide (by rw [← unhide HS3]; rfl)
                clear HS3
                go_wp2_with fail
                refine hck.mono ?_
                clear hck
                rintro e w2 ⟨rfl, hw2⟩
                obtain rfl : wr = w2 := hw2.symm
                clear hw2
                go_wp2
                go_roundw
                case rel => exact ⟨j + 1, by omega, by go_num, HS4, hr, hbc, hbb⟩
                case measure => simp [intOf]; omega
          · obtain rfl : j = N := by omega
            obtain rfl : E = 0 := by rw [← unhide HS, ← unhide HN, List.drop_length]; rfl
            clear HS
            go_wp2
            go_ret
            exact ⟨by first | rfl | (rw [errV_ne (by omega)]; rfl), hbb⟩

end Go.Proofs.Ythkibjhhlcfceai.Lrn

/-
  Package scale's small pieces (outside, sum, right, countAll), and slices.Max and slices.Index: by their contracts.
-/
namespace Go.Proofs.Ythkibjhhlcfceai.Scl
open Go.RowKit
open Go.Proofs.Ythkibjhhlcfceai.Tre
set_option linter.unusedVariables false

/-- A number is not from 0 to m. -/
def outs (m n : Int) : Bool := decide (n < 0) || decide (m < n)
theorem any_of (c : Int) (l : List Int) (k : Nat) (hk : k < l.length) (h : outs c l[k] = true) : l.any (outs c) = true :=
  List.any_eq_true.2 ⟨l[k], List.getElem_mem hk, h⟩
theorem any_step (c : Int) (l : List Int) (k : Nat) (hk : k < l.length) (h0 : (l.take k).any (outs c) = false) (h : outs c l[k] = false) : (l.take (k + 1)).any (outs c) = false := by
  rw [List.take_succ_eq_append_getElem hk, List.any_append, h0]
  simp [h]
theorem outs_no {m : Int} {l : List Int} (h : l.any (outs m) = false) : ∀ i, i < l.length → 0 ≤ at0 l i ∧ at0 l i ≤ m := fun i hi => by
  have e : at0 l i = l[i] := by simp [at0, hi]
  have h2 : outs m l[i] = false := by simpa using List.any_eq_false.1 h _ (List.getElem_mem hi)
  rw [e]
  simp [outs] at h2
  omega
theorem outs_yes {m : Int} {l : List Int} (h : l.any (outs m) = true) : ∃ i, i < l.length ∧ (at0 l i < 0 ∨ m < at0 l i) := by
  obtain ⟨n, hn, h2⟩ := List.any_eq_true.1 h
  obtain ⟨i, hi, rfl⟩ := List.getElem_of_mem hn
  have e : at0 l i = l[i] := by simp [at0, hi]
  refine ⟨i, hi, ?_⟩
  rw [e]
  simpa [outs] using h2

theorem outside1 (c n : Int) (B : Nat) (w : World) (hc : w.cell? ⟨B, 0, none⟩ = some (.int .i64 c)) :
    Calls Try.prog 91 #[.int .i64 n, .pointer (some ⟨B, 0, none⟩)] w fun e w' => e = .returned (.bool (outs c n)) ∧ w' = w := by
  by_cases h1 : n < 0
  · have h3 : decide (n < 0) = true := by simpa using h1
    go_enter Try.func91, Try.ntmps91
    go_wp2
    go_ret
    exact ⟨by simp [outs, h3], rfl⟩
  · have h2 : decide (n < 0) = false := by simpa using h1
    go_enter Try.func91, Try.ntmps91
    go_wp2
    go_ret
    exact ⟨by simp [outs, h2], rfl⟩

set_option maxHeartbeats 400000 in
theorem indexFunc (c : Int) (a : Option Addr) (cap : Nat) (l : List Int) (B : Nat) (w : World) (hl : l.length ≤ 9223372036854775807) (hr : Row w a l) (hc : w.cell? ⟨B, 0, none⟩ = some (.int .i64 c)) :
    Calls Try.prog 62 #[.slice a l.length cap, .func (.func 91) #[] #[.pointer (some ⟨B, 0, none⟩)]] w
      fun e w' => (∃ r : Int, e = .returned (.int .i64 r) ∧ (decide (0 ≤ r)) = l.any (outs c)) ∧ w' = w := by
  go_enter Try.func62, Try.ntmps62
  go_wp2
  go_loop [8] (fun i => ∃ k : Nat, k ≤ l.length ∧ i = .int .i64 k ∧ (l.take k).any (outs c) = false) (fun i => l.length - (intOf i).toNat)
  case atStart => exact ⟨0, Nat.zero_le _, rfl, by simp⟩
  case round =>
    obtain ⟨k, hk, rfl, hno⟩ := hrel
    have HNO : Hid ((l.take k).any (outs c) = false) := hno
    clear hno
    by_cases hlt : k < l.length
    · obtain ⟨b, off, rfl, hb, hcs⟩ := hr.at hlt
      have hck := hcs k hlt
      clear hcs
      go_wp2_with (go_at_call 91; refine (outside1 c _ _ _ hc).mono ?_; rintro e w' ⟨rfl, rfl⟩)
      · go_ret
        have hh : outs c l[k] = true := by assumption
        exact ⟨⟨k, rfl, by rw [any_of c l k hlt hh]; simp⟩, rfl⟩
      · have hh : outs c l[k] = false := by assumption
        go_round
        case rel => exact ⟨k + 1, by omega, by go_num, any_step c l k hlt HNO.out hh⟩
        case measure => simp [intOf]; omega
    · go_wp2
      go_ret
      have hh := HNO.out
      rw [List.take_of_length_le (by omega)] at hh
      exact ⟨⟨-1, rfl, by rw [hh]; rfl⟩, rfl⟩

theorem containsFunc (c : Int) (a : Option Addr) (cap : Nat) (l : List Int) (B : Nat) (w : World) (hl : l.length ≤ 9223372036854775807) (hr : Row w a l) (hc : w.cell? ⟨B, 0, none⟩ = some (.int .i64 c)) :
    Calls Try.prog 34 #[.slice a l.length cap, .func (.func 91) #[] #[.pointer (some ⟨B, 0, none⟩)]] w
      fun e w' => e = .returned (.bool (l.any (outs c))) ∧ w' = w := by
  go_enter Try.func34, Try.ntmps34
  go_wp2_with fail
  refine (indexFunc c a cap l B w hl hr hc).mono ?_
  rintro e w' ⟨⟨r, rfl, hr2⟩, rfl⟩
  have HR := hide hr2
  clear hr2
  go_wp2
  go_ret
  exact ⟨by rw [← unhide HR]; rfl, rfl⟩

theorem boxed_cell (w : World) (c : Int) (t : TypeId) : (w.alloc (.cells #[.int .i64 c] t)).cell? ⟨w.heap.size, 0, none⟩ = some (.int .i64 c) := by
  rw [World.cell?_alloc_at _ _ _ _ rfl]; rfl

theorem outside (c : Int) (w : World) : Calls Try.prog 82 #[.int .i64 c] w fun e w' => e = .returned (.func (.func 91) #[] #[.pointer (some ⟨w.heap.size, 0, none⟩)]) ∧ w' = w.alloc (.cells #[.int .i64 c] 3) := by
  have hmf : ∀ (fn : Fn) (first cap : Array Value) (w : World), (Instr.makeFunc fn first cap).run Try.prog w = .ok (.func fn first cap) w := fun _ _ _ _ => rfl
  go_enter Try.func82, Try.ntmps82
  go_wp2
  go_ret
  exact ⟨rfl, rfl⟩
theorem below_box (w : World) (c : Int) (t : TypeId) : Below w.heap.size w (w.alloc (.cells #[.int .i64 c] t)) := (Below.refl _ _).alloc (Nat.le_refl _) _

set_option maxHeartbeats 1000000 in
theorem sum (a : Option Addr) (cap N : Nat) (l : List Int) (w : World) (hn : Hid (N = l.length)) (hl : N ≤ 9223372036854775807) (hr : Row w a l) (hs : Hid (Small l)) :
    Calls Try.prog 83 #[.slice a N cap] w fun e w' => e = .returned (.int .i64 (tot l)) ∧ w' = w := by
  go_enter Try.func83, Try.ntmps83
  go_wp2
  go_loopw [3, 8] (fun t i wr => ∃ (j : Nat) (T : Int), j ≤ N ∧ i = .int .i64 j ∧ t = .int .i64 T ∧ Hid (T = pfx l j) ∧ w = wr) (fun _ i _ => N - (intOf i).toNat)
  case atStart => exact ⟨0, 0, Nat.zero_le _, rfl, rfl, rfl, rfl⟩
  case round =>
    obtain ⟨j, T, hj, rfl, rfl, HT, rfl⟩ := hrel
    by_cases hlt : j < N
    · have hlt' : j < l.length := by rw [← unhide hn]; exact hlt
      obtain ⟨b, off, rfl, hb, hc⟩ := cell_at hr (by omega)
      have c1 := hc j hlt'
      have HS : Hid (T + at0 l j = pfx l (j + 1)) := hide (by rw [pfx, unhide HT])
      have hb1 := unhide hs (j + 1) hlt'
      rw [← unhide HS] at hb1
      obtain ⟨X, hX⟩ : ∃ X, at0 l j = X := ⟨_, rfl⟩
      rw [hX] at c1 HS hb1
      have hw : IntKind.i64.wrap (T + X) = T + X := IntWalk.i64_in _ (by omega)
      clear hc hX hlt' hb1
      go_wp2
      go_roundw
      case rel => exact ⟨j + 1, T + X, by omega, by go_num, by first | rfl | go_num, HS, by first | trivial | rfl⟩
      case measure => simp [intOf]; omega
    · obtain rfl : j = N := by omega
      go_wp2
      go_ret
      exact ⟨by rw [unhide HT, unhide hn]; rfl, rfl⟩

end Go.Proofs.Ythkibjhhlcfceai.Scl

/-
  scale.countAll, slices.Max, slices.Index of the greatest: by their contracts.
-/
namespace Go.Proofs.Ythkibjhhlcfceai.Scl
open Go.RowKit
open Go.Proofs.Ythkibjhhlcfceai.Tre
set_option linter.unusedVariables false

/-- An error as a value. -/
def errV (e : Int) : Value := if e = 0 then .nilIface else .iface 52 (.int .i64 e)
theorem errV_zero {e : Int} (h : e = 0) : errV e = .nilIface := by simp [errV, h]
theorem errV_ne {e : Int} (h : e ≠ 0) : errV e = .iface 52 (.int .i64 e) := by simp [errV, h]

theorem cf_any {c : List Int} (h0 : c.length ≠ 0) (h40 : ¬ 40 < c.length) (h : c.any (outs 1000000) = true) : cf c = 1 := by
  obtain ⟨i, hi, hb⟩ := outs_yes h
  exact cf_bad h0 h40 hi hb

/-- What countAll tells. -/
def counted (c : List Int) : Ending := .returned (.tuple #[.int .i64 (if cf c = 0 then tot c else 0), errV (cf c)])

set_option maxHeartbeats 1000000 in
theorem countAll (a : Option Addr) (cap : Nat) (c : List Int) (w : World) (hl : c.length ≤ 9223372036854775807) (hr : Row w a c) :
    Calls Try.prog 57 #[.slice a c.length cap] w fun e w' => e = counted c ∧ Below w.heap.size w w' := by
  by_cases h0 : c.length = 0
  · have hv : counted c = .returned (.tuple #[.int .i64 0, .iface 52 (.int .i64 5)]) := by simp [counted, errV, cf, h0]
    have hz : ((c.length : Int) == 0) = true := by simp [h0]
    rw [hv]
    clear hv
    go_enter Try.func57, Try.ntmps57
    go_wp2
    go_ret2
    exact ⟨rfl, Below.refl _ _⟩
  · have hz : ((c.length : Int) == 0) = false := by rw [beq_eq_false_iff_ne]; omega
    by_cases h40 : 40 < c.length
    · have hv : counted c = .returned (.tuple #[.int .i64 0, .iface 52 (.int .i64 4)]) := by simp [counted, errV, cf, h0, h40]
      rw [hv]
      clear hv h0
      go_enter Try.func57, Try.ntmps57
      go_wp2
      go_ret2
      exact ⟨rfl, Below.refl _ _⟩
    · have hb := below_box w 1000000 3
      have hcf := hide (containsFunc 1000000 a cap c w.heap.size _ hl (hr.below hb) (boxed_cell w 1000000 3))
      have hr1 := hr.below hb
      cases hany : c.any (outs 1000000)
      · have hin := outs_no hany
        have hcs := cf_sum h0 h40 hin
        have hsm := hide (small_of hin (by omega))
        have hsum := hide (sum a cap c.length c _ (hide rfl) hl hr1 hsm)
        rw [hany] at hcf
        obtain ⟨N, hN⟩ : ∃ N, c.length = N := ⟨_, rfl⟩
        rw [hN] at hcf hsum hz h40 hl ⊢
        clear hin hany h0 hN hsm
        by_cases ht : tot c = 0
        · have hv : counted c = .returned (.tuple #[.int .i64 0, .iface 52 (.int .i64 5)]) := by rw [if_pos ht] at hcs; simp [counted, errV, hcs]
          have hq : (tot c == 0) = true := by rw [ht]; rfl
          rw [hv]
          obtain ⟨T, hT⟩ : ∃ T, tot c = T := ⟨_, rfl⟩
          rw [hT] at hq hsum
          clear hv hcs ht hT
          go_enter Try.func57, Try.ntmps57
          go_wp2_with fail
          refine (outside 1000000 w).mono ?_
          rintro e w1 ⟨rfl, rfl⟩
          go_wp2_with fail
          refine (unhide hcf).mono ?_
          rintro e w1 ⟨rfl, rfl⟩
          go_wp2_with fail
          refine (unhide hsum).mono ?_
          rintro e w1 ⟨rfl, rfl⟩
          go_wp2
          go_ret2
          exact ⟨rfl, hb⟩
        · have hv : counted c = .returned (.tuple #[.int .i64 (tot c), .nilIface]) := by rw [if_neg ht] at hcs; simp [counted, errV, hcs]
          have hq : (tot c == 0) = false := by rw [beq_eq_false_iff_ne]; exact ht
          rw [hv]
          obtain ⟨T, hT⟩ : ∃ T, tot c = T := ⟨_, rfl⟩
          rw [hT] at hq hsum ⊢
          clear hv hcs ht hT
          go_enter Try.func57, Try.ntmps57
          go_wp2_with fail
          refine (outside 1000000 w).mono ?_
          rintro e w1 ⟨rfl, rfl⟩
          go_wp2_with fail
          refine (unhide hcf).mono ?_
          rintro e w1 ⟨rfl, rfl⟩
          go_wp2_with fail
          refine (unhide hsum).mono ?_
          rintro e w1 ⟨rfl, rfl⟩
          go_wp2
          go_ret2
          exact ⟨rfl, hb⟩
      · have hv : counted c = .returned (.tuple #[.int .i64 0, .iface 52 (.int .i64 1)]) := by simp [counted, errV, cf_any h0 h40 hany]
        rw [hany] at hcf
        rw [hv]
        obtain ⟨N, hN⟩ : ∃ N, c.length = N := ⟨_, rfl⟩
        rw [hN] at hcf hz h40 hl ⊢
        clear hv hany h0 hN
        go_enter Try.func57, Try.ntmps57
        go_wp2_with fail
        refine (outside 1000000 w).mono ?_
        rintro e w1 ⟨rfl, rfl⟩
        go_wp2_with fail
        refine (unhide hcf).mono ?_
        rintro e w1 ⟨rfl, rfl⟩
        go_wp2
        go_ret2
        exact ⟨rfl, hb⟩

theorem count_ok (a : Option Addr) (cap : Nat) (c : List Int) (w : World) (hl : c.length ≤ 9223372036854775807) (hr : Row w a c) (h : Hid (cf c = 0)) :
    Calls Try.prog 57 #[.slice a c.length cap] w fun e w' => e = .returned (.tuple #[.int .i64 (tot c), .nilIface]) ∧ Below w.heap.size w w' := by
  have := countAll a cap c w hl hr
  unfold counted at this
  rwa [if_pos (unhide h), errV_zero (unhide h)] at this
theorem count_no (a : Option Addr) (cap : Nat) (c : List Int) (w : World) (hl : c.length ≤ 9223372036854775807) (hr : Row w a c) (h : Hid (cf c ≠ 0)) :
    Calls Try.prog 57 #[.slice a c.length cap] w fun e w' => e = .returned (.tuple #[.int .i64 0, .iface 52 (.int .i64 (cf c))]) ∧ Below w.heap.size w w' := by
  have := countAll a cap c w hl hr
  unfold counted at this
  rwa [if_neg (unhide h), errV_ne (unhide h)] at this

set_option maxHeartbeats 1000000 in
theorem maxOf (a : Option Addr) (cap N : Nat) (l : List Int) (w : World) (hn : Hid (N = l.length)) (h0 : 1 ≤ N) (hl : N ≤ 9223372036854775807) (hr : Row w a l) :
    Calls Try.prog 85 #[.slice a N cap] w fun e w' => e = .returned (.int .i64 (at0 l (bst l l.length))) ∧ w' = w := by
  obtain ⟨b, off, rfl, hb, hc⟩ := cell_at hr (by rw [← unhide hn]; omega)
  have c0 := hc 0 (by rw [← unhide hn]; omega)
  have HB1 : Hid (at0 l 0 = at0 l (bst l 1)) := hide (by simp [bst])
  obtain ⟨X0, hX0⟩ : ∃ X, at0 l 0 = X := ⟨_, rfl⟩
  rw [hX0] at c0 HB1
  rw [Nat.add_zero] at c0
  have hd : decide ((N : Int) < 1) = false := by simp; omega
  have HC := hide hc
  clear hc hX0
  go_enter Try.func85, Try.ntmps85
  go_wp2
  go_loopw [3, 4] (fun m i wr => ∃ (j : Nat) (X : Int), 1 ≤ j ∧ j ≤ N ∧ i = .int .i64 j ∧ m = .int .i64 X ∧ Hid (X = at0 l (bst l j)) ∧ w = wr) (fun _ i _ => N - (intOf i).toNat)
  case atStart => exact ⟨1, X0, Nat.le_refl _, h0, rfl, rfl, HB1, rfl⟩
  case round =>
    obtain ⟨j, X, hj1, hj, rfl, rfl, HX, rfl⟩ := hrel
    by_cases hlt : j < N
    · have hlt' : j < l.length := by rw [← unhide hn]; exact hlt
      have c1 := unhide HC j hlt'
      have HS : Hid (at0 l (bst l (j + 1)) = if X < at0 l j then at0 l j else X) := hide (by
        rw [bst, ← unhide HX]
        split
        · rfl
        · exact (unhide HX).symm)
      obtain ⟨Y, hY⟩ : ∃ Y, at0 l j = Y := ⟨_, rfl⟩
      rw [hY] at c1 HS
      clear hY hlt'
      by_cases hx : X < Y
      · have HS2 : Hid (Y = at0 l (bst l (j + 1))) := hide (by rw [unhide HS, if_pos hx])
        clear HS
        go_wp2
        go_roundw
        case rel => exact ⟨j + 1, Y, by omega, by omega, by go_num, by first | rfl | (congr 1; omega) | simp [hx] , HS2, by first | trivial | rfl⟩
        case measure => simp [intOf]; omega
      · have HS2 : Hid (X = at0 l (bst l (j + 1))) := hide (by rw [unhide HS, if_neg hx])
        clear HS
        go_wp2
        go_roundw
        case rel => exact ⟨j + 1, X, by omega, by omega, by go_num, by first | rfl | (congr 1; omega) | simp [hx], HS2, by first | trivial | rfl⟩
        case measure => simp [intOf]; omega
    · obtain rfl : j = N := by omega
      go_wp2
      go_ret
      exact ⟨by rw [unhide HX, unhide hn]; rfl, rfl⟩

set_option maxHeartbeats 1000000 in
theorem indexOf (a : Option Addr) (cap N B : Nat) (l : List Int) (w : World) (hn : Hid (N = l.length)) (hl : N ≤ 9223372036854775807) (hr : Row w a l) (hB : Hid (IsBest l B)) :
    Calls Try.prog 84 #[.slice a N cap, .int .i64 (at0 l B)] w fun e w' => e = .returned (.int .i64 B) ∧ w' = w := by
  obtain ⟨b, off, rfl, hb, hc⟩ := cell_at hr (Nat.lt_of_le_of_lt (Nat.zero_le _) (unhide hB).1)
  have HC := hide hc
  have HL := hide (unhide hB).2.2
  have hBN : B < N := by rw [unhide hn]; exact (unhide hB).1
  obtain ⟨X, hX⟩ : ∃ X, at0 l B = X := ⟨_, rfl⟩
  have HX := hide hX
  rw [hX] at HL ⊢
  clear hc hX
  go_enter Try.func84, Try.ntmps84
  go_wp2
  go_loopw [8] (fun i wr => ∃ (j : Nat), j ≤ B ∧ i = .int .i64 j ∧ w = wr) (fun i _ => N - (intOf i).toNat)
  case atStart => exact ⟨0, Nat.zero_le _, rfl, rfl⟩
  case round =>
    obtain ⟨j, hj, rfl, rfl⟩ := hrel
    have hjN : j < N := by omega
    have c1 := unhide HC j (by rw [← unhide hn]; exact hjN)
    by_cases hlt : j < B
    · have h1 := unhide HL j hlt
      obtain ⟨Y, hY⟩ : ∃ Y, at0 l j = Y := ⟨_, rfl⟩
      rw [hY] at c1 h1
      have hq : (X == Y) = false := by rw [beq_eq_false_iff_ne]; omega
      clear hY h1
      go_wp2
      go_roundw
      case rel => exact ⟨j + 1, by omega, by go_num, by first | trivial | rfl⟩
      case measure => simp [intOf]; omega
    · obtain rfl : j = B := by omega
      rw [unhide HX] at c1
      have hq : (X == X) = true := by simp
      go_wp2
      go_ret
      exact ⟨rfl, rfl⟩

end Go.Proofs.Ythkibjhhlcfceai.Scl
