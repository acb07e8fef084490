/-
  learn.check: by its contract.
-/
import Derived.Test.YtgffpljnhadigagLearnMath
import Derived.Test.YtgffpljnhadigagOwnSet
import Derived.Test.YtgffpljnhadigagScaleBase
import Derived.Deep.QuietTactic
import Derived.BigQuiet
namespace Go.Proofs.Ytgffpljnhadigag.Lrn
open Go.RowKit
open Go.Proofs.Ytgffpljnhadigag.Tre Go.Proofs.Ytgffpljnhadigag.Scl Go.Proofs.Ytgffpljnhadigag.Hrn
set_option linter.unusedVariables false

theorem any_of (c : Int) (l : List Int) (k : Nat) (hk : k < l.length) (h : out c l[k] = true) : l.any (out c) = true :=
  List.any_eq_true.2 ⟨l[k], List.getElem_mem hk, h⟩
theorem any_step (c : Int) (l : List Int) (k : Nat) (hk : k < l.length) (h0 : (l.take k).any (out c) = false) (h : out c l[k] = false) : (l.take (k + 1)).any (out c) = false := by
  rw [List.take_succ_eq_append_getElem hk, List.any_append, h0]
  simp [h]
theorem rows_cons {ll : List (List Int)} {k : Nat} (h : k < ll.length) : ll.drop k = rowAt ll k :: ll.drop (k + 1) := by
  rw [List.drop_eq_getElem_cons h, rowAt_get h]

theorem unknown (c n : Int) (B : Nat) (w : World) (hc : w.cell? ⟨B, 0, none⟩ = some (.int .i64 c)) :
    Calls Try.prog 21 #[.int .i64 n, .pointer (some ⟨B, 0, none⟩)] w fun e w' => e = .returned (.bool (out c n)) ∧ w' = w := by
  by_cases h1 : n < 0
  · have h3 : decide (n < 0) = true := by simpa using h1
    go_enter Try.func21, Try.ntmps21
    go_wp2
    go_ret
    exact ⟨by simp [out, h3], rfl⟩
  · have h2 : decide (n < 0) = false := by simpa using h1
    go_enter Try.func21, Try.ntmps21
    go_wp2
    go_ret
    exact ⟨by simp [out, h2], rfl⟩

set_option maxHeartbeats 400000 in
theorem indexFunc (c : Int) (a : Option Addr) (cap : Nat) (l : List Int) (B : Nat) (w : World) (hl : l.length ≤ 9223372036854775807) (hr : Row w a l) (hc : w.cell? ⟨B, 0, none⟩ = some (.int .i64 c)) :
    Calls Try.prog 28 #[.slice a l.length cap, .func (.func 21) #[] #[.pointer (some ⟨B, 0, none⟩)]] w
      fun e w' => (∃ r : Int, e = .returned (.int .i64 r) ∧ (decide (0 ≤ r)) = l.any (out c)) ∧ w' = w := by
  go_enter Try.func28, Try.ntmps28
  go_wp2
  go_loop [8] (fun i => ∃ k : Nat, k ≤ l.length ∧ i = .int .i64 k ∧ (l.take k).any (out c) = false) (fun i => l.length - (intOf i).toNat)
  case atStart => exact ⟨0, Nat.zero_le _, rfl, by simp⟩
  case round =>
    obtain ⟨k, hk, rfl, hno⟩ := hrel
    have HNO : Hid ((l.take k).any (out c) = false) := hno
    clear hno
    by_cases hlt : k < l.length
    · obtain ⟨b, off, rfl, hb, hcs⟩ := hr.at hlt
      have hck := hcs k hlt
      clear hcs
      go_wp2_with (go_at_call 21; refine (unknown c _ _ _ hc).mono ?_; rintro e w' ⟨rfl, rfl⟩)
      · go_ret
        have hh : out c l[k] = true := by assumption
        exact ⟨⟨k, rfl, by rw [any_of c l k hlt hh]; simp⟩, rfl⟩
      · have hh : out c l[k] = false := by assumption
        go_round
        case rel => exact ⟨k + 1, by omega, by go_num, any_step c l k hlt HNO.out hh⟩
        case measure => simp [intOf]; omega
    · go_wp2
      go_ret
      have hh := HNO.out
      rw [List.take_of_length_le (by omega)] at hh
      exact ⟨⟨-1, rfl, by rw [hh]; rfl⟩, rfl⟩

theorem containsFunc (c : Int) (a : Option Addr) (cap : Nat) (l : List Int) (B : Nat) (w : World) (hl : l.length ≤ 9223372036854775807) (hr : Row w a l) (hc : w.cell? ⟨B, 0, none⟩ = some (.int .i64 c)) :
    Calls Try.prog 22 #[.slice a l.length cap, .func (.func 21) #[] #[.pointer (some ⟨B, 0, none⟩)]] w
      fun e w' => e = .returned (.bool (l.any (out c))) ∧ w' = w := by
  go_enter Try.func22, Try.ntmps22
  go_wp2_with fail
  refine (indexFunc c a cap l B w hl hr hc).mono ?_
  rintro e w' ⟨⟨r, rfl, hr2⟩, rfl⟩
  have HR := hide hr2
  clear hr2
  go_wp2
  go_ret
  exact ⟨by rw [← unhide HR]; rfl, rfl⟩

/-- An error as a value. -/
def errV (e : Int) : Value := if e = 0 then .nilIface else .iface 44 (.int .i64 e)
theorem errV_zero : errV 0 = .nilIface := rfl
theorem errV_ne {e : Int} (h : e ≠ 0) : errV e = .iface 44 (.int .i64 e) := by simp [errV, h]
theorem box_cell (w : World) (c : Int) (t : TypeId) : (w.alloc (.cells #[.int .i64 c] t)).cell? ⟨w.heap.size, 0, none⟩ = some (.int .i64 c) := by
  rw [World.cell?_alloc_at _ _ _ _ rfl]; rfl
theorem box_below (w : World) (c : Int) (t : TypeId) : Below w.heap.size w (w.alloc (.cells #[.int .i64 c] t)) := (Below.refl _ _).alloc (Nat.le_refl _) _

set_option maxRecDepth 100000 in
set_option maxHeartbeats 4000000 in
theorem check (a : Option Addr) (cap : Nat) (ll : List (List Int)) (n E : Int) (w : World) (hr : Rws w a ll) (zl : ll.length ≤ 9223372036854775807) (hE : Hid (rows ll n = E)) :
    Calls Try.prog 11 #[.slice a ll.length cap, .int .i64 n] w fun e w' => e = .returned (errV E) ∧ Below w.heap.size w w' := by
  have hmf : ∀ (fn : Fn) (first cap : Array Value) (w : World), (Instr.makeFunc fn first cap).run Try.prog w = .ok (.func fn first cap) w := fun _ _ _ _ => rfl
  have hbc := box_cell w n 3
  have hbb := box_below w n 3
  by_cases h1 : n < 1
  · obtain rfl : E = 1 := by rw [← unhide hE]; unfold rows; rw [if_pos (Or.inl h1)]
    have d1 : decide (n < 1) = true := by simpa using h1
    rw [errV_ne (by omega)]
    obtain ⟨N, hN⟩ : ∃ N, ll.length = N := ⟨_, rfl⟩
    rw [hN]
    clear hN hE
    go_enter Try.func11, Try.ntmps11
    go_wp2
    go_ret
    exact ⟨rfl, hbb⟩
  · have d1 : decide (n < 1) = false := by simpa using h1
    by_cases h2 : 40 < n
    · obtain rfl : E = 1 := by rw [← unhide hE]; unfold rows; rw [if_pos (Or.inr h2)]
      have d2 : decide (40 < n) = true := by simpa using h2
      rw [errV_ne (by omega)]
      obtain ⟨N, hN⟩ : ∃ N, ll.length = N := ⟨_, rfl⟩
      rw [hN]
      clear hN hE
      go_enter Try.func11, Try.ntmps11
      go_wp2
      go_ret
      exact ⟨rfl, hbb⟩
    · have d2 : decide (40 < n) = false := by simpa using h2
      have HE : Hid ((if 60 < ll.length then 4 else rf n ll) = E) := hide (by
        have h := unhide hE
        unfold rows at h
        rw [if_neg (by omega)] at h
        exact h)
      have hr0 := hr.below hbb
      obtain ⟨N, hN⟩ : ∃ N, ll.length = N := ⟨_, rfl⟩
      have HN := hide hN
      rw [hN] at zl HE ⊢
      clear hN hE hr
      by_cases h3 : 60 < N
      · obtain rfl : E = 4 := by rw [← unhide HE, if_pos h3]
        rw [errV_ne (by omega)]
        go_enter Try.func11, Try.ntmps11
        go_wp2
        go_ret
        exact ⟨rfl, hbb⟩
      · have HS0 : Hid (rf n (ll.drop 0) = E) := hide (by rw [List.drop_zero, ← unhide HE, if_neg h3])
        clear HE
        go_enter Try.func11, Try.ntmps11
        go_wp2
        go_loopw [22] (fun i wr => ∃ j : Nat, j ≤ N ∧ i = .int .i64 j ∧ Hid (rf n (ll.drop j) = E) ∧ Rws wr a ll ∧ wr.cell? ⟨w.heap.size, 0, none⟩ = some (.int .i64 n) ∧ Below w.heap.size w wr) (fun i _ => N - (intOf i).toNat)
        case atStart => exact ⟨0, Nat.zero_le _, rfl, HS0, hr0, hbc, hbb⟩
        case round =>
          clear hbc hbb hr0
          obtain ⟨j, hj, rfl, HS, hr, hbc, hbb⟩ := hrel
          clear HS0
          by_cases hlt : j < N
          · have hlt' : j < ll.length := by rw [unhide HN]; exact hlt
            obtain ⟨b1, off1, rfl, _, hc1⟩ := hr.at hlt'
            obtain ⟨A, C, c1, c2, c3, c4, c5⟩ := hc1 j hlt'
            have HS2 : Hid ((if 60 < (rowAt ll j).length then 4 else if (rowAt ll j).any (out n) = true then 1 else rf n (ll.drop (j + 1))) = E) := hide (by rw [← unhide HS, rows_cons hlt', rf])
            obtain ⟨l, hl⟩ : ∃ l, rowAt ll j = l := ⟨_, rfl⟩
            rw [hl] at c1 c3 c5 HS2
            have hck := containsFunc n A C l w.heap.size wr (by omega) c5 hbc
            obtain ⟨L, hL⟩ : ∃ L, l.length = L := ⟨_, rfl⟩
            have HL := hide hL
            rw [hL] at c1 c3 HS2 hck
            have hL9 : L ≤ 9223372036854775807 := by omega
            obtain ⟨T, hT⟩ : ∃ T, l.any (out n) = T := ⟨_, rfl⟩
            rw [hT] at HS2 hck
            clear hl hL hc1 hlt' c2 HS hT
            by_cases h60 : 60 < L
            · obtain rfl : E = 4 := by rw [← unhide HS2, if_pos h60]
              clear HS2 hck
              go_wp2
              go_ret
              exact ⟨by first | rfl | (rw [errV_ne (by omega)]; rfl), hbb⟩
            · have HS3 : Hid ((if T = true then 1 else rf n (ll.drop (j + 1))) = E) := hide (by rw [← unhide HS2, if_neg h60])
              clear HS2
              cases T with
              | true =>
                obtain rfl : E = 1 := by rw [← unhide HS3, if_pos rfl]
                clear HS3
                go_wp2_with fail
                refine hck.mono ?_
                clear hck
                rintro e w2 ⟨rfl, hw2⟩
                obtain rfl : wr = w2 := hw2.symm
                clear hw2
                go_wp2
                go_ret
                exact ⟨by first | rfl | (rw [errV_ne (by omega)]; rfl), hbb⟩
              | false =>
                have HS4 : Hid (rf n (ll.drop (j + 1)) = E) := hide (by rw [← unhide HS3]; rfl)
                clear HS3
                go_wp2_with fail
                refine hck.mono ?_
                clear hck
                rintro e w2 ⟨rfl, hw2⟩
                obtain rfl : wr = w2 := hw2.symm
                clear hw2
                go_wp2
                go_roundw
                case rel => exact ⟨j + 1, by omega, by go_num, HS4, hr, hbc, hbb⟩
                case measure => simp [intOf]; omega
          · obtain rfl : j = N := by omega
            obtain rfl : E = 0 := by rw [← unhide HS, ← unhide HN, List.drop_length]; rfl
            clear HS
            go_wp2
            go_ret
            exact ⟨by first | rfl | (rw [errV_ne (by omega)]; rfl), hbb⟩

end Go.Proofs.Ytgffpljnhadigag.Lrn
