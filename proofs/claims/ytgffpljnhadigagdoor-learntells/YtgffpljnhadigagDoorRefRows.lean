/-
  hornref2.Rows: by its contract.
-/
import Derived.Test.YtgffpljnhadigagDoorLearnMath
import Derived.Test.YtgffpljnhadigagDoorOwnSet
import Derived.Test.YtgffpljnhadigagDoorScaleBase
import Derived.Deep.QuietTactic
import Derived.BigQuiet
namespace Go.Proofs.YtgffpljnhadigagDoor.Lrn
open Go.RowKit
open Go.Proofs.YtgffpljnhadigagDoor.Tre Go.Proofs.YtgffpljnhadigagDoor.Scl Go.Proofs.YtgffpljnhadigagDoor.Hrn
set_option linter.unusedVariables false

theorem rows_drop {ll : List (List Int)} {k : Nat} (h : k < ll.length) : ll.drop k = rowAt ll k :: ll.drop (k + 1) := by
  rw [List.drop_eq_getElem_cons h, rowAt_get h]
theorem any_drop {n : Int} {l : List Int} {k : Nat} (h : k < l.length) : (l.drop k).any (out n) = (out n (at0 l k) || (l.drop (k + 1)).any (out n)) := by
  rw [List.drop_eq_getElem_cons h, List.any_cons]
  have e : at0 l k = l[k] := by simp [at0, h]
  rw [e]

set_option maxRecDepth 100000 in
set_option maxHeartbeats 4000000 in
theorem refRows (a : Option Addr) (cap : Nat) (ll : List (List Int)) (n E : Int) (w : World) (hr : Rws w a ll) (zl : ll.length ≤ 9223372036854775807) (hE : Hid (rows ll n = E)) :
    Calls Tryd.prog 4 #[.slice a ll.length cap, .int .i64 n] w fun e w' => e = .returned (.int .i64 E) ∧ w' = w := by
  by_cases h1 : n < 1
  · obtain rfl : E = 1 := by rw [← unhide hE]; unfold rows; rw [if_pos (Or.inl h1)]
    have d1 : decide (n < 1) = true := by simpa using h1
    obtain ⟨N, hN⟩ : ∃ N, ll.length = N := ⟨_, rfl⟩
    rw [hN]
    clear hN hE
    go_enter Tryd.func4, Tryd.ntmps4
    go_wp2
    go_ret
    exact ⟨rfl, rfl⟩
  · have d1 : decide (n < 1) = false := by simpa using h1
    by_cases h2 : 40 < n
    · obtain rfl : E = 1 := by rw [← unhide hE]; unfold rows; rw [if_pos (Or.inr h2)]
      have d2 : decide (40 < n) = true := by simpa using h2
      obtain ⟨N, hN⟩ : ∃ N, ll.length = N := ⟨_, rfl⟩
      rw [hN]
      clear hN hE
      go_enter Tryd.func4, Tryd.ntmps4
      go_wp2
      go_ret
      exact ⟨rfl, rfl⟩
    · have d2 : decide (40 < n) = false := by simpa using h2
      have HE : Hid ((if 60 < ll.length then 4 else rf n ll) = E) := hide (by
        have h := unhide hE
        unfold rows at h
        rw [if_neg (by omega)] at h
        exact h)
      obtain ⟨N, hN⟩ : ∃ N, ll.length = N := ⟨_, rfl⟩
      have HN := hide hN
      rw [hN] at zl HE ⊢
      clear hN hE
      by_cases h3 : 60 < N
      · obtain rfl : E = 4 := by rw [← unhide HE, if_pos h3]
        go_enter Tryd.func4, Tryd.ntmps4
        go_wp2
        go_ret
        exact ⟨rfl, rfl⟩
      · have HS0 : Hid (rf n (ll.drop 0) = E) := hide (by rw [List.drop_zero, ← unhide HE, if_neg h3])
        clear HE
        go_enter Tryd.func4, Tryd.ntmps4
        go_wp2
        go_loopw [5] (fun i wr => ∃ j : Nat, j ≤ N ∧ i = .int .i64 j ∧ Hid (rf n (ll.drop j) = E) ∧ w = wr) (fun i _ => N - (intOf i).toNat)
        case atStart => exact ⟨0, Nat.zero_le _, rfl, HS0, rfl⟩
        case round =>
          obtain ⟨j, hj, rfl, HS, rfl⟩ := hrel
          clear HS0
          by_cases hlt : j < N
          · have hlt' : j < ll.length := by rw [unhide HN]; exact hlt
            obtain ⟨b1, off1, rfl, _, hc1⟩ := hr.at hlt'
            obtain ⟨A, C, c1, c2, c3, c4, c5⟩ := hc1 j hlt'
            have HS2 : Hid ((if 60 < (rowAt ll j).length then 4 else if (rowAt ll j).any (out n) = true then 1 else rf n (ll.drop (j + 1))) = E) := hide (by rw [← unhide HS, rows_drop hlt', rf])
            obtain ⟨l, hl⟩ : ∃ l, rowAt ll j = l := ⟨_, rfl⟩
            rw [hl] at c1 c3 c5 HS2
            obtain ⟨L, hL⟩ : ∃ L, l.length = L := ⟨_, rfl⟩
            have HL := hide hL
            rw [hL] at c1 c3 HS2
            have hL9 : L ≤ 9223372036854775807 := by omega
            clear hl hL hc1 hlt' c2 HS
            by_cases h60 : 60 < L
            · obtain rfl : E = 4 := by rw [← unhide HS2, if_pos h60]
              clear HS2
              go_wp2
              go_ret
              exact ⟨rfl, rfl⟩
            · have HS3 : Hid ((if (l.drop 0).any (out n) = true then 1 else rf n (ll.drop (j + 1))) = E) := hide (by rw [List.drop_zero, ← unhide HS2, if_neg h60])
              clear HS2
              go_wp2
              go_loopw [6] (fun i wr => ∃ k : Nat, k ≤ L ∧ i = .int .i64 k ∧ Hid ((if (l.drop k).any (out n) = true then 1 else rf n (ll.drop (j + 1))) = E) ∧ w = wr) (fun i _ => L - (intOf i).toNat)
              case atStart => exact ⟨0, Nat.zero_le _, rfl, HS3, rfl⟩
              case round =>
                obtain ⟨k, hk, rfl, HK, rfl⟩ := hrel
                clear HS3
                by_cases hkl : k < L
                · have hkl' : k < l.length := by rw [unhide HL]; exact hkl
                  obtain ⟨b2, off2, rfl, _, hc2⟩ := cell_at c5 (by omega)
                  have e1 := hc2 k hkl'
                  have HK2 : Hid ((if (out n (at0 l k) || (l.drop (k + 1)).any (out n)) = true then 1 else rf n (ll.drop (j + 1))) = E) := hide (by rw [← any_drop hkl']; exact unhide HK)
                  obtain ⟨X, hX⟩ : ∃ X, at0 l k = X := ⟨_, rfl⟩
                  rw [hX] at e1 HK2
                  clear hX hc2 hkl' HK
                  by_cases hx1 : X < 0
                  · have dx : decide (X < 0) = true := by simpa using hx1
                    obtain rfl : E = 1 := by rw [← unhide HK2]; simp [out, hx1]
                    clear HK2
                    go_wp2
                    go_ret
                    exact ⟨rfl, rfl⟩
                  · have dx : decide (X < 0) = false := by simpa using hx1
                    by_cases hx2 : n ≤ X
                    · have dy : decide (n ≤ X) = true := by simpa using hx2
                      obtain rfl : E = 1 := by rw [← unhide HK2]; simp [out, hx2]
                      clear HK2
                      go_wp2
                      go_ret
                      exact ⟨rfl, rfl⟩
                    · have dy : decide (n ≤ X) = false := by simpa using hx2
                      have HK3 : Hid ((if (l.drop (k + 1)).any (out n) = true then 1 else rf n (ll.drop (j + 1))) = E) := hide (by
                        rw [← unhide HK2]
                        have : out n X = false := by simp [out]; omega
                        rw [this, Bool.false_or])
                      clear HK2
                      go_wp2
                      go_roundw
                      case rel => exact ⟨k + 1, by omega, by go_num, HK3, by first | trivial | rfl⟩
                      case measure => simp [intOf]; omega
                · obtain rfl : k = L := by omega
                  have HK2 : Hid (rf n (ll.drop (j + 1)) = E) := hide (by
                    rw [← unhide HK, ← unhide HL, List.drop_length]
                    rfl)
                  clear HK
                  go_wp2
                  go_roundw
                  case rel => exact ⟨j + 1, by omega, by go_num, HK2, by first | trivial | rfl⟩
                  case measure => simp [intOf]; omega
          · obtain rfl : j = N := by omega
            obtain rfl : E = 0 := by rw [← unhide HS, ← unhide HN, List.drop_length]; rfl
            clear HS
            go_wp2
            go_ret
            exact ⟨rfl, rfl⟩

end Go.Proofs.YtgffpljnhadigagDoor.Lrn
