/-
  hornref2.BitsOf, Number: by their contracts.
-/
import Derived.Test.YtpinmcgaaplkiagDoorWidthMath
import Derived.Test.YtpinmcgaaplkiagDoorOwnSet
import Derived.Test.YtpinmcgaaplkiagDoorScaleBase
import Derived.Deep.QuietTactic
import Derived.BigQuiet
namespace Go.Proofs.YtpinmcgaaplkiagDoor.Wid
open Go.RowKit
open Go.Proofs.YtpinmcgaaplkiagDoor.Tre Go.Proofs.YtpinmcgaaplkiagDoor.Scl Go.Proofs.YtpinmcgaaplkiagDoor.Bnd
set_option linter.unusedVariables false

theorem any_drop {p : Int → Bool} {l : List Int} {k : Nat} (h : k < l.length) : (l.drop k).any p = (p (at0 l k) || (l.drop (k + 1)).any p) := by
  rw [List.drop_eq_getElem_cons h, List.any_cons]
  have e : at0 l k = l[k] := by simp [at0, h]
  rw [e]

set_option maxRecDepth 100000 in
set_option maxHeartbeats 4000000 in
theorem refBits (a : Option Addr) (cap : Nat) (l : List Int) (E : Int) (w : World) (hr : Row w a l) (zl : l.length ≤ 9223372036854775807) (hE : Hid (bsF l = E)) :
    Calls Tryd.prog 17 #[.slice a l.length cap] w fun e w' => e = .returned (.int .i64 E) ∧ w' = w := by
  have HE : Hid ((if 400 < l.length then 4 else if (l.drop 0).any nob = true then 1 else 0) = E) := hide (by rw [List.drop_zero]; exact unhide hE)
  obtain ⟨N, hN⟩ : ∃ N, l.length = N := ⟨_, rfl⟩
  have HN := hide hN
  rw [hN] at zl HE ⊢
  clear hN hE
  by_cases h4 : 400 < N
  · obtain rfl : E = 4 := by rw [← unhide HE, if_pos h4]
    go_enter Tryd.func17, Tryd.ntmps17
    go_wp2
    go_ret
    exact ⟨rfl, rfl⟩
  · have HS0 : Hid ((if (l.drop 0).any nob = true then 1 else 0) = E) := hide (by rw [← unhide HE, if_neg h4])
    clear HE
    go_enter Tryd.func17, Tryd.ntmps17
    go_wp2
    go_loopw [3] (fun i wr => ∃ k : Nat, k ≤ N ∧ i = .int .i64 k ∧ Hid ((if (l.drop k).any nob = true then 1 else 0) = E) ∧ w = wr) (fun i _ => N - (intOf i).toNat)
    case atStart => exact ⟨0, Nat.zero_le _, rfl, HS0, rfl⟩
    case round =>
      obtain ⟨k, hk, rfl, HK, rfl⟩ := hrel
      clear HS0
      by_cases hkl : k < N
      · have hkl' : k < l.length := by rw [unhide HN]; exact hkl
        obtain ⟨b2, off2, rfl, _, hc2⟩ := cell_at hr (by omega)
        have e1 := hc2 k hkl'
        have HK2 : Hid ((if (nob (at0 l k) || (l.drop (k + 1)).any nob) = true then 1 else 0) = E) := hide (by rw [← any_drop hkl']; exact unhide HK)
        obtain ⟨X, hX⟩ : ∃ X, at0 l k = X := ⟨_, rfl⟩
        rw [hX] at e1 HK2
        clear hX hc2 hkl' HK
        by_cases hx1 : X < 0
        · have dx : decide (X < 0) = true := by simpa using hx1
          obtain rfl : E = 1 := by rw [← unhide HK2]; simp [nob, hx1]
          clear HK2
          go_wp2
          go_ret
          exact ⟨rfl, rfl⟩
        · have dx : decide (X < 0) = false := by simpa using hx1
          by_cases hx2 : 1 < X
          · have dy : decide (1 < X) = true := by simpa using hx2
            obtain rfl : E = 1 := by rw [← unhide HK2]; simp [nob, hx2]
            clear HK2
            go_wp2
            go_ret
            exact ⟨rfl, rfl⟩
          · have dy : decide (1 < X) = false := by simpa using hx2
            have HK3 : Hid ((if (l.drop (k + 1)).any nob = true then 1 else 0) = E) := hide (by
              rw [← unhide HK2]
              have : nob X = false := by simp [nob]; omega
              rw [this, Bool.false_or])
            clear HK2
            go_wp2
            go_roundw
            case rel => exact ⟨k + 1, by omega, by go_num, HK3, by first | trivial | rfl⟩
            case measure => simp [intOf]; omega
      · obtain rfl : k = N := by omega
        obtain rfl : E = 0 := by rw [← unhide HK, ← unhide HN, List.drop_length]; rfl
        clear HK
        go_wp2
        go_ret
        exact ⟨rfl, rfl⟩

theorem num_take {l : List Int} {k : Nat} (h : k < l.length) : num 0 (l.take (k + 1)) = 2 * num 0 (l.take k) + at0 l k := by
  have e : at0 l k = l[k] := by simp [at0, h]
  rw [List.take_succ_eq_append_getElem h, num_append, e]
  rfl
theorem num_small {l : List Int} (h : Bit l) (h20 : l.length ≤ 20) (k : Nat) : 0 ≤ num 0 (l.take k) ∧ num 0 (l.take k) ≤ 1048576 := by
  have h1 := num_in (bit_take h k)
  have h2 : (2 : Int) ^ (l.take k).length ≤ 2 ^ 20 := by
    have hle : (l.take k).length ≤ 20 := by rw [List.length_take]; omega
    exact_mod_cast Nat.pow_le_pow_right (by omega : 0 < 2) hle
  exact ⟨h1.1, by omega⟩

set_option maxRecDepth 100000 in
set_option maxHeartbeats 4000000 in
theorem refNumber (a : Option Addr) (cap : Nat) (l : List Int) (w : World) (hr : Row w a l) (h20 : l.length ≤ 20) (hb : Hid (Bit l)) :
    Calls Tryd.prog 18 #[.slice a l.length cap] w fun e w' => e = .returned (.int .i64 (num 0 l)) ∧ w' = w := by
  have HS := hide (num_small (unhide hb) h20)
  obtain ⟨N, hN⟩ : ∃ N, l.length = N := ⟨_, rfl⟩
  have HN := hide hN
  have HA : Hid (num 0 (l.take N) = num 0 l) := hide (by rw [← hN, List.take_length])
  obtain ⟨R, hR⟩ : ∃ R, num 0 l = R := ⟨_, rfl⟩
  rw [hR] at HA
  rw [hN] at h20
  rw [hN, hR]
  clear hN hR
  go_enter Tryd.func18, Tryd.ntmps18
  go_wp2
  go_loopw [3, 4] (fun n i wr => ∃ (k : Nat) (X : Int), k ≤ N ∧ i = .int .i64 k ∧ n = .int .i64 X ∧ Hid (num 0 (l.take k) = X) ∧ w = wr) (fun _ i _ => N - (intOf i).toNat)
  case atStart => exact ⟨0, 0, Nat.zero_le _, rfl, rfl, rfl, rfl⟩
  case round =>
    obtain ⟨k, X, hk, rfl, rfl, HX, rfl⟩ := hrel
    by_cases hkl : k < N
    · have hkl' : k < l.length := by rw [unhide HN]; exact hkl
      obtain ⟨b2, off2, rfl, _, hc2⟩ := cell_at hr (by omega)
      have e1 := hc2 k hkl'
      have hs := unhide HS k
      have hbt := bit_at (unhide hb) k
      have HX2 : Hid (num 0 (l.take (k + 1)) = 2 * X + at0 l k) := hide (by rw [num_take hkl', unhide HX])
      rw [unhide HX] at hs
      obtain ⟨B, hB⟩ : ∃ B, at0 l k = B := ⟨_, rfl⟩
      rw [hB] at e1 hbt HX2
      have w1 : IntKind.i64.wrap (2 * X) = 2 * X := IntWalk.i64_in _ (by omega)
      have w2 : IntKind.i64.wrap (2 * X + B) = 2 * X + B := IntWalk.i64_in _ (by omega)
      clear hB hc2 hkl' HX hbt hs
      go_wp2
      go_roundw
      case rel => exact ⟨k + 1, 2 * X + B, by omega, by go_num, by first | rfl | go_num, HX2, by first | trivial | rfl⟩
      case measure => simp [intOf]; omega
    · obtain rfl : k = N := by omega
      obtain rfl : X = R := (unhide HX).symm.trans (unhide HA)
      go_wp2
      go_ret
      exact ⟨rfl, rfl⟩

end Go.Proofs.YtpinmcgaaplkiagDoor.Wid
