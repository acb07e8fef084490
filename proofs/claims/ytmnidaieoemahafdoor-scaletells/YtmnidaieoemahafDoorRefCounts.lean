/-
  hornref1.Counts: by its contract.
-/
import Derived.Test.YtmnidaieoemahafDoorRefSum
namespace Go.Proofs.YtmnidaieoemahafDoor.Scl
open Go.RowKit
open Go.Proofs.YtmnidaieoemahafDoor.Tre
set_option linter.unusedVariables false

set_option maxHeartbeats 2000000 in
theorem refCounts (a : Option Addr) (cap : Nat) (c : List Int) (w : World) (hl : c.length ≤ 9223372036854775807) (hr : Row w a c) :
    Calls Tryd.prog 5 #[.slice a c.length cap] w fun e w' => e = .returned (.int .i64 (cf c)) ∧ w' = w := by
  by_cases h0 : c.length = 0
  · have hv : cf c = 5 := by simp [cf, h0]
    have hz : ((c.length : Int) == 0) = true := by simp [h0]
    rw [hv]
    clear hv
    go_enter Tryd.func5, Tryd.ntmps5
    go_wp2
    go_ret
    exact ⟨rfl, rfl⟩
  · have hz : ((c.length : Int) == 0) = false := by rw [beq_eq_false_iff_ne]; omega
    by_cases h40 : 40 < c.length
    · have hv : cf c = 4 := by simp [cf, h0, h40]
      rw [hv]
      clear hv h0
      go_enter Tryd.func5, Tryd.ntmps5
      go_wp2
      go_ret
      exact ⟨rfl, rfl⟩
    · have HB : Hid (∀ j, j < c.length → (at0 c j < 0 ∨ 1000000 < at0 c j) → cf c = 1) := hide (fun j hj hb => cf_bad h0 h40 hj hb)
      have HE := hide (cf_sum h0 h40)
      obtain ⟨N, hN⟩ : ∃ N, c.length = N := ⟨_, rfl⟩
      have HN := hide hN
      rw [hN] at hz h40 hl ⊢
      clear hN h0
      go_enter Tryd.func5, Tryd.ntmps5
      go_wp2
      go_loopw [3] (fun i wr => ∃ j : Nat, j ≤ N ∧ i = .int .i64 j ∧ Hid (∀ r, r < j → 0 ≤ at0 c r ∧ at0 c r ≤ 1000000) ∧ w = wr) (fun i _ => N - (intOf i).toNat)
      case atStart => exact ⟨0, Nat.zero_le _, rfl, hide (fun r hr => by omega), rfl⟩
      case round =>
        obtain ⟨j, hj, rfl, HS, rfl⟩ := hrel
        by_cases hlt : j < N
        · have hlt' : j < c.length := by rw [unhide HN]; exact hlt
          obtain ⟨b, off, rfl, hb, hc⟩ := cell_at hr (by omega)
          have c1 := hc j hlt'
          have HB2 := hide (unhide HB j hlt')
          have HS2 : Hid (0 ≤ at0 c j → at0 c j ≤ 1000000 → ∀ r, r < j + 1 → 0 ≤ at0 c r ∧ at0 c r ≤ 1000000) := hide (fun h1 h2 r hr => by
            by_cases e : r = j
            · rw [e]; exact ⟨h1, h2⟩
            · exact unhide HS r (by omega))
          obtain ⟨X, hX⟩ : ∃ X, at0 c j = X := ⟨_, rfl⟩
          rw [hX] at c1 HB2 HS2
          clear hc hX hlt'
          by_cases hx1 : X < 0
          · have hd : decide (X < 0) = true := by simpa using hx1
            have hv := hide (unhide HB2 (Or.inl hx1))
            go_wp2
            go_ret
            exact ⟨by rw [unhide hv]; rfl, rfl⟩
          · have hd : decide (X < 0) = false := by simpa using hx1
            by_cases hx6 : 1000000 < X
            · have hd6 : decide (1000000 < X) = true := by simpa using hx6
              have hv := hide (unhide HB2 (Or.inr hx6))
              go_wp2
              go_ret
              exact ⟨by rw [unhide hv]; rfl, rfl⟩
            · have hd6 : decide (1000000 < X) = false := by simpa using hx6
              have hS3 := hide (unhide HS2 (by omega) (by omega))
              have hj1 : j + 1 ≤ N := by omega
              go_wp2
              go_roundw
              case rel => exact ⟨j + 1, by omega, by go_num, hS3, by first | trivial | rfl⟩
              case measure => simp [intOf]; omega
        · obtain rfl : j = N := by omega
          have hall : ∀ i, i < c.length → 0 ≤ at0 c i ∧ at0 c i ≤ 1000000 := fun i hi => unhide HS i (by rw [unhide HN] at hi; exact hi)
          have hcf := hide (unhide HE hall)
          have hsm := hide (small_of hall (by rw [unhide HN]; omega))
          clear hall
          go_wp2_with fail
          refine (refSum a cap j c w (hide (unhide HN).symm) hl hr hsm).mono ?_
          rintro e w1 ⟨rfl, rfl⟩
          by_cases ht : tot c = 0
          · have hq : (tot c == 0) = true := by rw [ht]; rfl
            have hv : Hid (cf c = 5) := hide (by rw [unhide hcf, if_pos ht])
            obtain ⟨T, hT⟩ : ∃ T, tot c = T := ⟨_, rfl⟩
            rw [hT] at hq ⊢
            clear ht hcf hT
            go_wp2
            go_ret
            exact ⟨by rw [unhide hv]; rfl, rfl⟩
          · have hq : (tot c == 0) = false := by rw [beq_eq_false_iff_ne]; exact ht
            have hv : Hid (cf c = 0) := hide (by rw [unhide hcf, if_neg ht])
            obtain ⟨T, hT⟩ : ∃ T, tot c = T := ⟨_, rfl⟩
            rw [hT] at hq ⊢
            clear ht hcf hT
            go_wp2
            go_ret
            exact ⟨by rw [unhide hv]; rfl, rfl⟩

end Go.Proofs.YtmnidaieoemahafDoor.Scl
