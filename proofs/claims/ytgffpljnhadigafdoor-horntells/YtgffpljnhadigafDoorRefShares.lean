/-
  hornref1.Shares: by its contract.
-/
import Derived.Test.YtgffpljnhadigafDoorRefSum
namespace Go.Proofs.YtgffpljnhadigafDoor.Scl
open Go.RowKit
open Go.Proofs.YtgffpljnhadigafDoor.Tre
set_option linter.unusedVariables false

/-- What Shares tells. -/
def Tells (f : List Int) (w : World) (e : Ending) (w' : World) : Prop := ∃ t : Bool, e = .returned (.bool t) ∧ Hid (t = true ↔ right f) ∧ w' = w

set_option maxHeartbeats 2000000 in
theorem refShares (a : Option Addr) (cap : Nat) (f : List Int) (w : World) (hl : f.length ≤ 9223372036854775807) (hr : Row w a f) :
    Calls Tryd.prog 13 #[.slice a f.length cap] w fun e w' => Tells f w e w' := by
  by_cases h0 : f.length < 1
  · have HF : Hid (¬ right f) := hide (fun h => by have := h.1; omega)
    obtain ⟨N, hN⟩ : ∃ N, f.length = N := ⟨_, rfl⟩
    rw [hN] at h0 hl ⊢
    clear hN
    obtain rfl : N = 0 := by omega
    go_enter Tryd.func13, Tryd.ntmps13
    go_wp2
    go_ret
    exact ⟨_, rfl, hide ⟨fun h => by simp at h, fun h => absurd h (unhide HF)⟩, rfl⟩
  · by_cases h40 : 40 < f.length
    · have HF : Hid (¬ right f) := hide (fun h => by have := h.2.1; omega)
      obtain ⟨N, hN⟩ : ∃ N, f.length = N := ⟨_, rfl⟩
      rw [hN] at h0 h40 hl ⊢
      clear hN
      have hd : decide ((N : Int) < 1) = false := by simp; omega
      go_enter Tryd.func13, Tryd.ntmps13
      go_wp2
      go_ret
      exact ⟨_, rfl, hide ⟨fun h => by simp at h, fun h => absurd h (unhide HF)⟩, rfl⟩
    · have HB : Hid (∀ j, j < f.length → (at0 f j < 0 ∨ 256 < at0 f j) → ¬ right f) := hide (fun j hj hb h => by
        have h1 := h.2.2.1 j hj
        have h2 := at_le_tot h.2.2.1 hj
        rw [h.2.2.2] at h2
        omega)
      have HE : Hid ((∀ i, i < f.length → 0 ≤ at0 f i ∧ at0 f i ≤ 256) → (right f ↔ tot f = 256)) := hide (fun h => ⟨fun h' => h'.2.2.2, fun h' => ⟨by omega, by omega, fun i hi => (h i hi).1, h'⟩⟩)
      obtain ⟨N, hN⟩ : ∃ N, f.length = N := ⟨_, rfl⟩
      have HN := hide hN
      rw [hN] at h0 h40 hl ⊢
      have hd : decide ((N : Int) < 1) = false := by simp; omega
      clear hN
      go_enter Tryd.func13, Tryd.ntmps13
      go_wp2
      go_loopw [3] (fun i wr => ∃ j : Nat, j ≤ N ∧ i = .int .i64 j ∧ Hid (∀ r, r < j → 0 ≤ at0 f r ∧ at0 f r ≤ 256) ∧ w = wr) (fun i _ => N - (intOf i).toNat)
      case atStart => exact ⟨0, Nat.zero_le _, rfl, hide (fun r hr => by omega), rfl⟩
      case round =>
        obtain ⟨j, hj, rfl, HS, rfl⟩ := hrel
        by_cases hlt : j < N
        · have hlt' : j < f.length := by rw [unhide HN]; exact hlt
          obtain ⟨b, off, rfl, hb, hc⟩ := cell_at hr (by omega)
          have c1 := hc j hlt'
          have HB2 := hide (unhide HB j hlt')
          have HS2 : Hid (0 ≤ at0 f j → at0 f j ≤ 256 → ∀ r, r < j + 1 → 0 ≤ at0 f r ∧ at0 f r ≤ 256) := hide (fun h1 h2 r hr => by
            by_cases e : r = j
            · rw [e]; exact ⟨h1, h2⟩
            · exact unhide HS r (by omega))
          obtain ⟨X, hX⟩ : ∃ X, at0 f j = X := ⟨_, rfl⟩
          rw [hX] at c1 HB2 HS2
          clear hc hX hlt'
          by_cases hx1 : X < 0
          · have hd1 : decide (X < 0) = true := by simpa using hx1
            have hv := hide (unhide HB2 (Or.inl hx1))
            go_wp2
            go_ret
            exact ⟨_, rfl, hide ⟨fun h => by simp at h, fun h => absurd h (unhide hv)⟩, rfl⟩
          · have hd1 : decide (X < 0) = false := by simpa using hx1
            by_cases hx6 : 256 < X
            · have hd6 : decide (256 < X) = true := by simpa using hx6
              have hv := hide (unhide HB2 (Or.inr hx6))
              go_wp2
              go_ret
              exact ⟨_, rfl, hide ⟨fun h => by simp at h, fun h => absurd h (unhide hv)⟩, rfl⟩
            · have hd6 : decide (256 < X) = false := by simpa using hx6
              have hS3 := hide (unhide HS2 (by omega) (by omega))
              have hj1 : j + 1 ≤ N := by omega
              go_wp2
              go_roundw
              case rel => exact ⟨j + 1, by omega, by go_num, hS3, by first | trivial | rfl⟩
              case measure => simp [intOf]; omega
        · obtain rfl : j = N := by omega
          have hall : ∀ i, i < f.length → 0 ≤ at0 f i ∧ at0 f i ≤ 256 := fun i hi => unhide HS i (by rw [unhide HN] at hi; exact hi)
          have hcf := hide (unhide HE hall)
          have hsm := hide (small_of (fun i hi => ⟨(hall i hi).1, by have := (hall i hi).2; omega⟩) (by rw [unhide HN]; omega))
          clear hall
          go_wp2_with fail
          refine (refSum a cap j f w (hide (unhide HN).symm) hl hr hsm).mono ?_
          rintro e w1 ⟨rfl, rfl⟩
          have HQ : Hid ((tot f == 256) = true ↔ right f) := hide (by rw [unhide hcf]; simp)
          obtain ⟨T, hT⟩ : ∃ T, tot f = T := ⟨_, rfl⟩
          rw [hT] at HQ ⊢
          clear hcf hT
          go_wp2
          go_ret
          exact ⟨_, rfl, HQ, rfl⟩

end Go.Proofs.YtgffpljnhadigafDoor.Scl
