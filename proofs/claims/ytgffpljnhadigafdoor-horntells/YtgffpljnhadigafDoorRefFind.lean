/-
  hornref1.Find: by its contract.
-/
import Derived.Test.YtgffpljnhadigafDoorRefSum
namespace Go.Proofs.YtgffpljnhadigafDoor.Scl
open Go.RowKit
open Go.Proofs.YtgffpljnhadigafDoor.Tre
set_option linter.unusedVariables false

set_option maxHeartbeats 2000000 in
theorem refFind (a : Option Addr) (cap : Nat) (f : List Int) (p : Int) (k : Nat) (w : World) (hr : Row w a f) (hm : f.length ≤ cap) (hm9 : cap ≤ 9223372036854775807) (hp0 : 0 ≤ p) (hp : p ≤ 255) (hf : Hid (right f)) (hk : Hid (IsAt f p k)) :
    Calls Tryd.prog 16 #[.slice a f.length cap, .int .i64 p] w fun e w' => e = .returned (.int .i64 k) ∧ w' = w := by
  obtain ⟨f1, f2, f3, f4⟩ := unhide hf
  have HSM : Hid (∀ j, j ≤ f.length → Small (f.take j)) := hide (fun j hj => by
    refine small_of (fun i hi => ?_) (by rw [List.length_take]; omega)
    rw [List.length_take] at hi
    rw [at0_take (by omega)]
    have h1 := at_le_tot f3 (i := i) (by omega)
    exact ⟨f3 i (by omega), by omega⟩)
  have HP : Hid (∀ j, j ≤ f.length → 0 ≤ pfx f j ∧ pfx f j ≤ 256) := hide (fun j hj => ⟨pfx_nonneg f3 hj, by have := pfx_mono f3 hj (Nat.le_refl _); unfold tot at f4; omega⟩)
  have HF3 := hide f3
  obtain ⟨N, hN⟩ : ∃ N, f.length = N := ⟨_, rfl⟩
  have HN := hide hN
  rw [hN] at hm f1 f2 ⊢
  clear hN f3 f4
  go_enter Tryd.func16, Tryd.ntmps16
  go_wp2
  go_loopw [5] (fun i wr => ∃ j : Nat, j ≤ N ∧ i = .int .i64 j ∧ Hid (pfx f j ≤ p) ∧ w = wr) (fun i _ => N - (intOf i).toNat)
  case atStart => exact ⟨0, Nat.zero_le _, rfl, hide hp0, rfl⟩
  case round =>
    obtain ⟨j, hj, rfl, HL, rfl⟩ := hrel
    by_cases hlt : j < N
    · have hlt' : j < f.length := by rw [unhide HN]; exact hlt
      have hsum := refSum a cap j (f.take j) w (hide (by rw [List.length_take]; omega)) (by omega) (hr.take j) (hide (unhide HSM j (by omega)))
      rw [tot_take f (by omega)] at hsum
      obtain ⟨b, off, rfl, hb, hc⟩ := cell_at hr (by omega)
      have c1 := hc j hlt'
      have h1 := unhide HP j (by omega)
      have h2 := unhide HF3 j hlt'
      have h3 := unhide HP (j + 1) hlt'
      have HS : Hid (pfx f (j + 1) = pfx f j + at0 f j) := hide rfl
      rw [unhide HS] at h3
      have h4 := unhide HL
      have HI : Hid (p < pfx f j + at0 f j → j = k) := hide (fun h => IsAt.one (unhide HF3) ⟨hlt', h4, h⟩ (unhide hk))
      obtain ⟨X, hX⟩ : ∃ X, at0 f j = X := ⟨_, rfl⟩
      obtain ⟨T, hT⟩ : ∃ T, pfx f j = T := ⟨_, rfl⟩
      rw [hX] at c1 h2 h3 HS HI
      rw [hT] at hsum h1 h3 h4 HS HI
      have hw : IntKind.i64.wrap (T + X) = T + X := IntWalk.i64_in _ (by omega)
      have hge : decide (T ≤ p) = true := by simpa using h4
      have hjc : j ≤ cap := by omega
      clear hc hX hT hlt'
      by_cases hx : p < T + X
      · obtain rfl := unhide HI hx
        have hd : decide (p < T + X) = true := by simpa using hx
        go_wp2_with fail
        refine hsum.mono ?_
        clear hsum
        rintro e w1 ⟨rfl, rfl⟩
        go_wp2
        go_ret
        exact ⟨rfl, rfl⟩
      · have hd : decide (p < T + X) = false := by simpa using hx
        go_wp2_with fail
        refine hsum.mono ?_
        clear hsum
        rintro e w1 ⟨rfl, rfl⟩
        go_wp2
        go_roundw
        case rel => exact ⟨j + 1, by omega, by go_num, hide (by rw [unhide HS]; omega), by first | trivial | rfl⟩
        case measure => simp [intOf]; omega
    · obtain rfl : j = N := by omega
      exfalso
      have h1 := unhide HL
      obtain ⟨k1, k2, k3⟩ := unhide hk
      have h2 := pfx_mono (unhide HF3) (i := k + 1) (j := f.length) (by omega) (Nat.le_refl _)
      rw [pfx] at h2
      rw [unhide HN] at h2
      omega

end Go.Proofs.YtgffpljnhadigafDoor.Scl
