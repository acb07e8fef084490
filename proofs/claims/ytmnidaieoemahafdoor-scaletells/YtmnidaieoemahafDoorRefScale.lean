/-
  hornref1.Sum, Counts, Shares, Find: by their contracts.
-/
import Derived.Test.YtmnidaieoemahafDoorScaleBase
namespace Go.Proofs.YtmnidaieoemahafDoor.Scl
open Go.RowKit
open Go.Proofs.YtmnidaieoemahafDoor.Tre
set_option linter.unusedVariables false

set_option maxHeartbeats 1000000 in
theorem refSum (a : Option Addr) (cap N : Nat) (l : List Int) (w : World) (hn : Hid (N = l.length)) (hl : N ≤ 9223372036854775807) (hr : Row w a l) (hs : Hid (Small l)) :
    Calls Tryd.prog 11 #[.slice a N cap] w fun e w' => e = .returned (.int .i64 (tot l)) ∧ w' = w := by
  go_enter Tryd.func11, Tryd.ntmps11
  go_wp2
  go_loopw [3, 4] (fun t i wr => ∃ (j : Nat) (T : Int), j ≤ N ∧ i = .int .i64 j ∧ t = .int .i64 T ∧ Hid (T = pfx l j) ∧ w = wr) (fun _ i _ => N - (intOf i).toNat)
  case atStart => exact ⟨0, 0, Nat.zero_le _, rfl, rfl, rfl, rfl⟩
  case round =>
    obtain ⟨j, T, hj, rfl, rfl, HT, rfl⟩ := hrel
    by_cases hlt : j < N
    · have hlt' : j < l.length := by rw [← unhide hn]; exact hlt
      obtain ⟨b, off, rfl, hb, hc⟩ := cell_at hr (by omega)
      have c1 := hc j hlt'
      have HS : Hid (T + at0 l j = pfx l (j + 1)) := hide (by rw [pfx, unhide HT])
      have hb1 := unhide hs (j + 1) hlt'
      rw [← unhide HS] at hb1
      obtain ⟨X, hX⟩ : ∃ X, at0 l j = X := ⟨_, rfl⟩
      rw [hX] at c1 HS hb1
      have hw : IntKind.i64.wrap (T + X) = T + X := IntWalk.i64_in _ (by omega)
      clear hc hX hlt' hb1
      go_wp2
      go_roundw
      case rel => exact ⟨j + 1, T + X, by omega, by go_num, by first | rfl | go_num, HS, by first | trivial | rfl⟩
      case measure => simp [intOf]; omega
    · obtain rfl : j = N := by omega
      go_wp2
      go_ret
      exact ⟨by rw [unhide HT, unhide hn]; rfl, rfl⟩

set_option maxHeartbeats 2000000 in
theorem refCounts (a : Option Addr) (cap : Nat) (c : List Int) (w : World) (hl : c.length ≤ 9223372036854775807) (hr : Row w a c) :
    Calls Tryd.prog 5 #[.slice a c.length cap] w fun e w' => e = .returned (.int .i64 (cf c)) ∧ w' = w := by
  by_cases h0 : c.length = 0
  · have hv : cf c = 5 := by simp [cf, h0]
    have hz : ((c.length : Int) == 0) = true := by simp [h0]
    rw [hv]
    clear hv
    go_enter Tryd.func5, Tryd.ntmps5
    go_wp2
    go_ret
    exact ⟨rfl, rfl⟩
  · have hz : ((c.length : Int) == 0) = false := by rw [beq_eq_false_iff_ne]; omega
    by_cases h40 : 40 < c.length
    · have hv : cf c = 4 := by simp [cf, h0, h40]
      rw [hv]
      clear hv h0
      go_enter Tryd.func5, Tryd.ntmps5
      go_wp2
      go_ret
      exact ⟨rfl, rfl⟩
    · have HB : Hid (∀ j, j < c.length → (at0 c j < 0 ∨ 1000000 < at0 c j) → cf c = 1) := hide (fun j hj hb => cf_bad h0 h40 hj hb)
      have HE := hide (cf_sum h0 h40)
      obtain ⟨N, hN⟩ : ∃ N, c.length = N := ⟨_, rfl⟩
      have HN := hide hN
      rw [hN] at hz h40 hl ⊢
      clear hN h0
      go_enter Tryd.func5, Tryd.ntmps5
      go_wp2
      go_loopw [3] (fun i wr => ∃ j : Nat, j ≤ N ∧ i = .int .i64 j ∧ Hid (∀ r, r < j → 0 ≤ at0 c r ∧ at0 c r ≤ 1000000) ∧ w = wr) (fun i _ => N - (intOf i).toNat)
      case atStart => exact ⟨0, Nat.zero_le _, rfl, hide (fun r hr => by omega), rfl⟩
      case round =>
        obtain ⟨j, hj, rfl, HS, rfl⟩ := hrel
        by_cases hlt : j < N
        · have hlt' : j < c.length := by rw [unhide HN]; exact hlt
          obtain ⟨b, off, rfl, hb, hc⟩ := cell_at hr (by omega)
          have c1 := hc j hlt'
          have HB2 := hide (unhide HB j hlt')
          have HS2 : Hid (0 ≤ at0 c j → at0 c j ≤ 1000000 → ∀ r, r < j + 1 → 0 ≤ at0 c r ∧ at0 c r ≤ 1000000) := hide (fun h1 h2 r hr => by
            by_cases e : r = j
            · rw [e]; exact ⟨h1, h2⟩
            · exact unhide HS r (by omega))
          obtain ⟨X, hX⟩ : ∃ X, at0 c j = X := ⟨_, rfl⟩
          rw [hX] at c1 HB2 HS2
          clear hc hX hlt'
          by_cases hx1 : X < 0
          · have hd : decide (X < 0) = true := by simpa using hx1
            have hv := hide (unhide HB2 (Or.inl hx1))
            go_wp2
            go_ret
            exact ⟨by rw [unhide hv]; rfl, rfl⟩
          · have hd : decide (X < 0) = false := by simpa using hx1
            by_cases hx6 : 1000000 < X
            · have hd6 : decide (1000000 < X) = true := by simpa using hx6
              have hv := hide (unhide HB2 (Or.inr hx6))
              go_wp2
              go_ret
              exact ⟨by rw [unhide hv]; rfl, rfl⟩
            · have hd6 : decide (1000000 < X) = false := by simpa using hx6
              have hS3 := hide (unhide HS2 (by omega) (by omega))
              have hj1 : j + 1 ≤ N := by omega
              go_wp2
              go_roundw
              case rel => exact ⟨j + 1, by omega, by go_num, hS3, by first | trivial | rfl⟩
              case measure => simp [intOf]; omega
        · obtain rfl : j = N := by omega
          have hall : ∀ i, i < c.length → 0 ≤ at0 c i ∧ at0 c i ≤ 1000000 := fun i hi => unhide HS i (by rw [unhide HN] at hi; exact hi)
          have hcf := hide (unhide HE hall)
          have hsm := hide (small_of hall (by rw [unhide HN]; omega))
          clear hall
          go_wp2_with fail
          refine (refSum a cap j c w (hide (unhide HN).symm) hl hr hsm).mono ?_
          rintro e w1 ⟨rfl, rfl⟩
          by_cases ht : tot c = 0
          · have hq : (tot c == 0) = true := by rw [ht]; rfl
            have hv : Hid (cf c = 5) := hide (by rw [unhide hcf, if_pos ht])
            obtain ⟨T, hT⟩ : ∃ T, tot c = T := ⟨_, rfl⟩
            rw [hT] at hq ⊢
            clear ht hcf hT
            go_wp2
            go_ret
            exact ⟨by rw [unhide hv]; rfl, rfl⟩
          · have hq : (tot c == 0) = false := by rw [beq_eq_false_iff_ne]; exact ht
            have hv : Hid (cf c = 0) := hide (by rw [unhide hcf, if_neg ht])
            obtain ⟨T, hT⟩ : ∃ T, tot c = T := ⟨_, rfl⟩
            rw [hT] at hq ⊢
            clear ht hcf hT
            go_wp2
            go_ret
            exact ⟨by rw [unhide hv]; rfl, rfl⟩

/-- What Shares tells. -/
def Tells (f : List Int) (w : World) (e : Ending) (w' : World) : Prop := ∃ t : Bool, e = .returned (.bool t) ∧ Hid (t = true ↔ right f) ∧ w' = w

set_option maxHeartbeats 2000000 in
theorem refShares (a : Option Addr) (cap : Nat) (f : List Int) (w : World) (hl : f.length ≤ 9223372036854775807) (hr : Row w a f) :
    Calls Tryd.prog 10 #[.slice a f.length cap] w fun e w' => Tells f w e w' := by
  by_cases h0 : f.length < 1
  · have HF : Hid (¬ right f) := hide (fun h => by have := h.1; omega)
    obtain ⟨N, hN⟩ : ∃ N, f.length = N := ⟨_, rfl⟩
    rw [hN] at h0 hl ⊢
    clear hN
    obtain rfl : N = 0 := by omega
    go_enter Tryd.func10, Tryd.ntmps10
    go_wp2
    go_ret
    exact ⟨_, rfl, hide ⟨fun h => by simp at h, fun h => absurd h (unhide HF)⟩, rfl⟩
  · by_cases h40 : 40 < f.length
    · have HF : Hid (¬ right f) := hide (fun h => by have := h.2.1; omega)
      obtain ⟨N, hN⟩ : ∃ N, f.length = N := ⟨_, rfl⟩
      rw [hN] at h0 h40 hl ⊢
      clear hN
      have hd : decide ((N : Int) < 1) = false := by simp; omega
      go_enter Tryd.func10, Tryd.ntmps10
      go_wp2
      go_ret
      exact ⟨_, rfl, hide ⟨fun h => by simp at h, fun h => absurd h (unhide HF)⟩, rfl⟩
    · have HB : Hid (∀ j, j < f.length → (at0 f j < 0 ∨ 256 < at0 f j) → ¬ right f) := hide (fun j hj hb h => by
        have h1 := h.2.2.1 j hj
        have h2 := at_le_tot h.2.2.1 hj
        rw [h.2.2.2] at h2
        omega)
      have HE : Hid ((∀ i, i < f.length → 0 ≤ at0 f i ∧ at0 f i ≤ 256) → (right f ↔ tot f = 256)) := hide (fun h => ⟨fun h' => h'.2.2.2, fun h' => ⟨by omega, by omega, fun i hi => (h i hi).1, h'⟩⟩)
      obtain ⟨N, hN⟩ : ∃ N, f.length = N := ⟨_, rfl⟩
      have HN := hide hN
      rw [hN] at h0 h40 hl ⊢
      have hd : decide ((N : Int) < 1) = false := by simp; omega
      clear hN
      go_enter Tryd.func10, Tryd.ntmps10
      go_wp2
      go_loopw [3] (fun i wr => ∃ j : Nat, j ≤ N ∧ i = .int .i64 j ∧ Hid (∀ r, r < j → 0 ≤ at0 f r ∧ at0 f r ≤ 256) ∧ w = wr) (fun i _ => N - (intOf i).toNat)
      case atStart => exact ⟨0, Nat.zero_le _, rfl, hide (fun r hr => by omega), rfl⟩
      case round =>
        obtain ⟨j, hj, rfl, HS, rfl⟩ := hrel
        by_cases hlt : j < N
        · have hlt' : j < f.length := by rw [unhide HN]; exact hlt
          obtain ⟨b, off, rfl, hb, hc⟩ := cell_at hr (by omega)
          have c1 := hc j hlt'
          have HB2 := hide (unhide HB j hlt')
          have HS2 : Hid (0 ≤ at0 f j → at0 f j ≤ 256 → ∀ r, r < j + 1 → 0 ≤ at0 f r ∧ at0 f r ≤ 256) := hide (fun h1 h2 r hr => by
            by_cases e : r = j
            · rw [e]; exact ⟨h1, h2⟩
            · exact unhide HS r (by omega))
          obtain ⟨X, hX⟩ : ∃ X, at0 f j = X := ⟨_, rfl⟩
          rw [hX] at c1 HB2 HS2
          clear hc hX hlt'
          by_cases hx1 : X < 0
          · have hd1 : decide (X < 0) = true := by simpa using hx1
            have hv := hide (unhide HB2 (Or.inl hx1))
            go_wp2
            go_ret
            exact ⟨_, rfl, hide ⟨fun h => by simp at h, fun h => absurd h (unhide hv)⟩, rfl⟩
          · have hd1 : decide (X < 0) = false := by simpa using hx1
            by_cases hx6 : 256 < X
            · have hd6 : decide (256 < X) = true := by simpa using hx6
              have hv := hide (unhide HB2 (Or.inr hx6))
              go_wp2
              go_ret
              exact ⟨_, rfl, hide ⟨fun h => by simp at h, fun h => absurd h (unhide hv)⟩, rfl⟩
            · have hd6 : decide (256 < X) = false := by simpa using hx6
              have hS3 := hide (unhide HS2 (by omega) (by omega))
              have hj1 : j + 1 ≤ N := by omega
              go_wp2
              go_roundw
              case rel => exact ⟨j + 1, by omega, by go_num, hS3, by first | trivial | rfl⟩
              case measure => simp [intOf]; omega
        · obtain rfl : j = N := by omega
          have hall : ∀ i, i < f.length → 0 ≤ at0 f i ∧ at0 f i ≤ 256 := fun i hi => unhide HS i (by rw [unhide HN] at hi; exact hi)
          have hcf := hide (unhide HE hall)
          have hsm := hide (small_of (fun i hi => ⟨(hall i hi).1, by have := (hall i hi).2; omega⟩) (by rw [unhide HN]; omega))
          clear hall
          go_wp2_with fail
          refine (refSum a cap j f w (hide (unhide HN).symm) hl hr hsm).mono ?_
          rintro e w1 ⟨rfl, rfl⟩
          have HQ : Hid ((tot f == 256) = true ↔ right f) := hide (by rw [unhide hcf]; simp)
          obtain ⟨T, hT⟩ : ∃ T, tot f = T := ⟨_, rfl⟩
          rw [hT] at HQ ⊢
          clear hcf hT
          go_wp2
          go_ret
          exact ⟨_, rfl, HQ, rfl⟩

set_option maxHeartbeats 2000000 in
theorem refFind (a : Option Addr) (cap : Nat) (f : List Int) (p : Int) (k : Nat) (w : World) (hr : Row w a f) (hm : f.length ≤ cap) (hm9 : cap ≤ 9223372036854775807) (hp0 : 0 ≤ p) (hp : p ≤ 255) (hf : Hid (right f)) (hk : Hid (IsAt f p k)) :
    Calls Tryd.prog 13 #[.slice a f.length cap, .int .i64 p] w fun e w' => e = .returned (.int .i64 k) ∧ w' = w := by
  obtain ⟨f1, f2, f3, f4⟩ := unhide hf
  have HSM : Hid (∀ j, j ≤ f.length → Small (f.take j)) := hide (fun j hj => by
    refine small_of (fun i hi => ?_) (by rw [List.length_take]; omega)
    rw [List.length_take] at hi
    rw [at0_take (by omega)]
    have h1 := at_le_tot f3 (i := i) (by omega)
    exact ⟨f3 i (by omega), by omega⟩)
  have HP : Hid (∀ j, j ≤ f.length → 0 ≤ pfx f j ∧ pfx f j ≤ 256) := hide (fun j hj => ⟨pfx_nonneg f3 hj, by have := pfx_mono f3 hj (Nat.le_refl _); unfold tot at f4; omega⟩)
  have HF3 := hide f3
  obtain ⟨N, hN⟩ : ∃ N, f.length = N := ⟨_, rfl⟩
  have HN := hide hN
  rw [hN] at hm f1 f2 ⊢
  clear hN f3 f4
  go_enter Tryd.func13, Tryd.ntmps13
  go_wp2
  go_loopw [5] (fun i wr => ∃ j : Nat, j ≤ N ∧ i = .int .i64 j ∧ Hid (pfx f j ≤ p) ∧ w = wr) (fun i _ => N - (intOf i).toNat)
  case atStart => exact ⟨0, Nat.zero_le _, rfl, hide hp0, rfl⟩
  case round =>
    obtain ⟨j, hj, rfl, HL, rfl⟩ := hrel
    by_cases hlt : j < N
    · have hlt' : j < f.length := by rw [unhide HN]; exact hlt
      have hsum := refSum a cap j (f.take j) w (hide (by rw [List.length_take]; omega)) (by omega) (hr.take j) (hide (unhide HSM j (by omega)))
      rw [tot_take f (by omega)] at hsum
      obtain ⟨b, off, rfl, hb, hc⟩ := cell_at hr (by omega)
      have c1 := hc j hlt'
      have h1 := unhide HP j (by omega)
      have h2 := unhide HF3 j hlt'
      have h3 := unhide HP (j + 1) hlt'
      have HS : Hid (pfx f (j + 1) = pfx f j + at0 f j) := hide rfl
      rw [unhide HS] at h3
      have h4 := unhide HL
      have HI : Hid (p < pfx f j + at0 f j → j = k) := hide (fun h => IsAt.one (unhide HF3) ⟨hlt', h4, h⟩ (unhide hk))
      obtain ⟨X, hX⟩ : ∃ X, at0 f j = X := ⟨_, rfl⟩
      obtain ⟨T, hT⟩ : ∃ T, pfx f j = T := ⟨_, rfl⟩
      rw [hX] at c1 h2 h3 HS HI
      rw [hT] at hsum h1 h3 h4 HS HI
      have hw : IntKind.i64.wrap (T + X) = T + X := IntWalk.i64_in _ (by omega)
      have hge : decide (T ≤ p) = true := by simpa using h4
      have hjc : j ≤ cap := by omega
      clear hc hX hT hlt'
      by_cases hx : p < T + X
      · obtain rfl := unhide HI hx
        have hd : decide (p < T + X) = true := by simpa using hx
        go_wp2_with fail
        refine hsum.mono ?_
        clear hsum
        rintro e w1 ⟨rfl, rfl⟩
        go_wp2
        go_ret
        exact ⟨rfl, rfl⟩
      · have hd : decide (p < T + X) = false := by simpa using hx
        go_wp2_with fail
        refine hsum.mono ?_
        clear hsum
        rintro e w1 ⟨rfl, rfl⟩
        go_wp2
        go_roundw
        case rel => exact ⟨j + 1, by omega, by go_num, hide (by rw [unhide HS]; omega), by first | trivial | rfl⟩
        case measure => simp [intOf]; omega
    · obtain rfl : j = N := by omega
      exfalso
      have h1 := unhide HL
      obtain ⟨k1, k2, k3⟩ := unhide hk
      have h2 := pfx_mono (unhide HF3) (i := k + 1) (j := f.length) (by omega) (Nat.le_refl _)
      rw [pfx] at h2
      rw [unhide HN] at h2
      omega

end Go.Proofs.YtmnidaieoemahafDoor.Scl
