/-
  hornref1.Bands: by its contract.
-/
import Derived.Test.Ytephagojpnfhcajhs00
import Derived.Test.Ytephagojpnfhcajhs04
import Derived.Deep.QuietTactic
import Derived.BigQuiet
namespace Go.Proofs.Ytephagojpnfhcaj.Bnd
open Go.RowKit
open Go.Proofs.Ytephagojpnfhcaj.Tre
set_option linter.unusedVariables false

theorem cell_band {w : World} {a : Option Addr} {l : List Int} (h : Row w a l) (h0 : 0 < l.length) : ∃ b off, a = some ⟨b, off, none⟩ ∧ b < w.heap.size ∧ ∀ j, j < l.length → w.cell? ⟨b, off + j, none⟩ = some (.int .i64 (at0 l j)) := by
  obtain ⟨b, off, e, hb, hc⟩ := h.at h0
  exact ⟨b, off, e, hb, fun j hj => (hc j hj).trans (by rw [List.getD_eq_getElem?_getD]; rfl)⟩
theorem same_below {w w' : World} (h : w' = w) : Below w.heap.size w w' := by rw [h]; exact Below.refl _ _

theorem bf_bad {s : List Int} {j : Nat} (h0 : s.length ≠ 0) (h8 : ¬ 8 < s.length) (hj : j < s.length) (hb : at0 s j < 1 ∨ 6 < at0 s j) : bf s = 1 := by
  have h : s.any bad = true := List.any_eq_true.2 ⟨s[j], List.getElem_mem hj, by rw [at_get hj] at hb; simp [bad]; omega⟩
  simp [bf, h0, h8, h]
/-- What Bands tells. -/
def told (s : List Int) : Ending := .returned (.tuple #[.int .i64 (if bf s = 0 then (total s : Int) else 0), .int .i64 (bf s)])

set_option maxHeartbeats 2000000 in
theorem refBands (a : Option Addr) (cap : Nat) (s : List Int) (w : World) (hl : s.length ≤ 9223372036854775807) (hr : Row w a s) :
    Calls Try.prog 9 #[.slice a s.length cap] w fun e w' => e = told s ∧ w' = w := by
  by_cases h0 : s.length = 0
  · have hv : told s = .returned (.tuple #[.int .i64 0, .int .i64 5]) := by simp [told, bf, h0]
    have hz : ((s.length : Int) == 0) = true := by simp [h0]
    rw [hv]
    clear hv
    go_enter Try.func9, Try.ntmps9
    go_wp2
    go_ret2
    exact ⟨rfl, rfl⟩
  · have hz : ((s.length : Int) == 0) = false := by rw [beq_eq_false_iff_ne]; omega
    by_cases h8 : 8 < s.length
    · have hv : told s = .returned (.tuple #[.int .i64 0, .int .i64 4]) := by simp [told, bf, h0, h8]
      rw [hv]
      clear hv h0
      go_enter Try.func9, Try.ntmps9
      go_wp2
      go_ret2
      exact ⟨rfl, rfl⟩
    · have HB : Hid (∀ j, j < s.length → (at0 s j < 1 ∨ 6 < at0 s j) → told s = .returned (.tuple #[.int .i64 0, .int .i64 1])) := hide (fun j hj hb => by
        have := bf_bad h0 h8 hj hb
        simp [told, this])
      have HE : Hid (Sizes s → told s = if 32 < total s then .returned (.tuple #[.int .i64 0, .int .i64 4]) else .returned (.tuple #[.int .i64 (total s : Int), .int .i64 0])) := hide (fun hsz => by
        have hany := any_bad_no hsz
        by_cases h : 32 < total s
        · rw [if_pos h]; simp [told, bf, h0, h8, hany, h]
        · rw [if_neg h]; simp [told, bf, h0, h8, hany, h])
      obtain ⟨N, hN⟩ : ∃ N, s.length = N := ⟨_, rfl⟩
      have HN := hide hN
      rw [hN] at hz h8 hl ⊢
      clear hN h0
      go_enter Try.func9, Try.ntmps9
      go_wp2
      go_loopw [4, 5] (fun t i wr => ∃ j T : Nat, j ≤ N ∧ i = .int .i64 j ∧ t = .int .i64 T ∧ Hid (T = pre s j) ∧ T ≤ 6 * j ∧ Hid (∀ r, r < j → 1 ≤ at0 s r ∧ at0 s r ≤ 6) ∧ w = wr) (fun _ i _ => N - (intOf i).toNat)
      case atStart => exact ⟨0, 0, Nat.zero_le _, rfl, rfl, rfl, by omega, hide (fun r hr => by omega), rfl⟩
      case round =>
        obtain ⟨j, T, hj, rfl, rfl, HT, hT, HS, rfl⟩ := hrel
        by_cases hlt : j < N
        · have hlt' : j < s.length := by rw [unhide HN]; exact hlt
          obtain ⟨b, off, rfl, hb, hc⟩ := cell_band hr (by omega)
          have c1 := hc j hlt'
          have HB2 := hide (unhide HB j hlt')
          have HP : Hid (pre s (j + 1) = T + (at0 s j).toNat) := hide (by rw [pre_succ, unhide HT])
          have HS2 : Hid (1 ≤ at0 s j → at0 s j ≤ 6 → ∀ r, r < j + 1 → 1 ≤ at0 s r ∧ at0 s r ≤ 6) := hide (fun h1 h2 r hr => by
            by_cases e : r = j
            · rw [e]; exact ⟨h1, h2⟩
            · exact unhide HS r (by omega))
          obtain ⟨X, hX⟩ : ∃ X, at0 s j = X := ⟨_, rfl⟩
          rw [hX] at c1 HB2 HP HS2
          clear hc hX hlt'
          by_cases hx1 : X < 1
          · have hd : decide (X < 1) = true := by simpa using hx1
            have hv := hide (unhide HB2 (Or.inl hx1))
            go_wp2
            go_ret2
            exact ⟨(unhide hv).symm, rfl⟩
          · have hd : decide (X < 1) = false := by simpa using hx1
            by_cases hx6 : 6 < X
            · have hd6 : decide (6 < X) = true := by simpa using hx6
              have hv := hide (unhide HB2 (Or.inr hx6))
              go_wp2
              go_ret2
              exact ⟨(unhide hv).symm, rfl⟩
            · have hd6 : decide (6 < X) = false := by simpa using hx6
              obtain ⟨Y, rfl⟩ : ∃ Y : Nat, X = Y := ⟨X.toNat, by omega⟩
              have hS3 := hide (unhide HS2 (by omega) (by omega))
              have hYY : ((Y : Int)).toNat = Y := by omega
              rw [hYY] at HP
              have h6 : T + Y ≤ 6 * (j + 1) := by omega
              have hj1 : j + 1 ≤ N := by omega
              clear hYY
              go_wp2
              go_roundw
              case rel => exact ⟨j + 1, T + Y, by omega, by go_num, by go_num, hide (unhide HP).symm, h6, hS3, by first | trivial | rfl⟩
              case measure => simp [intOf]; omega
        · obtain rfl : j = N := by omega
          have HT3 : Hid (total s = T) := hide (by rw [unhide HT, ← unhide HN]; rfl)
          have ht := unhide HE (fun i hi => unhide HS i (by rw [unhide HN] at hi; exact hi))
          rw [unhide HT3] at ht
          by_cases h : 32 < T
          · rw [if_pos h] at ht
            have HE2 := hide ht
            clear ht
            go_wp2
            go_ret2
            exact ⟨(unhide HE2).symm, rfl⟩
          · rw [if_neg h] at ht
            have HE2 := hide ht
            clear ht
            go_wp2
            go_ret2
            exact ⟨(unhide HE2).symm, rfl⟩

theorem refBands_ok (a : Option Addr) (cap : Nat) (s : List Int) (w : World) (hl : s.length ≤ 9223372036854775807) (hr : Row w a s) (h : Hid (bf s = 0)) :
    Calls Try.prog 9 #[.slice a s.length cap] w fun e w' => e = .returned (.tuple #[.int .i64 (total s : Int), .int .i64 0]) ∧ Below w.heap.size w w' := by
  have := refBands a cap s w hl hr
  unfold told at this
  rw [if_pos (unhide h), unhide h] at this
  exact this.mono fun e w' ⟨he, hw⟩ => ⟨he, same_below hw⟩
theorem refBands_no (a : Option Addr) (cap : Nat) (s : List Int) (w : World) (hl : s.length ≤ 9223372036854775807) (hr : Row w a s) (h : Hid (bf s ≠ 0)) :
    Calls Try.prog 9 #[.slice a s.length cap] w fun e w' => e = .returned (.tuple #[.int .i64 0, .int .i64 (bf s)]) ∧ Below w.heap.size w w' := by
  have := refBands a cap s w hl hr
  unfold told at this
  rw [if_neg (unhide h)] at this
  exact this.mono fun e w' ⟨he, hw⟩ => ⟨he, same_below hw⟩

end Go.Proofs.Ytephagojpnfhcaj.Bnd
