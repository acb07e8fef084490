/-
  hornref1.All, at any bound: by its contract.
-/
import Derived.Test.YthkibjhhlcfceaiGreatDoorPk24
import Derived.Test.YthkibjhhlcfceaiGreatDoorPk08
import Derived.Test.YthkibjhhlcfceaiGreatDoorPk15
import Derived.Test.YthkibjhhlcfceaiGreatDoorPk01
import Derived.Test.YthkibjhhlcfceaiGreatDoorPk03
import Derived.Deep.QuietTactic
import Derived.BigQuiet
namespace Go.Proofs.YthkibjhhlcfceaiGreatDoor.Tre
open Go.RowKit
set_option linter.unusedVariables false

theorem out_lo {c n : Int} (h : n < -c) : out c n = true := by simp [out, h]
theorem out_hi {c n : Int} (h : c < n) : out c n = true := by simp [out, h]
theorem out_mid {c n : Int} (h : ¬ n < -c) (k : ¬ c < n) : out c n = false := by simp [out, h, k]

set_option maxHeartbeats 400000 in
theorem refAll (c : Int) (a : Option Addr) (cap : Nat) (l : List Int) (w : World) (hc0 : 0 ≤ c) (hc9 : c ≤ 8000) (hl : l.length ≤ 9223372036854775807) (hr : Row w a l) :
    Calls Tryz.prog 20 #[.slice a l.length cap, .int .i64 c] w fun e w' => e = .returned (.bool (!l.any (out c))) ∧ w' = w := by
  go_enter Tryz.func20, Tryz.ntmps20
  go_wp2
  go_loop [5] (fun i => ∃ k : Nat, k ≤ l.length ∧ i = .int .i64 k ∧ Hid ((l.take k).any (out c) = false)) (fun i => l.length - (intOf i).toNat)
  case atStart => exact ⟨0, Nat.zero_le _, rfl, hide rfl⟩
  case round =>
    obtain ⟨k, hk, rfl, HN⟩ := hrel
    by_cases hlt : k < l.length
    · obtain ⟨b, off, rfl, hb, hcs⟩ := hr.at hlt
      have hck := hcs k hlt
      clear hcs
      by_cases h1 : l[k] < -c
      · have h1' : decide (l[k] < -c) = true := by simpa using h1
        have HB := hide (any_of c l k hlt (out_lo h1))
        go_wp2
        go_ret
        exact ⟨by rw [unhide HB]; rfl, rfl⟩
      · have h1' : decide (l[k] < -c) = false := by simpa using h1
        by_cases h2 : c < l[k]
        · have h2' : decide (c < l[k]) = true := by simpa using h2
          have HB := hide (any_of c l k hlt (out_hi h2))
          go_wp2
          go_ret
          exact ⟨by rw [unhide HB]; rfl, rfl⟩
        · have h2' : decide (c < l[k]) = false := by simpa using h2
          have HB := hide (out_mid h1 h2)
          go_wp2
          go_round
          case rel => exact ⟨k + 1, by omega, by go_num, hide (any_step c l k hlt (unhide HN) (unhide HB))⟩
          case measure => simp [intOf]; omega
    · go_wp2
      go_ret
      have hh := unhide HN
      rw [List.take_of_length_le (by omega)] at hh
      exact ⟨by rw [hh]; rfl, rfl⟩

end Go.Proofs.YthkibjhhlcfceaiGreatDoor.Tre

/-
  hornref1's Far, Loud, Pulses: by their contracts.
-/
namespace Go.Proofs.YthkibjhhlcfceaiGreatDoor.Pls
open Go.RowKit
open Go.Proofs.YthkibjhhlcfceaiGreatDoor.Tre Go.Proofs.YthkibjhhlcfceaiGreatDoor.Mid
set_option linter.unusedVariables false

theorem refFar (n : Int) (w : World) (h0 : -1000000 ≤ n) (h1 : n ≤ 1000000) :
    Calls Tryz.prog 40 #[.int .i64 n] w fun e w' => e = .returned (.int .i64 (n.natAbs : Int)) ∧ w = w' := by
  by_cases h : n < 0
  · go_enter Tryz.func40, Tryz.ntmps40
    go_wp2
    go_ret
    exact ⟨ret_int (by omega), rfl⟩
  · go_enter Tryz.func40, Tryz.ntmps40
    go_wp2
    go_ret
    exact ⟨ret_int (by omega), rfl⟩

set_option maxHeartbeats 400000 in
theorem refLoudB (a : Option Addr) (cap : Nat) (l : List Int) (w : World) (hl : l.length ≤ 32) (hi : In 4000 l) (hr : Row w a l) :
    Calls Tryz.prog 23 #[.slice a l.length cap] w fun e w' => e = .returned (.int .i64 (loud l : Int)) ∧ w = w' := by
  go_enter Tryz.func23, Tryz.ntmps23
  go_wp2
  go_loop [3, 4] (fun t i => ∃ k t' : Nat, k ≤ l.length ∧ i = .int .i64 k ∧ t = .int .i64 t' ∧ Hid (t' = loud (l.take k)) ∧ t' ≤ 128000) (fun _ i => l.length - (intOf i).toNat)
  case atStart => exact ⟨0, 0, Nat.zero_le _, rfl, rfl, rfl, by omega⟩
  case round =>
    obtain ⟨k, t, hk, rfl, rfl, HT, ht⟩ := hrel
    by_cases hlt : k < l.length
    · obtain ⟨b, off, rfl, hb, hcs⟩ := hr.at hlt
      have hck := hcs k hlt
      clear hcs
      obtain ⟨e1, e2⟩ := hi _ (List.getElem_mem hlt)
      have HS : Hid (t + l[k].natAbs = loud (l.take (k + 1))) := hide (by rw [loud_step hlt, unhide HT])
      have HB : Hid (t + l[k].natAbs ≤ 128000) := hide (by
        have h1 := loud_in (b := 4000) (hi.take (k + 1))
        rw [← unhide HS] at h1
        have h2 := List.length_take_le (k + 1) l
        omega)
      have hn : l[k].natAbs ≤ 4000 := by omega
      go_wp2_with fail
      refine (refFar l[k] w (by omega) (by omega)).mono ?_
      obtain ⟨d, hd⟩ : ∃ d, l[k].natAbs = d := ⟨_, rfl⟩
      rw [hd] at HS HB hn ⊢
      clear hd
      rintro e w' ⟨rfl, rfl⟩
      go_wp2
      go_round
      case rel => exact ⟨k + 1, t + d, by omega, by go_num, by go_num, HS, unhide HB⟩
      case measure => simp [intOf]; omega
    · go_wp2
      go_ret
      exact ⟨ret_int (by rw [unhide HT, List.take_of_length_le (by omega)]), rfl⟩
theorem refLoud (a : Option Addr) (cap : Nat) (l : List Int) (w : World) (hl : l.length ≤ 32) (hi : In 1000 l) (hr : Row w a l) :
    Calls Tryz.prog 23 #[.slice a l.length cap] w fun e w' => e = .returned (.int .i64 (loud l : Int)) ∧ w = w' := refLoudB a cap l w hl (hi.mono (by omega)) hr

theorem refPulses_ok (a : Option Addr) (cap : Nat) (l : List Int) (w : World) (hr : Row w a l) (h : Hid (fault l = 0)) :
    Calls Tryz.prog 33 #[.slice a l.length cap] w fun e w' => e = .returned (.tuple #[.int .i64 (loud l : Int), .int .i64 0]) ∧ w = w' := by
  obtain ⟨h1, h2, h3⟩ := fault_ok (unhide h)
  have HA := hide (any_of_in h2)
  have hL := hide (refLoud a cap l w (by omega) (h2.mono (by omega)) hr)
  obtain ⟨k, hk⟩ : ∃ k, loud l = k := ⟨_, rfl⟩
  rw [hk] at hL h3 ⊢
  clear hk
  go_enter Tryz.func33, Tryz.ntmps33
  go_wp2_with fail
  refine (refAll 8 a cap l w (by omega) (by omega) (by omega) hr).mono ?_
  rw [unhide HA]
  rintro e w1 ⟨rfl, rfl⟩
  go_wp2_with fail
  refine (unhide hL).mono ?_
  rintro e w2 ⟨rfl, rfl⟩
  go_wp2
  go_ret2
  exact ⟨rfl, rfl⟩

theorem refPulses_no (a : Option Addr) (cap : Nat) (l : List Int) (w : World) (hl : l.length ≤ 9223372036854775807) (hr : Row w a l) (h : Hid (fault l ≠ 0)) :
    Calls Tryz.prog 33 #[.slice a l.length cap] w fun e w' => e = .returned (.tuple #[.int .i64 0, .int .i64 (fault l)]) ∧ w = w' := by
  by_cases h1 : 6 < l.length
  · have hv : fault l = 4 := by unfold fault; rw [if_pos h1]
    rw [hv]
    clear hv h
    go_enter Tryz.func33, Tryz.ntmps33
    go_wp2
    go_ret2
    exact ⟨rfl, rfl⟩
  · cases hany : l.any (out 8)
    · have h2 : In 8 l := in_of_any hany
      have hk : 8 < loud l := by
        rcases Nat.lt_or_ge 8 (loud l) with h' | h'
        · exact h'
        · exact absurd (fault_none (by omega) h2 h') (unhide h)
      have hv : fault l = 4 := by unfold fault; rw [if_neg h1, hany, if_neg (by simp), if_pos hk]
      rw [hv]
      have HA := hide hany
      have hle := loud_in (b := 8) h2
      have hL := hide (refLoud a cap l w (by omega) (h2.mono (by omega)) hr)
      have hl6 : loud l ≤ 48 := by omega
      obtain ⟨k, hk'⟩ : ∃ k, loud l = k := ⟨_, rfl⟩
      rw [hk'] at hL hk hl6
      clear hv h hany hk' hle h2
      go_enter Tryz.func33, Tryz.ntmps33
      go_wp2_with fail
      refine (refAll 8 a cap l w (by omega) (by omega) (by omega) hr).mono ?_
      rw [unhide HA]
      rintro e w1 ⟨rfl, rfl⟩
      go_wp2_with fail
      refine (unhide hL).mono ?_
      rintro e w2 ⟨rfl, rfl⟩
      go_wp2
      go_ret2
      exact ⟨rfl, rfl⟩
    · have hv : fault l = 1 := by unfold fault; rw [if_neg h1, hany, if_pos rfl]
      rw [hv]
      have HA := hide hany
      clear hv h hany
      go_enter Tryz.func33, Tryz.ntmps33
      go_wp2_with fail
      refine (refAll 8 a cap l w (by omega) (by omega) (by omega) hr).mono ?_
      rw [unhide HA]
      rintro e w1 ⟨rfl, rfl⟩
      go_wp2
      go_ret2
      exact ⟨rfl, rfl⟩

end Go.Proofs.YthkibjhhlcfceaiGreatDoor.Pls

/-
  hornref1.Bands: by its contract.
-/
namespace Go.Proofs.YthkibjhhlcfceaiGreatDoor.Bnd
open Go.RowKit
open Go.Proofs.YthkibjhhlcfceaiGreatDoor.Tre
set_option linter.unusedVariables false

theorem cell_band {w : World} {a : Option Addr} {l : List Int} (h : Row w a l) (h0 : 0 < l.length) : ∃ b off, a = some ⟨b, off, none⟩ ∧ b < w.heap.size ∧ ∀ j, j < l.length → w.cell? ⟨b, off + j, none⟩ = some (.int .i64 (at0 l j)) := by
  obtain ⟨b, off, e, hb, hc⟩ := h.at h0
  exact ⟨b, off, e, hb, fun j hj => (hc j hj).trans (by rw [List.getD_eq_getElem?_getD]; rfl)⟩
theorem same_below {w w' : World} (h : w' = w) : Below w.heap.size w w' := by rw [h]; exact Below.refl _ _

theorem bf_bad {s : List Int} {j : Nat} (h0 : s.length ≠ 0) (h8 : ¬ 8 < s.length) (hj : j < s.length) (hb : at0 s j < 1 ∨ 6 < at0 s j) : bf s = 1 := by
  have h : s.any bad = true := List.any_eq_true.2 ⟨s[j], List.getElem_mem hj, by rw [at_get hj] at hb; simp [bad]; omega⟩
  simp [bf, h0, h8, h]
/-- What Bands tells. -/
def told (s : List Int) : Ending := .returned (.tuple #[.int .i64 (if bf s = 0 then (total s : Int) else 0), .int .i64 (bf s)])

set_option maxHeartbeats 2000000 in
theorem refBands (a : Option Addr) (cap : Nat) (s : List Int) (w : World) (hl : s.length ≤ 9223372036854775807) (hr : Row w a s) :
    Calls Tryz.prog 18 #[.slice a s.length cap] w fun e w' => e = told s ∧ w' = w := by
  by_cases h0 : s.length = 0
  · have hv : told s = .returned (.tuple #[.int .i64 0, .int .i64 5]) := by simp [told, bf, h0]
    have hz : ((s.length : Int) == 0) = true := by simp [h0]
    rw [hv]
    clear hv
    go_enter Tryz.func18, Tryz.ntmps18
    go_wp2
    go_ret2
    exact ⟨rfl, rfl⟩
  · have hz : ((s.length : Int) == 0) = false := by rw [beq_eq_false_iff_ne]; omega
    by_cases h8 : 8 < s.length
    · have hv : told s = .returned (.tuple #[.int .i64 0, .int .i64 4]) := by simp [told, bf, h0, h8]
      rw [hv]
      clear hv h0
      go_enter Tryz.func18, Tryz.ntmps18
      go_wp2
      go_ret2
      exact ⟨rfl, rfl⟩
    · have HB : Hid (∀ j, j < s.length → (at0 s j < 1 ∨ 6 < at0 s j) → told s = .returned (.tuple #[.int .i64 0, .int .i64 1])) := hide (fun j hj hb => by
        have := bf_bad h0 h8 hj hb
        simp [told, this])
      have HE : Hid (Sizes s → told s = if 32 < total s then .returned (.tuple #[.int .i64 0, .int .i64 4]) else .returned (.tuple #[.int .i64 (total s : Int), .int .i64 0])) := hide (fun hsz => by
        have hany := any_bad_no hsz
        by_cases h : 32 < total s
        · rw [if_pos h]; simp [told, bf, h0, h8, hany, h]
        · rw [if_neg h]; simp [told, bf, h0, h8, hany, h])
      obtain ⟨N, hN⟩ : ∃ N, s.length = N := ⟨_, rfl⟩
      have HN := hide hN
      rw [hN] at hz h8 hl ⊢
      clear hN h0
      go_enter Tryz.func18, Tryz.ntmps18
      go_wp2
      go_loopw [4, 5] (fun t i wr => ∃ j T : Nat, j ≤ N ∧ i = .int .i64 j ∧ t = .int .i64 T ∧ Hid (T = pre s j) ∧ T ≤ 6 * j ∧ Hid (∀ r, r < j → 1 ≤ at0 s r ∧ at0 s r ≤ 6) ∧ w = wr) (fun _ i _ => N - (intOf i).toNat)
      case atStart => exact ⟨0, 0, Nat.zero_le _, rfl, rfl, rfl, by omega, hide (fun r hr => by omega), rfl⟩
      case round =>
        obtain ⟨j, T, hj, rfl, rfl, HT, hT, HS, rfl⟩ := hrel
        by_cases hlt : j < N
        · have hlt' : j < s.length := by rw [unhide HN]; exact hlt
          obtain ⟨b, off, rfl, hb, hc⟩ := cell_band hr (by omega)
          have c1 := hc j hlt'
          have HB2 := hide (unhide HB j hlt')
          have HP : Hid (pre s (j + 1) = T + (at0 s j).toNat) := hide (by rw [pre_succ, unhide HT])
          have HS2 : Hid (1 ≤ at0 s j → at0 s j ≤ 6 → ∀ r, r < j + 1 → 1 ≤ at0 s r ∧ at0 s r ≤ 6) := hide (fun h1 h2 r hr => by
            by_cases e : r = j
            · rw [e]; exact ⟨h1, h2⟩
            · exact unhide HS r (by omega))
          obtain ⟨X, hX⟩ : ∃ X, at0 s j = X := ⟨_, rfl⟩
          rw [hX] at c1 HB2 HP HS2
          clear hc hX hlt'
          by_cases hx1 : X < 1
          · have hd : decide (X < 1) = true := by simpa using hx1
            have hv := hide (unhide HB2 (Or.inl hx1))
            go_wp2
            go_ret2
            exact ⟨(unhide hv).symm, rfl⟩
          · have hd : decide (X < 1) = false := by simpa using hx1
            by_cases hx6 : 6 < X
            · have hd6 : decide (6 < X) = true := by simpa using hx6
              have hv := hide (unhide HB2 (Or.inr hx6))
              go_wp2
              go_ret2
              exact ⟨(unhide hv).symm, rfl⟩
            · have hd6 : decide (6 < X) = false := by simpa using hx6
              obtain ⟨Y, rfl⟩ : ∃ Y : Nat, X = Y := ⟨X.toNat, by omega⟩
              have hS3 := hide (unhide HS2 (by omega) (by omega))
              have hYY : ((Y : Int)).toNat = Y := by omega
              rw [hYY] at HP
              have h6 : T + Y ≤ 6 * (j + 1) := by omega
              have hj1 : j + 1 ≤ N := by omega
              clear hYY
              go_wp2
              go_roundw
              case rel => exact ⟨j + 1, T + Y, by omega, by go_num, by go_num, hide (unhide HP).symm, h6, hS3, by first | trivial | rfl⟩
              case measure => simp [intOf]; omega
        · obtain rfl : j = N := by omega
          have HT3 : Hid (total s = T) := hide (by rw [unhide HT, ← unhide HN]; rfl)
          have ht := unhide HE (fun i hi => unhide HS i (by rw [unhide HN] at hi; exact hi))
          rw [unhide HT3] at ht
          by_cases h : 32 < T
          · rw [if_pos h] at ht
            have HE2 := hide ht
            clear ht
            go_wp2
            go_ret2
            exact ⟨(unhide HE2).symm, rfl⟩
          · rw [if_neg h] at ht
            have HE2 := hide ht
            clear ht
            go_wp2
            go_ret2
            exact ⟨(unhide HE2).symm, rfl⟩

theorem refBands_ok (a : Option Addr) (cap : Nat) (s : List Int) (w : World) (hl : s.length ≤ 9223372036854775807) (hr : Row w a s) (h : Hid (bf s = 0)) :
    Calls Tryz.prog 18 #[.slice a s.length cap] w fun e w' => e = .returned (.tuple #[.int .i64 (total s : Int), .int .i64 0]) ∧ Below w.heap.size w w' := by
  have := refBands a cap s w hl hr
  unfold told at this
  rw [if_pos (unhide h), unhide h] at this
  exact this.mono fun e w' ⟨he, hw⟩ => ⟨he, same_below hw⟩
theorem refBands_no (a : Option Addr) (cap : Nat) (s : List Int) (w : World) (hl : s.length ≤ 9223372036854775807) (hr : Row w a s) (h : Hid (bf s ≠ 0)) :
    Calls Tryz.prog 18 #[.slice a s.length cap] w fun e w' => e = .returned (.tuple #[.int .i64 0, .int .i64 (bf s)]) ∧ Below w.heap.size w w' := by
  have := refBands a cap s w hl hr
  unfold told at this
  rw [if_neg (unhide h)] at this
  exact this.mono fun e w' ⟨he, hw⟩ => ⟨he, same_below hw⟩

end Go.Proofs.YthkibjhhlcfceaiGreatDoor.Bnd
