/-
  The document's own answers of chapter 3 (hornref1: All at any bound; Levels), by their contracts.
-/
import Derived.Test.YtcodgebchmhobabDoorTreeCheck
namespace Go.Proofs.YtcodgebchmhobabDoor.Tre
open Go.RowKit
set_option linter.unusedVariables false

theorem out_lo {c n : Int} (h : n < -c) : out c n = true := by simp [out, h]
theorem out_hi {c n : Int} (h : c < n) : out c n = true := by simp [out, h]
theorem out_mid {c n : Int} (h : ¬ n < -c) (k : ¬ c < n) : out c n = false := by simp [out, h, k]

set_option maxHeartbeats 400000 in
theorem refAll (c : Int) (a : Option Addr) (cap : Nat) (l : List Int) (w : World) (hc0 : 0 ≤ c) (hc9 : c ≤ 8000) (hl : l.length ≤ 9223372036854775807) (hr : Row w a l) :
    Calls Tryd.prog 5 #[.slice a l.length cap, .int .i64 c] w fun e w' => e = .returned (.bool (!l.any (out c))) ∧ w' = w := by
  go_enter Tryd.func5, Tryd.ntmps5
  go_wp2
  go_loop [5] (fun i => ∃ k : Nat, k ≤ l.length ∧ i = .int .i64 k ∧ Hid ((l.take k).any (out c) = false)) (fun i => l.length - (intOf i).toNat)
  case atStart => exact ⟨0, Nat.zero_le _, rfl, hide rfl⟩
  case round =>
    obtain ⟨k, hk, rfl, HN⟩ := hrel
    by_cases hlt : k < l.length
    · obtain ⟨b, off, rfl, hb, hcs⟩ := hr.at hlt
      have hck := hcs k hlt
      clear hcs
      by_cases h1 : l[k] < -c
      · have h1' : decide (l[k] < -c) = true := by simpa using h1
        have HB := hide (any_of c l k hlt (out_lo h1))
        go_wp2
        go_ret
        exact ⟨by rw [unhide HB]; rfl, rfl⟩
      · have h1' : decide (l[k] < -c) = false := by simpa using h1
        by_cases h2 : c < l[k]
        · have h2' : decide (c < l[k]) = true := by simpa using h2
          have HB := hide (any_of c l k hlt (out_hi h2))
          go_wp2
          go_ret
          exact ⟨by rw [unhide HB]; rfl, rfl⟩
        · have h2' : decide (c < l[k]) = false := by simpa using h2
          have HB := hide (out_mid h1 h2)
          go_wp2
          go_round
          case rel => exact ⟨k + 1, by omega, by go_num, hide (any_step c l k hlt (unhide HN) (unhide HB))⟩
          case measure => simp [intOf]; omega
    · go_wp2
      go_ret
      have hh := unhide HN
      rw [List.take_of_length_le (by omega)] at hh
      exact ⟨by rw [hh]; rfl, rfl⟩

/-- The fault of so many numbers and levels. -/
def lvl (N : Nat) (n : Int) : Int := if 32 < N then 4 else if n < 0 ∨ 5 < n then 1 else if N % 2 ^ n.toNat ≠ 0 then 3 else 0
theorem chk_lvl {l : List Int} {n b : Int} (h : lvl l.length n ≠ 0) : chk l n b = lvl l.length n := by
  unfold lvl at h
  unfold chk lvl
  split
  · rfl
  · split
    · rfl
    · split
      · rfl
      · rename_i h1 h2 h3
        rw [if_neg h1, if_neg h2, if_neg h3] at h
        exact absurd rfl h
theorem chk_any {l : List Int} {n b : Int} (h : lvl l.length n = 0) : chk l n b = if l.any (out b) = true then 1 else 0 := by
  unfold lvl at h
  unfold chk
  split
  · rename_i h1; rw [if_pos h1] at h; omega
  · rename_i h1
    rw [if_neg h1] at h
    split
    · rename_i h2; rw [if_pos h2] at h; omega
    · rename_i h2
      rw [if_neg h2] at h
      split
      · rename_i h3; rw [if_pos h3] at h; omega
      · rfl

theorem lev_bad {N j k : Nat} (h2 : N / 2 ^ j % 2 ≠ 0) (hj : j < k) : N % 2 ^ k ≠ 0 := by
  intro h
  obtain ⟨q, rfl⟩ := Nat.dvd_trans (Nat.pow_dvd_pow 2 (show j + 1 ≤ k by omega)) (Nat.dvd_of_mod_eq_zero h)
  apply h2
  rw [Nat.pow_succ, Nat.mul_assoc, Nat.mul_div_cancel_left _ (Nat.pow_pos (by omega))]
  omega
theorem lev_step {N j : Nat} (h1 : 2 ^ j ∣ N) (h2 : N / 2 ^ j % 2 = 0) : 2 ^ (j + 1) ∣ N := by
  obtain ⟨q, rfl⟩ := h1
  rw [Nat.mul_div_cancel_left _ (Nat.pow_pos (by omega))] at h2
  obtain ⟨r, rfl⟩ := Nat.dvd_of_mod_eq_zero h2
  exact ⟨r, by rw [Nat.pow_succ, Nat.mul_assoc]⟩
theorem lev_half (N j : Nat) : Int.tdiv ((N / 2 ^ j : Nat) : Int) 2 = ((N / 2 ^ (j + 1) : Nat) : Int) := by
  have e : N / 2 ^ (j + 1) = N / 2 ^ j / 2 := by rw [Nat.pow_succ, Nat.div_div_eq_div_mul]
  rw [e]; rfl

set_option maxHeartbeats 1000000 in
theorem refLevels (N : Nat) (n : Int) (w : World) (hN : N ≤ 9223372036854775807) :
    Calls Tryd.prog 4 #[.int .i64 N, .int .i64 n] w fun e w' => e = .returned (.int .i64 (lvl N n)) ∧ w' = w := by
  by_cases h32 : 32 < N
  · have hv : lvl N n = 4 := by unfold lvl; rw [if_pos h32]
    rw [hv]
    clear hv
    go_enter Tryd.func4, Tryd.ntmps4
    go_wp2
    go_ret
    exact ⟨rfl, rfl⟩
  · by_cases h0 : n < 0
    · have hv : lvl N n = 1 := by unfold lvl; rw [if_neg h32, if_pos (Or.inl h0)]
      rw [hv]
      clear hv
      go_enter Tryd.func4, Tryd.ntmps4
      go_wp2
      go_ret
      exact ⟨rfl, rfl⟩
    · by_cases h5 : 5 < n
      · have hv : lvl N n = 1 := by unfold lvl; rw [if_neg h32, if_pos (Or.inr h5)]
        rw [hv]
        clear hv
        go_enter Tryd.func4, Tryd.ntmps4
        go_wp2
        go_ret
        exact ⟨rfl, rfl⟩
      · obtain ⟨k, rfl⟩ : ∃ k : Nat, n = k := ⟨n.toNat, by omega⟩
        have HV : Hid (lvl N k = if N % 2 ^ k ≠ 0 then 3 else 0) := hide (by unfold lvl; rw [if_neg h32, if_neg (by omega), Int.toNat_natCast])
        obtain ⟨r, hr⟩ : ∃ r, r = lvl N k := ⟨_, rfl⟩
        have HR := hide hr
        rw [← hr]
        clear hr
        go_enter Tryd.func4, Tryd.ntmps4
        go_wp2
        go_loop [0, 5] (fun t i => ∃ j : Nat, j ≤ k ∧ i = .int .i64 j ∧ t = .int .i64 ((N / 2 ^ j : Nat) : Int) ∧ Hid (2 ^ j ∣ N)) (fun _ i => k - (intOf i).toNat)
        case atStart => exact ⟨0, Nat.zero_le _, rfl, by simp, hide (by simp)⟩
        case round =>
          obtain ⟨j, hjk, rfl, rfl, HD⟩ := hrel
          by_cases hlt : j < k
          · have hdv := lev_half N j
            obtain ⟨M, hM⟩ : ∃ M, M = N / 2 ^ j := ⟨_, rfl⟩
            obtain ⟨M', hM'⟩ : ∃ M', M' = N / 2 ^ (j + 1) := ⟨_, rfl⟩
            rw [← hM, ← hM'] at hdv
            rw [← hM]
            have HM := hide hM
            have HM' := hide hM'
            have hMl : M ≤ 32 := by rw [hM]; exact Nat.le_trans (Nat.div_le_self _ _) (by omega)
            have hMl' : M' ≤ 32 := by rw [hM']; exact Nat.le_trans (Nat.div_le_self _ _) (by omega)
            clear hM hM'
            have hmod : Int.tmod (M : Int) 2 = ((M % 2 : Nat) : Int) := rfl
            by_cases hm : M % 2 = 0
            · have HE := hide (lev_step (unhide HD) (by rw [← unhide HM]; exact hm))
              go_wp2
              go_round
              case rel => exact ⟨j + 1, by omega, by go_num, by rw [← unhide HM'], HE⟩
              case measure => simp [intOf]; omega
            · have HE := hide (lev_bad (k := k) (by rw [← unhide HM]; exact hm) hlt)
              go_wp2
              go_ret
              exact ⟨ret_int (by rw [unhide HR, unhide HV, if_pos (unhide HE)]), rfl⟩
          · have hke : k = j := by omega
            subst hke
            go_wp2
            go_ret
            exact ⟨ret_int (by rw [unhide HR, unhide HV, if_neg (by have := Nat.mod_eq_zero_of_dvd (unhide HD); omega)]), rfl⟩

end Go.Proofs.YtcodgebchmhobabDoor.Tre
