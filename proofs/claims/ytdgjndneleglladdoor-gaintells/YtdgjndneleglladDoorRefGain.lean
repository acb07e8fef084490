/-
  hornref1's Gain and Value: by their contracts.
-/
import Derived.Test.YtdgjndneleglladDoorGainVal
namespace Go.Proofs.YtdgjndneleglladDoor.Gai
open Go.RowKit
set_option linter.unusedVariables false

set_option maxHeartbeats 2000000 in
theorem refGain (n : Nat) (h : n ≤ 8000) (w : World) :
    Calls Tryd.prog 19 #[.int .i64 n] w fun e w' => e = .returned (.int .i64 (gi n)) ∧ w = w' := by
  rcases Nat.eq_zero_or_pos n with e | hn
  · subst e
    go_enter Tryd.func19, Tryd.ntmps19
    go_wp2
    go_ret
    exact ⟨rfl, rfl⟩
  · have hz : ((n : Int) == 0) = false := by simp; omega
    go_enter Tryd.func19, Tryd.ntmps19
    go_wp2
    go_loop [3, 4] (fun m p => ∃ M P : Nat, m = .int .i64 M ∧ p = .int .i64 P ∧ Hid (2 ^ M = P) ∧ M ≤ 12 ∧ 0 < P ∧ P ≤ n) (fun _ p => n - (intOf p).toNat)
    case atStart => exact ⟨0, 1, rfl, rfl, rfl, by omega, by omega, hn⟩
    case round =>
      obtain ⟨M, P, rfl, rfl, HP, hM, hp0, hp⟩ := hrel
      by_cases hlt : 2 * P ≤ n
      · have HP2 : Hid (2 ^ (M + 1) = 2 * P) := hide (by rw [Nat.pow_succ, unhide HP]; omega)
        have hM2 : M + 1 ≤ 12 := log_in (n := n) (by rw [unhide HP2]; exact hlt) h
        go_wp2
        go_round
        case rel => exact ⟨M + 1, 2 * P, by go_num, by go_num, HP2, hM2, by omega, hlt⟩
        case measure => simp [intOf]; omega
      · go_wp2
        go_loop [5] (fun q => ∃ Q : Nat, q = .int .i64 Q ∧ Q ≤ 3 ∧ Hid (Q * P ≤ 4 * (n - P))) (fun q => 3 - (intOf q).toNat)
        case atStart => exact ⟨0, rfl, by omega, by show 0 * P ≤ _; omega⟩
        case round =>
          obtain ⟨Q, rfl, hQ, HQ⟩ := hrel
          by_cases hq : (Q + 1) * P ≤ 4 * (n - P)
          · have hQ' : Q = 0 ∨ Q = 1 ∨ Q = 2 := by
              have : Q ≠ 3 := by rintro rfl; omega
              omega
            have HQ2 := hide hq
            rcases hQ' with rfl | rfl | rfl
            all_goals
              go_wp2
              go_round
              case rel => first | exact ⟨1, rfl, by omega, HQ2⟩ | exact ⟨2, rfl, by omega, HQ2⟩ | exact ⟨3, rfl, by omega, HQ2⟩
              case measure => simp [intOf]
          · have HE : Hid (gi n = 1 + 4 * M + Q) := hide (gi_is (by rw [unhide HP]; exact hp) (by rw [Nat.pow_succ, unhide HP]; omega) (by rw [unhide HP]; exact fourths hp0 (unhide HQ) (by omega)))
            have hQ' : Q = 0 ∨ Q = 1 ∨ Q = 2 ∨ Q = 3 := by omega
            rcases hQ' with rfl | rfl | rfl | rfl
            all_goals
              go_wp2
              go_ret
              exact ⟨ret_int (by rw [unhide HE]; omega), rfl⟩

/-- What hornref1's Value answers. -/
theorem refValue_far (g : Int) (w : World) (h : g < 0 ∨ (0 ≤ g ∧ 53 < g)) :
    Calls Tryd.prog 21 #[.int .i64 g] w fun e w' => e = .returned (.tuple #[.int .i64 0, .bool false]) ∧ w = w' := by
  rcases h with h | ⟨h, g⟩
  all_goals
    go_enter Tryd.func21, Tryd.ntmps21
    go_wp2
    go_ret2
    exact ⟨rfl, rfl⟩

theorem refValue_zero (w : World) :
    Calls Tryd.prog 21 #[.int .i64 0] w fun e w' => e = .returned (.tuple #[.int .i64 0, .bool true]) ∧ w = w' := by
  go_enter Tryd.func21, Tryd.ntmps21
  go_wp2
  go_ret2
  exact ⟨rfl, rfl⟩

/-- What may be of a gain. -/
def Way (g N : Nat) : Prop := (8000 < N ∧ Hid (vo g = false)) ∨ (N ≤ 8000 ∧ ∃ B : Nat, Hid (gi N = B) ∧ (((B : Int) == (g : Int)) = false ∧ Hid (vo g = false) ∨ B = g ∧ Hid (vo g = true ∧ vl g = N)))
theorem way {g : Nat} (hg : 0 < g) : Way g (mid g) := by
  have ev : vl g = mid g := by unfold vl; rw [if_neg (by omega)]
  cases h : vo g with
  | true =>
    obtain ⟨h1, h2⟩ := vo_is h
    rw [ev] at h1 h2
    exact Or.inr ⟨h1, g, h2, Or.inr ⟨rfl, h, ev⟩⟩
  | false =>
    have h1 := vo_not h
    rw [ev] at h1
    rcases h1 with h1 | ⟨h1, h2⟩
    · exact Or.inl ⟨h1, h⟩
    · exact Or.inr ⟨h1, _, rfl, Or.inl ⟨by simp; omega, h⟩⟩
/-- The answer. -/
def Ans (g : Nat) (e : Ending) : Prop := (Hid (vo g = true) ∧ e = .returned (.tuple #[.int .i64 (vl g), .bool true])) ∨ (Hid (vo g = false) ∧ e = .returned (.tuple #[.int .i64 0, .bool false]))

set_option maxHeartbeats 2000000 in
theorem refValue_some (g : Nat) (hg : 0 < g) (h : g ≤ 53) (w : World) :
    Calls Tryd.prog 21 #[.int .i64 g] w fun e w' => Ans g e ∧ w = w' := by
  obtain ⟨m, q, P, e1, e2, hm, hq, e3, hp, hp', HM⟩ := mid_is hg h
  have hz : ((g : Int) == 0) = false := by simp; omega
  have hwy := way hg
  have HE3 := hide e3
  obtain ⟨N, hN⟩ : ∃ N, mid g = N := ⟨_, rfl⟩
  have hN1 := unhide HM
  rw [hN] at hwy hN1
  have HN := hide hN1
  clear HM hN e3 hN1
  go_enter Tryd.func21, Tryd.ntmps21
  go_wp2
  go_loop [4, 5] (fun p i => ∃ j R : Nat, j ≤ m ∧ i = .int .i64 j ∧ p = .int .i64 R ∧ Hid (2 ^ j = R) ∧ R ≤ 8192) (fun _ i => m - (intOf i).toNat)
  case atStart => exact ⟨0, 1, Nat.zero_le _, rfl, rfl, rfl, by omega⟩
  case round =>
    obtain ⟨j, R, hj, rfl, rfl, HR, hR⟩ := hrel
    by_cases hlt : j < m
    · have HR2 : Hid (2 ^ (j + 1) = 2 * R) := hide (by rw [Nat.pow_succ, unhide HR]; omega)
      have hR2 : 2 * R ≤ 8192 := by
        rw [← unhide HR2]; exact Nat.pow_le_pow_right (j := 13) (by omega) (by omega)
      go_wp2
      go_round
      case rel => exact ⟨j + 1, 2 * R, by omega, by go_num, by go_num, HR2, hR2⟩
      case measure => simp [intOf]; omega
    · obtain rfl : j = m := by omega
      obtain rfl : R = P := by
        have e := unhide HE3
        rw [show (2 : Int) ^ j = ((2 ^ j : Nat) : Int) by simp, unhide HR] at e
        omega
      have hq' : q = 0 ∨ q = 1 ∨ q = 2 ∨ q = 3 := by omega
      rcases hwy with ⟨hw, HV⟩ | ⟨hw, B, HB, hwy⟩
      · rcases hq' with rfl | rfl | rfl | rfl
        all_goals
          first
            | have hX : (R : Int) + (R : Int) / 8 = (N : Int) := by have := unhide HN; omega
            | have hX : (R : Int) + 3 * (R : Int) / 8 = (N : Int) := by have := unhide HN; omega
            | have hX : (R : Int) + 5 * (R : Int) / 8 = (N : Int) := by have := unhide HN; omega
            | have hX : (R : Int) + 7 * (R : Int) / 8 = (N : Int) := by have := unhide HN; omega
          go_wp2
          go_ret2
          exact ⟨Or.inr ⟨HV, rfl⟩, rfl⟩
      · have hc := refGain N hw w
        rw [unhide HB] at hc
        have HC := hide hc
        clear hc
        rcases hwy with ⟨hne, HV⟩ | ⟨rfl, HV⟩
        · have hne' : ((B : Int) != (g : Int)) = true := by simp [bne, hne]
          rcases hq' with rfl | rfl | rfl | rfl
          all_goals
            first
              | have hX : (R : Int) + (R : Int) / 8 = (N : Int) := by have := unhide HN; omega
              | have hX : (R : Int) + 3 * (R : Int) / 8 = (N : Int) := by have := unhide HN; omega
              | have hX : (R : Int) + 5 * (R : Int) / 8 = (N : Int) := by have := unhide HN; omega
              | have hX : (R : Int) + 7 * (R : Int) / 8 = (N : Int) := by have := unhide HN; omega
            go_wp2_with fail
            refine (unhide HC).mono ?_
            rintro e w1 ⟨rfl, rfl⟩
            go_wp2
            go_ret2
            exact ⟨Or.inr ⟨HV, rfl⟩, rfl⟩
        · have hne : ((B : Int) == (B : Int)) = true := by simp
          have hv := (unhide HV).2
          rcases hq' with rfl | rfl | rfl | rfl
          all_goals
            first
              | have hX : (R : Int) + (R : Int) / 8 = (N : Int) := by have := unhide HN; omega
              | have hX : (R : Int) + 3 * (R : Int) / 8 = (N : Int) := by have := unhide HN; omega
              | have hX : (R : Int) + 5 * (R : Int) / 8 = (N : Int) := by have := unhide HN; omega
              | have hX : (R : Int) + 7 * (R : Int) / 8 = (N : Int) := by have := unhide HN; omega
            go_wp2_with fail
            refine (unhide HC).mono ?_
            rintro e w1 ⟨rfl, rfl⟩
            go_wp2
            go_ret2
            exact ⟨Or.inl ⟨(unhide HV).1, by rw [hv]; rfl⟩, rfl⟩

end Go.Proofs.YtdgjndneleglladDoor.Gai
