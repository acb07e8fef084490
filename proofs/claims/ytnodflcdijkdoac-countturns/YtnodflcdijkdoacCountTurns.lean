/-
  It is proved that hornlaw1.CountTurns returns true for every two numbers: k times as many rows as there are of n numbers and k pulses are n times as many as there are of k numbers and n pulses; each count is the sum of three; the bits are enough, but no more. No condition.
-/
import Derived.Test.YtnodflcdijkdoacCountBits
import Derived.Test.YtnodflcdijkdoacPlain
namespace Go.Proofs.Ytnodflcdijkdoac.CountTurnsLaw
open Go.ChangeShapes Go.WideShapes Go.ChangeAt Go.RowKit
open Go.Proofs.Ytnodflcdijkdoac.Tre Go.Proofs.Ytnodflcdijkdoac.Cnt
set_option linter.unusedVariables false

theorem fact (w : World) : Calls Try.prog 5 #[.int .i64 3, .int .i64 2] w fun e w' => e = .returned (.tuple #[.int .i64 18, .nilIface]) ∧ Below w.heap.size w w' := by
  have h := of_ok 3 2 (by omega) (by omega) w
  rw [V_fact] at h
  exact h

/-- Outside, or of none. -/
theorem walk_out (n k : Int) (w : World) (h : Hid (wide n 6 = true) ∨ (Hid (wide n 6 = false) ∧ Hid (wide k 8 = true))) :
    Calls Try.prog 3 #[.int .i64 n, .int .i64 k] w fun e w' => e = .returned (.bool true) ∧ Below w.heap.size w w' := by
  go_enter Try.func3, Try.ntmps3
  go_wp2_with fail
  refine (fact w).mono ?_
  rintro e w1 ⟨rfl, hb1⟩
  go_wp2_with fail
  refine (of_no n k w1 h).mono ?_
  rintro e w2 ⟨rfl, hb2⟩
  go_wp2
  go_ret
  exact ⟨rfl, Below.chain hb1 hb2⟩

theorem walk_none (n k : Nat) (hn : n ≤ 6) (hk : k ≤ 8) (w : World) (h : n = 0 ∨ (0 < n ∧ k = 0)) :
    Calls Try.prog 3 #[.int .i64 n, .int .i64 k] w fun e w' => e = .returned (.bool true) ∧ Below w.heap.size w w' := by
  rcases h with rfl | ⟨h0, rfl⟩
  all_goals
    go_enter Try.func3, Try.ntmps3
    go_wp2_with fail
    refine (fact w).mono ?_
    rintro e w1 ⟨rfl, hb1⟩
    go_wp2_with fail
    refine (of_ok _ _ hn hk w1).mono ?_
    rintro e w2 ⟨rfl, hb2⟩
    go_wp2
    go_ret
    exact ⟨rfl, Below.chain hb1 hb2⟩

theorem pow_half {b : Nat} {P : Int} (hP : P = 2 ^ b) (h0 : 0 < b) : Int.tdiv P 2 = 2 ^ (b - 1) := by
  obtain ⟨c, rfl⟩ : ∃ c, b = c + 1 := ⟨b - 1, by omega⟩
  rw [hP, Int.pow_succ, Nat.add_sub_cancel, Int.mul_tdiv_cancel _ (by omega)]

set_option maxRecDepth 100000 in
set_option maxHeartbeats 8000000 in
theorem walk_in (N K M J : Nat) (hN : N ≤ 6) (hK : K ≤ 8) (hM : Hid (N = M + 1)) (hJ : Hid (K = J + 1)) (hN1 : (N : Int) - 1 = (M : Int)) (hK1 : (K : Int) - 1 = (J : Int)) (hn0 : 1 ≤ N) (hk0 : 1 ≤ K) (w : World) :
    Calls Try.prog 3 #[.int .i64 N, .int .i64 K] w fun e w' => e = .returned (.bool true) ∧ Below w.heap.size w w' := by
  have hM6 : M ≤ 5 := by have := unhide hM; omega
  have hJ8 : J ≤ 7 := by have := unhide hJ; omega
  obtain ⟨a0, a1⟩ := V_in K N (by omega) (by omega)
  obtain ⟨b0, b1⟩ := V_in K M (by omega) (by omega)
  obtain ⟨c0, c1⟩ := V_in J N (by omega) (by omega)
  obtain ⟨d0, d1⟩ := V_in J M (by omega) (by omega)
  have hsum : V K M + V J N + V J M = V K N := by rw [unhide hM, unhide hJ, V_sum]
  have f5 := bits_ok N K hN hK
  have f1 := of_ok N K hN hK
  have f2 := of_ok M K (by omega) hK
  have f3 := of_ok N J hN (by omega)
  have f4 := of_ok M J (by omega) (by omega)
  have f6 : ((6 : Int) < K ∧ Hid (wide K 6 = true)) ∨ ((K : Int) ≤ 6 ∧ ∃ X Y : Int, Hid (V N K = X) ∧ IntKind.i64.wrap ((K : Int) * V K N) = Y ∧ IntKind.i64.wrap ((N : Int) * X) = Y) := by
    by_cases h : K ≤ 6
    · exact Or.inr ⟨by omega, V N K, _, rfl, rfl, by rw [V_turns K N (by omega) (by omega)]⟩
    · exact Or.inl ⟨by omega, by show wide K 6 = true; simp [wide]; omega⟩
  obtain ⟨A, hA⟩ : ∃ A, V K N = A := ⟨_, rfl⟩
  obtain ⟨B, hB⟩ : ∃ B, V K M = B := ⟨_, rfl⟩
  obtain ⟨C, hC⟩ : ∃ C, V J N = C := ⟨_, rfl⟩
  obtain ⟨D, hD⟩ : ∃ D, V J M = D := ⟨_, rfl⟩
  rw [hA] at a0 a1 hsum f1 f5 f6
  rw [hB] at b0 b1 hsum f2
  rw [hC] at c0 c1 hsum f3
  rw [hD] at d0 d1 hsum f4
  clear hA hB hC hD
  have hw1 : IntKind.i64.wrap (B + C) = B + C := IntWalk.i64_in _ (by omega)
  have hw2 : IntKind.i64.wrap (B + C + D) = A := by rw [IntWalk.i64_in _ (by omega), hsum]
  have HS := hide hsum
  clear hsum
  have F1 := hide f1
  have F2 := hide f2
  have F3 := hide f3
  have F4 := hide f4
  have F5 := hide f5
  clear f1 f2 f3 f4 f5
  have hAA : (A == A) = true := by simp
  go_enter Try.func3, Try.ntmps3
  go_wp2_with fail
  refine (fact w).mono ?_
  rintro e w1 ⟨rfl, hb1⟩
  go_wp2_with fail
  refine (unhide F1 w1).mono ?_
  rintro e w2 ⟨rfl, hb2⟩
  have hB2 := Below.chain hb1 hb2
  clear hb1 hb2
  go_wp2_with fail
  refine (unhide F2 w2).mono ?_
  rintro e w3 ⟨rfl, hb3⟩
  have hB3 := Below.chain hB2 hb3
  clear hB2 hb3
  go_wp2_with fail
  refine (unhide F3 w3).mono ?_
  rintro e w4 ⟨rfl, hb4⟩
  have hB4 := Below.chain hB3 hb4
  clear hB3 hb4
  go_wp2_with fail
  refine (unhide F4 w4).mono ?_
  rintro e w5 ⟨rfl, hb5⟩
  have hB5 := Below.chain hB4 hb5
  clear hB4 hb5
  go_wp2_with fail
  rcases f6 with ⟨g1, G2⟩ | ⟨g1, X, Y, G2, g3, g4⟩
  all_goals (first
    | (refine (of_no K N w5 (Or.inl G2)).mono ?_
       rintro e w6 ⟨rfl, hb6⟩)
    | (refine (of_ok K N (by omega) (by omega) w5).mono ?_
       rw [unhide G2]
       have hYY : (Y == Y) = true := by simp
       rintro e w6 ⟨rfl, hb6⟩))
  all_goals
    have hB6 := Below.chain hB5 hb6
    clear hB5 hb6
    go_wp2_with fail
    refine (unhide F5 w6).mono ?_
    rintro e w7 ⟨b, rfl, hL, hb7⟩
    have hB7 := Below.chain hB6 hb7
    clear hB6 hb7
    have hb15 := hL.le a1
    have HL := hide hL
    clear hL
    go_wp2
    go_loop [18, 19] (fun p i => ∃ (j : Nat) (P : Int), j ≤ b ∧ i = .int .i64 j ∧ p = .int .i64 P ∧ Hid (P = 2 ^ j)) (fun _ i => b - (intOf i).toNat)
    case atStart => exact ⟨0, 1, Nat.zero_le _, rfl, rfl, rfl⟩
    case round =>
      obtain ⟨j, P, hj, rfl, rfl, HP⟩ := hrel
      obtain ⟨p0, p1⟩ := pow_in j (by omega)
      rw [← unhide HP] at p0 p1
      by_cases hlt : j < b
      · have H2 : Hid (2 * P = 2 ^ (j + 1)) := hide (by rw [unhide HP, Int.pow_succ]; omega)
        go_wp2
        go_round
        case rel => exact ⟨j + 1, 2 * P, by omega, by go_num, by go_num, H2⟩
        case measure => simp [intOf]; omega
      · obtain rfl : j = b := by omega
        have hge : A ≤ P := by rw [unhide HP]; exact (unhide HL).1
        by_cases h0 : j = 0
        · subst h0
          go_wp2
          go_ret
          exact ⟨rfl, hB7⟩
        · have htd := pow_half (unhide HP) (by omega)
          have hQ := (unhide HL).2 (j - 1) (by omega)
          obtain ⟨q0, q1⟩ := pow_in (j - 1) (by omega)
          obtain ⟨Q, hQe⟩ : ∃ Q, (2 : Int) ^ (j - 1) = Q := ⟨_, rfl⟩
          rw [hQe] at htd hQ q0 q1
          clear hQe
          have hj0 : ((j : Int) == 0) = false := by simp; omega
          have hwq : IntKind.i64.wrap Q = Q := IntWalk.i64_in _ (by omega)
          go_wp2
          go_ret
          exact ⟨rfl, hB7⟩

theorem walk (n k : Int) (w : World) (hwn : (Lit.int .i64 n).wf = true) (hwk : (Lit.int .i64 k).wf = true) :
    Calls Try.prog 3 #[.int .i64 n, .int .i64 k] w fun e w' => e = .returned (.bool true) ∧ Below w.heap.size w w' := by
  rcases wide_or n 6 with h | ⟨h, h0, h1⟩
  · exact walk_out n k w (Or.inl h)
  · rcases wide_or k 8 with g | ⟨g, g0, g1⟩
    · exact walk_out n k w (Or.inr ⟨h, g⟩)
    · obtain ⟨N, rfl⟩ : ∃ N : Nat, n = N := ⟨n.toNat, by omega⟩
      obtain ⟨K, rfl⟩ : ∃ K : Nat, k = K := ⟨k.toNat, by omega⟩
      by_cases hn : N = 0
      · exact walk_none N K (by omega) (by omega) w (Or.inl hn)
      · by_cases hk : K = 0
        · exact walk_none N K (by omega) (by omega) w (Or.inr ⟨by omega, hk⟩)
        · exact walk_in N K (N - 1) (K - 1) (by omega) (by omega) (hide (by omega)) (hide (by omega)) (by omega) (by omega) (by omega) (by omega) w

set_option maxRecDepth 100000 in
theorem lifted (os : Os) (started : os.Started) (H : Type) (enc : TypeId × Value → H) :
    ReturnsInHanded {} Try.checked os 3 .any (Rows.countTurnsSpec.pre6 enc Try.prog Try.f3 Rows.countTurnsRow.domain false) (Rows.countTurnsSpec.post enc Try.prog Try.f3 false true false false) := by
  refine returnsInHanded_of_change_sized (C := Try.checked) own started (by kernel_rfl) Try.func3
    (ChangeSpec.witness6 (enc := enc) (C := Try.checked) false ⟨#[], #[.int .i64 0, .int .i64 0], []⟩ 8 (by kernel_rfl) (by kernel_rfl) (by kernel_rfl) (by kernel_rfl)) ?_
  intro W base args ds gs before hval0 hW hcnd hsz0 _
  have hsz : (DataW.weightsEach Try.prog (Try.f3.params.toList ++ Rows.countTurnsSpec.plain.varTypes Try.prog) (ds ++ gs)).all (· ≤ reachBytes) = true := hsz0
  have hval : ∀ (j : Nat) t v, Try.f3.params[j]? = some t → args[j]? = some v → Value.okWide Try.prog W .any base t v := hval0
  have hW' := hW
  obtain ⟨p, q, hA0, hV, rfl, hfz, hnd⟩ := hW
  have hA : DataW.TrodAll enc Try.prog W 0 (fun _ => true) true Try.f3.params.toList args.toList ds p := hA0
  rw [Try.params3] at hA hval hsz
  obtain ⟨v0, vs0, d0, ds0, p0, q0, hargs, rfl, rfl, h0, r0⟩ := trodAll_cons hA
  obtain ⟨v1, vs1, d1, ds1, p1, q1, rfl, rfl, rfl, h1, r1⟩ := trodAll_cons r0
  obtain ⟨rfl, rfl, rfl⟩ := trodAll_nil r1
  obtain rfl : args = #[v0, v1] := by cases args; simp_all
  obtain ⟨rfl, rfl⟩ := trodVars_none hV
  obtain ⟨n0, rfl, rfl, rfl, hw0⟩ := open_int Try.underlying3 (hval 0 3 v0 rfl rfl) h0
  obtain ⟨n1, rfl, rfl, rfl, hw1⟩ := open_int Try.underlying3 (hval 1 3 v1 rfl rfl) h1
  clear hA0 hval0 hsz0
  refine (walk n0 n1 W hw0 hw1).mono fun e W' ⟨he, bel⟩ => ?_
  subst he
  exact ⟨_, rfl, _, _, _, [], _, [], hW', trodAll_mk1 (shut_bool Try.underlying4 _), (trodAll_cons_mk (shut_int Try.underlying3 hw0) (trodAll_cons_mk (shut_int Try.underlying3 hw1) trodAll_mk0)), rfl, bel.frame _, fun h => by cases h⟩
end Go.Proofs.Ytnodflcdijkdoac.CountTurnsLaw
namespace Go.Proofs.Ytnodflcdijkdoac
open Go.ChangeShapes Go.WideShapes Go.ChangeAt Go.RowKit

theorem countTurns_holds : Rows.CountTurnsSaid :=
  OpenClaim.holds_of_wide 3 Try.f3 rfl rfl rfl rfl rfl rfl rfl ⟨rfl, rfl, rfl, rfl, rfl⟩ rfl rfl rfl rfl rfl (by kernel_rfl) Try.func3 (by kernel_rfl)
    (of_decide_eq_true (by kernel_rfl)) (by unfold Func.isWrapper; first | (rw [if_pos (by decide +kernel)]; kernel_rfl) | (rw [if_neg (by decide +kernel)]; exact ⟨rfl, rfl⟩))
    (fun os started H enc _ => CountTurnsLaw.lifted os started H enc)
end Go.Proofs.Ytnodflcdijkdoac
