/-
  The walk of hornlaw1.TreeBack.
-/
import Derived.Test.YtcodgebchmhobabTreeBackOne
namespace Go.Proofs.Ytcodgebchmhobab.TreeBackLaw
open Go.RowKit
open Go.Proofs.Ytcodgebchmhobab.Tre Go.Proofs.Ytcodgebchmhobab.Same
set_option linter.unusedVariables false

theorem four_row (w : World) (t : TypeId) : Row (w.alloc (.cells #[.int .i64 1, .int .i64 2, .int .i64 3, .int .i64 6] t)) (some ⟨w.heap.size, 0, none⟩) [1, 2, 3, 6] := by
  refine Or.inr ⟨w.heap.size, 0, rfl, by simp, fun j hj => ?_⟩
  have hj' : j = 0 ∨ j = 1 ∨ j = 2 ∨ j = 3 := by simp at hj; omega
  rcases hj' with rfl | rfl | rfl | rfl <;> (rw [World.cell?_alloc_at _ _ _ _ rfl]; rfl)

set_option maxRecDepth 100000 in
set_option maxHeartbeats 8000000 in
theorem walk_nat (a0 : Option Addr) (cap0 : Nat) (l : List Int) (k : Nat) (a2 : Option Addr) (cap2 : Nat) (m : List Int) (w : World) (hr0 : Row w a0 l) (z0 : l.length ≤ 9223372036854775807) (hr2 : Row w a2 m) (z2 : m.length ≤ 9223372036854775807) :
    Calls Try.prog 4 #[.slice a0 l.length cap0, .int .i64 k, .slice a2 m.length cap2] w fun e w' => e = .returned (.bool true) ∧ Below w.heap.size w w' := by
  have hbA : Below w.heap.size w (w.alloc (.cells #[.int .i64 1, .int .i64 2, .int .i64 3, .int .i64 6] 3)) := (Below.refl _ _).alloc (Nat.le_refl _) _
  have hrA := four_row w 3
  go_enter Try.func4, Try.ntmps4
  go_wp2_with fail
  refine (fwd_ok (some ⟨w.heap.size, 0, none⟩) 4 [1, 2, 3, 6] 2 _ (by decide) hrA (hide rfl)).mono ?_
  rintro e w1 ⟨v1, rfl, h1, hb1⟩
  have et : tree 2 [1, 2, 3, 6] = [2, -3, -1, -3] := by decide
  rw [et] at h1
  clear et
  obtain ⟨p1, q1, rfl, r1⟩ := h1.row
  obtain ⟨b, off, rfl, hc⟩ := row_at r1 (by decide)
  have c0 : w1.cell? ⟨b, off, none⟩ = some (.int .i64 2) := hc 0 (by decide)
  have c1 : w1.cell? ⟨b, off + 1, none⟩ = some (.int .i64 (-3)) := hc 1 (by decide)
  have c2 : w1.cell? ⟨b, off + 2, none⟩ = some (.int .i64 (-1)) := hc 2 (by decide)
  have c3 : w1.cell? ⟨b, off + 3, none⟩ = some (.int .i64 (-3)) := hc 3 (by decide)
  have hbw := Below.chain hbA hb1
  clear hc r1 h1 hbA hb1 hrA
  go_wp2_with fail
  clear c0 c1 c2 c3
  have hm1 := hr2.below hbw
  rcases Tre.ways m k with cA | ⟨cB1, cB2⟩ | ⟨x, cC1, cC2, cC3, cC4⟩ | ⟨x, cD1, cD2, cD3, cD4, cD5, cD6⟩
  all_goals (first
    | (refine (inv_no a2 cap2 m k w1 z2 hm1 cA).mono ?_
       rintro e w5 ⟨rfl, hb5⟩
       have hB := Below.chain hbw hb5
       go_wp2_with fail)
    | (refine (inv_bad a2 cap2 m k w1 z2 hm1 cB1 cB2).mono ?_
       rintro e w5 ⟨rfl, hb5⟩
       have hB := Below.chain hbw hb5
       go_wp2_with fail)
    | (refine (inv_ok a2 cap2 m x k w1 z2 hm1 cC1 cC2).mono ?_
       rintro e w2 ⟨v2, rfl, h2, hb2⟩
       obtain ⟨p2, q2, rfl, r2⟩ := h2.row
       go_wp2_with fail
       refine (snd_no p2 q2 x w2 cC3 cC4 r2).mono ?_
       rintro e w5 ⟨rfl, hb5⟩
       have hB := Below.chain hbw (Below.chain hb2 hb5)
       go_wp2_with fail)
    | (refine (inv_ok a2 cap2 m x k w1 z2 hm1 cD1 cD2).mono ?_
       rintro e w2 ⟨v2, rfl, h2, hb2⟩
       obtain ⟨p2, q2, rfl, r2⟩ := h2.row
       go_wp2_with fail
       refine (snd_ok p2 q2 x w2 cD3 cD4 r2).mono ?_
       rintro e w3 ⟨rfl, hb3⟩
       go_wp2_with fail
       refine (fwd_ok p2 q2 x k w3 (by omega) (r2.below hb3) cD5).mono ?_
       rintro e w4 ⟨v4, rfl, h4, hb4⟩
       rw [unhide cD6] at h4
       obtain ⟨p4, q4, rfl, r4⟩ := h4.row
       have hB4 := Below.chain hbw (Below.chain hb2 (Below.chain hb3 hb4))
       go_wp2_with fail
       refine (ints_same p4 q4 a2 cap2 m w4 z2 r4 (hr2.below hB4)).mono ?_
       rintro e w5 ⟨rfl, hb5⟩
       have hB := Below.chain hB4 hb5
       go_wp2_with fail))
  all_goals
    have hl5 := hr0.below hB
    by_cases hch : chk l k 1000 = 0
    · have HC := hide hch
      obtain ⟨y1, y2, y3, y4, y5⟩ := chk_zero hch
      have y4' : Hid (2 ^ k ∣ l.length) := hide (by simpa using y4)
      clear hch y4
      have HT := hide (tree_length k l (unhide y4'))
      have HI : Hid (chk (tree k l) k 2000 = 0) := hide (chk_of (by rw [unhide HT]; exact y1) y2 y3 (by rw [unhide HT]; simpa using unhide y4') (tree_in k l y5))
      refine (fwd_ok a0 cap0 l k w5 z0 hl5 HC).mono ?_
      rintro e w6 ⟨v6, rfl, h6, hb6⟩
      obtain ⟨p6, q6, rfl, r6⟩ := h6.row
      have hinv := inv_ok p6 q6 (tree k l) l k w6 (by rw [unhide HT]; exact z0) r6 HI (hide (back_tree k l (unhide y4') y5))
      rw [unhide HT] at hinv ⊢
      go_wp2_with fail
      refine hinv.mono ?_
      clear hinv
      rintro e w7 ⟨v7, rfl, h7, hb7⟩
      obtain ⟨p7, q7, rfl, r7⟩ := h7.row
      have hB7 := Below.chain hB (Below.chain hb6 hb7)
      go_wp2_with fail
      refine (ints_same p7 q7 a0 cap0 l w7 z0 r7 (hr0.below hB7)).mono ?_
      rintro e w8 ⟨rfl, hb8⟩
      have hB8 := Below.chain hB7 hb8
      have r8 := hr0.below hB8
      have r9 := (r6.below hb7).below hb8
      clear hl5 r6 r7 h6 h7 hb6 hb7 hb8 hB7 hB hbw hm1
      go_wp2
      go_loopw [16, 17] (fun t i wr => ∃ j : Nat, 1 ≤ j ∧ (j ≤ l.length ∨ j = 1) ∧ i = .int .i64 j ∧ t = .bool (al l j) ∧ ∃ n, wr = w8.drewN n) (fun _ i _ => l.length - (intOf i).toNat)
      case atStart => exact ⟨1, Nat.le_refl _, Or.inr rfl, rfl, by rw [al_one], 0, rfl⟩
      case round =>
        obtain ⟨j, hj1, hj2, rfl, rfl, n, rfl⟩ := hrel
        by_cases hlt : j < l.length
        · obtain ⟨b0, off0, rfl, hc0⟩ := row_at r8 (by omega)
          obtain ⟨X, hX⟩ : ∃ X, X = at0 l j := ⟨_, rfl⟩
          obtain ⟨Y, hY⟩ : ∃ Y, Y = at0 l 0 := ⟨_, rfl⟩
          have hcx : w8.cell? ⟨b0, off0 + j, none⟩ = some (.int .i64 X) := by rw [hX]; exact hc0 j hlt
          have hcy : w8.cell? ⟨b0, off0, none⟩ = some (.int .i64 Y) := by rw [hY]; exact hc0 0 (by omega)
          have hst : al l (j + 1) = (al l j && decide (X = Y)) := by rw [hX, hY]; exact al_step hlt
          have h0l : 0 < l.length := by omega
          clear hX hY hc0
          cases hal : al l j
          · rw [hal] at hst
            have HS := hide hst
            clear hst hal
            go_wp2
            go_quiet (fail)
            go_wp2
            go_roundw
            case rel => exact ⟨j + 1, by omega, by omega, by go_num, by rw [unhide HS]; rfl, _, rfl⟩
            case measure => simp [intOf]; omega
          · rw [hal] at hst
            by_cases hxy : X = Y
            · rw [decide_eq_true hxy] at hst
              have HS := hide hst
              have hq : (X == Y) = true := by simpa using hxy
              clear hst hal hxy
              go_wp2
              go_quiet (fail)
              go_wp2
              go_roundw
              case rel => exact ⟨j + 1, by omega, by omega, by go_num, by rw [unhide HS]; rfl, _, rfl⟩
              case measure => simp [intOf]; omega
            · rw [decide_eq_false hxy] at hst
              have HS := hide hst
              have hq : (X == Y) = false := by simpa using hxy
              clear hst hal hxy
              go_wp2
              go_quiet (fail)
              go_wp2
              go_roundw
              case rel => exact ⟨j + 1, by omega, by omega, by go_num, by rw [unhide HS]; rfl, _, rfl⟩
              case measure => simp [intOf]; omega
        · cases hal : al l j
          · clear hal
            go_wp2
            go_ret
            exact ⟨rfl, below_drewN hB8 _⟩
          · obtain ⟨h0l, hrep⟩ := al_alike (by omega) hal
            have HR := hide hrep
            clear hal hrep
            go_wp2
            go_loop [18, 19] (fun t i => ∃ j2 : Nat, j2 ≤ k ∧ i = .int .i64 j2 ∧ t = .int .i64 ((l.length / 2 ^ j2 : Nat) : Int)) (fun _ i => k - (intOf i).toNat)
            case atStart => exact ⟨0, Nat.zero_le _, rfl, by simp⟩
            case round =>
              obtain ⟨j2, hj2k, rfl, rfl⟩ := hrel
              by_cases hlt2 : j2 < k
              · obtain ⟨M, hM⟩ : ∃ M, M = l.length / 2 ^ j2 := ⟨_, rfl⟩
                have hdv := half_more l.length j2
                rw [← hM] at hdv ⊢
                obtain ⟨M', hM'⟩ : ∃ M', M' = l.length / 2 ^ (j2 + 1) := ⟨_, rfl⟩
                rw [← hM'] at hdv
                have HM' := hide hM'
                have hMl : M ≤ 32 := by rw [hM]; exact Nat.le_trans (Nat.div_le_self _ _) y1
                have hMl' : M' ≤ 32 := by rw [hM']; exact Nat.le_trans (Nat.div_le_self _ _) y1
                clear hM hM'
                go_wp2
                go_round
                case rel => exact ⟨j2 + 1, by omega, by go_num, by rw [← unhide HM']⟩
                case measure => simp [intOf]; omega
              · have hj2e : k = j2 := by omega
                subst hj2e
                obtain ⟨M, hM⟩ : ∃ M, M = l.length / 2 ^ k := ⟨_, rfl⟩
                rw [← hM]
                have HM := hide hM
                have hMl : M ≤ 32 := by rw [hM]; exact Nat.le_trans (Nat.div_le_self _ _) y1
                clear hM
                obtain ⟨b0, off0, rfl, hc0⟩ := row_at r8 h0l
                obtain ⟨b6, off6, rfl, hc6⟩ := row_at r9 (by rw [unhide HT]; exact h0l)
                obtain ⟨Y, hY⟩ : ∃ Y, Y = at0 l 0 := ⟨_, rfl⟩
                have hcy : w8.cell? ⟨b0, off0, none⟩ = some (.int .i64 Y) := by rw [hY]; exact hc0 0 (by omega)
                have HY := hide hY
                clear hc0 hY
                go_wp2
                go_loopw [20] (fun i wr => ∃ j3 : Nat, j3 ≤ l.length ∧ i = .int .i64 j3 ∧ ∃ n3, wr = w8.drewN n3) (fun i _ => l.length - (intOf i).toNat)
                case atStart => exact ⟨0, Nat.zero_le _, rfl, n, rfl⟩
                case round =>
                  obtain ⟨j3, hj3, rfl, n3, rfl⟩ := hrel
                  by_cases hlt3 : j3 < l.length
                  · have hcx := hc6 j3 (by rw [unhide HT]; exact hlt3)
                    rw [alike_at (unhide y4') (unhide HR) hlt3, ← unhide HM, ← unhide HY] at hcx
                    by_cases hjm : j3 < M
                    · rw [if_pos hjm] at hcx
                      clear hc6
                      have hge : decide ((M : Int) ≤ (j3 : Int)) = false := by simp; omega
                      have hge2 : decide (M ≤ j3) = false := by simp; omega
                      have hge3 : ¬ M ≤ j3 := by omega
                      have hge4 : ¬ (M : Int) ≤ (j3 : Int) := by omega
                      go_wp2
                      go_quiet (fail)
                      go_wp2
                      go_roundw
                      case rel => exact ⟨j3 + 1, by omega, by go_num, _, rfl⟩
                      case measure => simp [intOf]; omega
                    · rw [if_neg hjm] at hcx
                      clear hc6
                      have hjm' : decide ((j3 : Int) < (M : Int)) = false := by simp; omega
                      have hge : (M : Int) ≤ (j3 : Int) := by omega
                      go_wp2
                      go_quiet (fail)
                      go_wp2
                      go_roundw
                      case rel => exact ⟨j3 + 1, by omega, by go_num, _, rfl⟩
                      case measure => simp [intOf]; omega
                  · go_wp2
                    go_ret
                    exact ⟨rfl, below_drewN hB8 _⟩
    · have HC := hide hch
      clear hch
      refine (fwd_no a0 cap0 l k w5 z0 hl5 HC).mono ?_
      rintro e w6 ⟨rfl, hb6⟩
      go_wp2
      go_ret
      exact ⟨rfl, Below.chain hB hb6⟩

end Go.Proofs.Ytcodgebchmhobab.TreeBackLaw
