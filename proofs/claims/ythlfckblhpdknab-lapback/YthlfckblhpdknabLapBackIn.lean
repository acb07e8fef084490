/-
  The walk of hornlaw1.LapBack, where the numbers that rise evenly are within bounds.
-/
import Derived.Test.YthlfckblhpdknabLapBackOne
namespace Go.Proofs.Ythlfckblhpdknab.LapBackLaw
open Go.RowKit
open Go.Proofs.Ythlfckblhpdknab.Tre Go.Proofs.Ythlfckblhpdknab.Lap Go.Proofs.Ythlfckblhpdknab.Same
set_option linter.unusedVariables false

set_option maxRecDepth 100000 in
set_option maxHeartbeats 16000000 in
theorem walk_in (a0 : Option Addr) (cap0 : Nat) (l : List Int) (a1 : Option Addr) (cap1 : Nat) (m : List Int) (f b : Int) (w : World) (hr0 : Row w a0 l) (z0 : l.length ≤ 9223372036854775807) (hr2 : Row w a1 m) (z2 : m.length ≤ 9223372036854775807) (hq : Lap.Roomy a1 m.length cap1) (M : Nat) (f0 : -400 ≤ f) (f1 : f ≤ 400) (b0 : -10 ≤ b) (b1 : b ≤ 10) (M1 : 1 ≤ M) (M2 : M ≤ 16) :
    Calls Try.prog 6 #[.slice a0 l.length cap0, .slice a1 m.length cap1, .int .i64 f, .int .i64 b, .int .i64 M] w fun e w' => e = .returned (.bool true) ∧ Below w.heap.size w w' := by
  have hbA : Below w.heap.size w (w.alloc (.cells #[.int .i64 1, .int .i64 5, .int .i64 3, .int .i64 4] 3)) := (Below.refl _ _).alloc (Nat.le_refl _) _
  have hrA := four_row w 3
  go_enter Try.func6, Try.ntmps6
  go_wp2_with fail
  refine (fwd_ok (some ⟨w.heap.size, 0, none⟩) 4 [1, 5, 3, 4] _ (by decide) hrA (hide rfl)).mono ?_
  rintro e w1 ⟨v1, rfl, h1, hb1⟩
  have et : lap [1, 5, 3, 4] = [3, 4, 3, 1] := by decide
  rw [et] at h1
  clear et
  obtain ⟨p1, q1, rfl, r1⟩ := h1.row
  obtain ⟨g, off, rfl, hc⟩ := row_cell r1 (by decide)
  have c0 : w1.cell? ⟨g, off, none⟩ = some (.int .i64 3) := hc 0 (by decide)
  have c1 : w1.cell? ⟨g, off + 1, none⟩ = some (.int .i64 4) := hc 1 (by decide)
  have c2 : w1.cell? ⟨g, off + 2, none⟩ = some (.int .i64 3) := hc 2 (by decide)
  have c3 : w1.cell? ⟨g, off + 3, none⟩ = some (.int .i64 1) := hc 3 (by decide)
  have hbw := Below.chain hbA hb1
  clear hc r1 h1 hbA hb1 hrA
  go_wp2_with fail
  clear c0 c1 c2 c3
  have hm1 := hr2.below hbw
  rcases ways m with cA | ⟨cC1, cC2, cC3, cC4⟩ | ⟨cD1, cD2, cD3, cD4, cD5, cD6⟩
  all_goals (first
    | (refine (inv_no a1 cap1 m w1 z2 hm1 cA).mono ?_
       rintro e w5 ⟨rfl, hb5⟩
       have hB := Below.chain hbw hb5
       go_wp2_with fail)
    | (refine (inv_ok a1 cap1 m w1 z2 hq hm1 cC1).mono ?_
       rintro e w2 ⟨v2, rfl, h2, hb2⟩
       obtain ⟨p2, q2, rfl, r2⟩ := h2.row
       go_wp2_with fail
       refine (snd_no p2 q2 (unlap m) w2 (by rw [unhide cC2]; exact cC3) cC4 r2).mono ?_
       rintro e w5 ⟨rfl, hb5⟩
       have hB := Below.chain hbw (Below.chain hb2 hb5)
       go_wp2_with fail)
    | (refine (inv_ok a1 cap1 m w1 z2 hq hm1 cD1).mono ?_
       rintro e w2 ⟨v2, rfl, h2, hb2⟩
       obtain ⟨p2, q2, rfl, r2⟩ := h2.row
       go_wp2_with fail
       refine (snd_ok p2 q2 (unlap m) w2 (by rw [unhide cD2]; exact cD3) cD4 r2).mono ?_
       rintro e w3 ⟨rfl, hb3⟩
       go_wp2_with fail
       refine (fwd_ok p2 q2 (unlap m) w3 (by rw [unhide cD2]; exact z2) (r2.below hb3) cD5).mono ?_
       rintro e w4 ⟨v4, rfl, h4, hb4⟩
       rw [unhide cD6] at h4
       obtain ⟨p4, q4, rfl, r4⟩ := h4.row
       have hB4 := Below.chain hbw (Below.chain hb2 (Below.chain hb3 hb4))
       go_wp2_with fail
       refine (ints_same p4 q4 a1 cap1 m w4 z2 r4 (hr2.below hB4)).mono ?_
       rintro e w5 ⟨rfl, hb5⟩
       have hB := Below.chain hB4 hb5
       go_wp2_with fail))
  all_goals
    have hl5 := hr0.below hB
    by_cases hch : chk l 1000 = 0
  all_goals (first
    | (have HC : Hid (chk l 1000 = 0) := hide hch
       obtain ⟨y1, y2, y3⟩ := chk_zero hch
       have HT := hide (lap_length y2)
       have HU := hide (unlap_lap y2)
       have HI : Hid (chk (lap l) 4000 = 0) := hide (chk_of (by rw [unhide HT]; exact y1) (by rw [unhide HT]; exact y2) ((lap_in (by omega) y3).mono (by omega)))
       clear hch y2
       refine (fwd_ok a0 cap0 l w5 z0 hl5 HC).mono ?_
       rintro e w6 ⟨v6, rfl, h6, hb6⟩
       obtain ⟨p6, q6, rfl, r6⟩ := h6.row
       have hinv := inv_ok p6 q6 (lap l) w6 (by rw [unhide HT]; exact z0) (has_roomy h6) r6 HI
       rw [unhide HT, unhide HU] at hinv
       rw [unhide HT]
       go_wp2_with fail
       refine hinv.mono ?_
       clear hinv
       rintro e w7 ⟨v7, rfl, h7, hb7⟩
       obtain ⟨p7, q7, rfl, r7⟩ := h7.row
       have hB7 := Below.chain hB (Below.chain hb6 hb7)
       go_wp2_with fail
       refine (ints_same p7 q7 a0 cap0 l w7 z0 r7 (hr0.below hB7)).mono ?_
       rintro e w8 ⟨rfl, hb8⟩
       have hB8 := Below.chain hB7 hb8
       clear hl5 r6 r7 h6 h7 hb6 hb7 hb8 hB7 hB hbw hm1)
    | (have HC : Hid (chk l 1000 ≠ 0) := hide hch
       clear hch
       refine (fwd_no a0 cap0 l w5 z0 hl5 HC).mono ?_
       rintro e w8 ⟨rfl, hb8⟩
       have hB8 := Below.chain hB hb8
       clear hl5 hb8 hB hbw hm1))
  all_goals
    obtain ⟨N, hN⟩ : ∃ N, N = 2 * M := ⟨_, rfl⟩
    have hN2 : 2 * (M : Int) = (N : Int) := by omega
    have hN3 : N ≤ 32 := by omega
    have hN4 : M + 1 ≤ N := by omega
    obtain ⟨K, hK⟩ : ∃ K, K + 1 = N := ⟨N - 1, by omega⟩
    have hK2 : (N : Int) - 1 = (K : Int) := by omega
    have HR := hide (rise_chk f0 f1 b0 b1 M2)
    have HZ : Hid (∀ i, i < M → at0 (lap (rise f b N)) (M + i) = if i + 1 < M then 0 else b) := hide (by rw [hN]; exact fun i hi => rise_dif f b M i hi)
    rw [← hN] at HR
    have HL : Hid ((rise f b N).length = N) := hide (upto_length _ _)
    have HLL : Hid ((lap (rise f b N)).length = N) := hide (by rw [lap_length (by rw [unhide HL]; omega)]; exact unhide HL)
    have HN := hide hN
    have HK := hide hK
    clear hN hK
    go_wp2
    go_loopw [20, 21] (fun v i wr => ∃ j : Nat, j ≤ N ∧ i = .int .i64 j ∧ Has wr w.heap.size v (rise f b j) ∧ Below w.heap.size w wr) (fun _ i _ => N - (intOf i).toNat)
    case atStart => exact ⟨0, Nat.zero_le _, rfl, Has.nil _ _, hB8⟩
    case round =>
      obtain ⟨j, hj, rfl, h9, hB9⟩ := hrel
      clear hB8
      by_cases hlt : j < N
      · obtain ⟨t0, t1⟩ := times_in (j := j) b0 b1 (by omega)
        have er : Hid (rise f b (j + 1) = rise f b j ++ [f + j * b]) := hide (upto_succ _ _)
        obtain ⟨P, hP⟩ : ∃ P, (j : Int) * b = P := ⟨_, rfl⟩
        rw [hP] at t0 t1 er
        have hwp : IntKind.i64.wrap ((j : Int) * b) = P := by rw [hP]; exact IntWalk.i64_in _ (by omega)
        have hln : Hid ((rise f b j).length + 1 ≤ 1000000) := hide (by have : (rise f b j).length = j := upto_length _ _; omega)
        have hWs := hB9.size
        clear hP
        go_wp2_with (at_builtin; refine wpList_app _ rfl _ _ rfl w.heap.size u20 (rise f b j) [f + P] _ _ rfl (h9.alloc _) rfl (row_one _ _ _) (unhide hln) (by simp; omega) ?_; intro s' w1 k1 g1 at1)
        obtain ⟨d1, d2⟩ := stepped_plain h9 hWs k1 g1 at1
        go_wp2
        go_roundw
        case rel => exact ⟨j + 1, by omega, by go_num, by rw [unhide er]; exact k1, hB9.trans d1⟩
        case measure => simp [intOf]; omega
      · obtain rfl : j = N := by omega
        obtain ⟨p9, q9, rfl, r9⟩ := h9.row
        have hfw := fwd_ok p9 q9 (rise f b j) wr (by rw [unhide HL]; omega) r9 HR
        rw [unhide HL] at hfw ⊢
        go_wp2_with fail
        refine hfw.mono ?_
        clear hfw
        rintro e w10 ⟨v10, rfl, h10, hb10⟩
        have hB10 := hB9.trans (hb10.mono hB9.size)
        obtain ⟨p10, q10, rfl, r10⟩ := h10.row
        obtain ⟨g9, off9, rfl, hc9⟩ := row_cell r10 (by rw [unhide HLL]; omega)
        rw [unhide HLL]
        have HC9 : Hid (∀ k, k < j → w10.cell? ⟨g9, off9 + k, none⟩ = some (.int .i64 (at0 (lap (rise f b j)) k))) := hide (by rw [unhide HLL] at hc9; exact hc9)
        clear hc9 r10 h10 r9 h9 hB9
        have hne : ((j : Int) == (j : Int)) = true := by simp
        go_wp2
        go_loop [23] (fun i => ∃ k : Nat, M ≤ k ∧ k ≤ K ∧ i = .int .i64 k) (fun i => K - (intOf i).toNat)
        case atStart => exact ⟨M, Nat.le_refl _, by have := unhide HK; omega, rfl⟩
        case round =>
          obtain ⟨k, hk1, hk2, rfl⟩ := hrel
          by_cases hlt : k < K
          · have hcz : w10.cell? ⟨g9, off9 + k, none⟩ = some (.int .i64 0) := by
              rw [unhide HC9 k (by have := unhide HK; omega)]
              have := unhide HZ (k - M) (by have := unhide HN; have := unhide HK; omega)
              rw [if_pos (by have := unhide HN; have := unhide HK; omega), Nat.add_sub_cancel' hk1] at this
              rw [this]
            have hkj : k < j := by have := unhide HK; omega
            go_wp2
            go_round
            case rel => exact ⟨k + 1, by omega, by omega, by go_num⟩
            case measure => simp [intOf]; omega
          · obtain rfl : k = K := by omega
            have hcz : w10.cell? ⟨g9, off9 + k, none⟩ = some (.int .i64 b) := by
              rw [unhide HC9 k (by have := unhide HK; omega)]
              have := unhide HZ (k - M) (by have := unhide HN; have := unhide HK; omega)
              rw [if_neg (by have := unhide HN; have := unhide HK; omega), Nat.add_sub_cancel' hk1] at this
              rw [this]
            have hkj : k < j := by have := unhide HK; omega
            have hbb : (b == b) = true := by simp
            go_wp2
            go_ret
            exact ⟨by simp, hB10⟩

end Go.Proofs.Ythlfckblhpdknab.LapBackLaw
