/-
  The walk of hornlaw1.LapBack, where the numbers that rise evenly are out of bounds.
-/
import Derived.Test.YthlfckblhpdknabLapBackOne
namespace Go.Proofs.Ythlfckblhpdknab.LapBackLaw
open Go.RowKit
open Go.Proofs.Ythlfckblhpdknab.Tre Go.Proofs.Ythlfckblhpdknab.Lap Go.Proofs.Ythlfckblhpdknab.Same
set_option linter.unusedVariables false

set_option maxRecDepth 100000 in
set_option maxHeartbeats 16000000 in
theorem walk_out (a0 : Option Addr) (cap0 : Nat) (l : List Int) (a1 : Option Addr) (cap1 : Nat) (m : List Int) (f b n : Int) (w : World) (hr0 : Row w a0 l) (z0 : l.length ≤ 9223372036854775807) (hr2 : Row w a1 m) (z2 : m.length ≤ 9223372036854775807) (hq : Lap.Roomy a1 m.length cap1)
    (hf0 : -9223372036854775808 ≤ f) (hf1 : f ≤ 9223372036854775807) (hb0 : -9223372036854775808 ≤ b) (hb1 : b ≤ 9223372036854775807) (hn0 : -9223372036854775808 ≤ n) (hn1 : n ≤ 9223372036854775807) (hout : Outs f b n) :
    Calls Try.prog 6 #[.slice a0 l.length cap0, .slice a1 m.length cap1, .int .i64 f, .int .i64 b, .int .i64 n] w fun e w' => e = .returned (.bool true) ∧ Below w.heap.size w w' := by
  have hbA : Below w.heap.size w (w.alloc (.cells #[.int .i64 1, .int .i64 5, .int .i64 3, .int .i64 4] 3)) := (Below.refl _ _).alloc (Nat.le_refl _) _
  have hrA := four_row w 3
  go_enter Try.func6, Try.ntmps6
  go_wp2_with fail
  refine (fwd_ok (some ⟨w.heap.size, 0, none⟩) 4 [1, 5, 3, 4] _ (by decide) hrA (hide rfl)).mono ?_
  rintro e w1 ⟨v1, rfl, h1, hb1⟩
  have et : lap [1, 5, 3, 4] = [3, 4, 3, 1] := by decide
  rw [et] at h1
  clear et
  obtain ⟨p1, q1, rfl, r1⟩ := h1.row
  obtain ⟨g, off, rfl, hc⟩ := row_cell r1 (by decide)
  have c0 : w1.cell? ⟨g, off, none⟩ = some (.int .i64 3) := hc 0 (by decide)
  have c1 : w1.cell? ⟨g, off + 1, none⟩ = some (.int .i64 4) := hc 1 (by decide)
  have c2 : w1.cell? ⟨g, off + 2, none⟩ = some (.int .i64 3) := hc 2 (by decide)
  have c3 : w1.cell? ⟨g, off + 3, none⟩ = some (.int .i64 1) := hc 3 (by decide)
  have hbw := Below.chain hbA hb1
  clear hc r1 h1 hbA hb1 hrA
  go_wp2_with fail
  clear c0 c1 c2 c3
  have hm1 := hr2.below hbw
  rcases ways m with cA | ⟨cC1, cC2, cC3, cC4⟩ | ⟨cD1, cD2, cD3, cD4, cD5, cD6⟩
  all_goals (first
    | (refine (inv_no a1 cap1 m w1 z2 hm1 cA).mono ?_
       rintro e w5 ⟨rfl, hb5⟩
       have hB := Below.chain hbw hb5
       go_wp2_with fail)
    | (refine (inv_ok a1 cap1 m w1 z2 hq hm1 cC1).mono ?_
       rintro e w2 ⟨v2, rfl, h2, hb2⟩
       obtain ⟨p2, q2, rfl, r2⟩ := h2.row
       go_wp2_with fail
       refine (snd_no p2 q2 (unlap m) w2 (by rw [unhide cC2]; exact cC3) cC4 r2).mono ?_
       rintro e w5 ⟨rfl, hb5⟩
       have hB := Below.chain hbw (Below.chain hb2 hb5)
       go_wp2_with fail)
    | (refine (inv_ok a1 cap1 m w1 z2 hq hm1 cD1).mono ?_
       rintro e w2 ⟨v2, rfl, h2, hb2⟩
       obtain ⟨p2, q2, rfl, r2⟩ := h2.row
       go_wp2_with fail
       refine (snd_ok p2 q2 (unlap m) w2 (by rw [unhide cD2]; exact cD3) cD4 r2).mono ?_
       rintro e w3 ⟨rfl, hb3⟩
       go_wp2_with fail
       refine (fwd_ok p2 q2 (unlap m) w3 (by rw [unhide cD2]; exact z2) (r2.below hb3) cD5).mono ?_
       rintro e w4 ⟨v4, rfl, h4, hb4⟩
       rw [unhide cD6] at h4
       obtain ⟨p4, q4, rfl, r4⟩ := h4.row
       have hB4 := Below.chain hbw (Below.chain hb2 (Below.chain hb3 hb4))
       go_wp2_with fail
       refine (ints_same p4 q4 a1 cap1 m w4 z2 r4 (hr2.below hB4)).mono ?_
       rintro e w5 ⟨rfl, hb5⟩
       have hB := Below.chain hB4 hb5
       go_wp2_with fail))
  all_goals
    have hl5 := hr0.below hB
    by_cases hch : chk l 1000 = 0
  all_goals (first
    | (have HC : Hid (chk l 1000 = 0) := hide hch
       obtain ⟨y1, y2, y3⟩ := chk_zero hch
       have HT := hide (lap_length y2)
       have HU := hide (unlap_lap y2)
       have HI : Hid (chk (lap l) 4000 = 0) := hide (chk_of (by rw [unhide HT]; exact y1) (by rw [unhide HT]; exact y2) ((lap_in (by omega) y3).mono (by omega)))
       clear hch y2
       refine (fwd_ok a0 cap0 l w5 z0 hl5 HC).mono ?_
       rintro e w6 ⟨v6, rfl, h6, hb6⟩
       obtain ⟨p6, q6, rfl, r6⟩ := h6.row
       have hinv := inv_ok p6 q6 (lap l) w6 (by rw [unhide HT]; exact z0) (has_roomy h6) r6 HI
       rw [unhide HT, unhide HU] at hinv
       rw [unhide HT]
       go_wp2_with fail
       refine hinv.mono ?_
       clear hinv
       rintro e w7 ⟨v7, rfl, h7, hb7⟩
       obtain ⟨p7, q7, rfl, r7⟩ := h7.row
       have hB7 := Below.chain hB (Below.chain hb6 hb7)
       go_wp2_with fail
       refine (ints_same p7 q7 a0 cap0 l w7 z0 r7 (hr0.below hB7)).mono ?_
       rintro e w8 ⟨rfl, hb8⟩
       have hB8 := Below.chain hB7 hb8
       clear hl5 r6 r7 h6 h7 hb6 hb7 hb8 hB7 hB hbw hm1)
    | (have HC : Hid (chk l 1000 ≠ 0) := hide hch
       clear hch
       refine (fwd_no a0 cap0 l w5 z0 hl5 HC).mono ?_
       rintro e w8 ⟨rfl, hb8⟩
       have hB8 := Below.chain hB hb8
       clear hl5 hb8 hB hbw hm1))
  all_goals
    rcases hout with o1 | ⟨o1, o2⟩ | ⟨o1, o2, o3⟩ | ⟨o1, o2, o3, o4⟩ | ⟨o1, o2, o3, o4, o5⟩ | ⟨o1, o2, o3, o4, o5, o6⟩
  all_goals
    go_wp2
    go_ret
    exact ⟨rfl, hB8⟩

end Go.Proofs.Ythlfckblhpdknab.LapBackLaw
