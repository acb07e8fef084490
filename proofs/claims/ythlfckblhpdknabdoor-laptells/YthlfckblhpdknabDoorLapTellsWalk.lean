/-
  The walk of hornlaw1.LapTells.
-/
import Derived.Test.YthlfckblhpdknabDoorLapFwd
import Derived.Test.YthlfckblhpdknabDoorLapInv
import Derived.Test.YthlfckblhpdknabDoorRefLap
import Derived.Test.YthlfckblhpdknabDoorRefUnlap
import Derived.Test.YthlfckblhpdknabDoorRefAll
import Derived.Test.YthlfckblhpdknabDoorInts
import Derived.Test.YthlfckblhpdknabDoorTold
namespace Go.Proofs.YthlfckblhpdknabDoor.LapTellsLaw
open Go.RowKit
open Go.Proofs.YthlfckblhpdknabDoor.Tre Go.Proofs.YthlfckblhpdknabDoor.Lap Go.Proofs.YthlfckblhpdknabDoor.Same Go.Proofs.YthlfckblhpdknabDoor.Aser
set_option linter.unusedVariables false

theorem ints_nil (w : World) : Calls Tryd.prog 10 #[.slice none 0 0, .slice none 0 0] w fun e w' => e = .returned (.bool true) ∧ Below w.heap.size w w' :=
  ints_same none 0 none 0 [] w (by simp) (Or.inl rfl) (Or.inl rfl)

/-- Wrong by its shape. -/
theorem walk_shape (e : Int) (a : Option Addr) (cap : Nat) (l : List Int) (w : World) (hL : Laid w) (hr : Row w a l) (hz : l.length ≤ 9223372036854775807) (he : (32 < l.length ∧ e = 4) ∨ (l.length ≤ 32 ∧ l.length % 2 = 1 ∧ e = 3)) :
    Calls Tryd.prog 4 #[.slice a l.length cap] w fun e w' => e = .returned (.bool true) ∧ Below w.heap.size w w' := by
  have e1 : Hid (shp l.length = e) := hide (by
    unfold shp
    rcases he with ⟨h1, h2⟩ | ⟨h1, h2, h3⟩
    · rw [if_pos h1, h2]
    · rw [if_neg (by omega), if_pos (by omega), h3])
  have e2 : Hid (shp l.length ≠ 0) := hide (by rw [unhide e1]; omega)
  have d1 : Hid (chk l 1000 = e) := hide ((chk_shp (unhide e2)).trans (unhide e1))
  have d2 : Hid (chk l 4000 = e) := hide ((chk_shp (unhide e2)).trans (unhide e1))
  have f1 : Hid (chk l 1000 ≠ 0) := hide (by rw [unhide d1]; omega)
  have f2 : Hid (chk l 4000 ≠ 0) := hide (by rw [unhide d2]; omega)
  clear e1 e2
  have hmod : Int.tmod (l.length : Int) 2 = ((l.length % 2 : Nat) : Int) := rfl
  obtain ⟨b1, hb1⟩ : ∃ b, (!l.any (out 1000)) = b := ⟨_, rfl⟩
  obtain ⟨b2, hb2⟩ : ∃ b, (!l.any (out 4000)) = b := ⟨_, rfl⟩
  have B1 := hide hb1
  have B2 := hide hb2
  clear hb1 hb2
  rcases he with ⟨h1, rfl⟩ | ⟨h1, h2, rfl⟩
  all_goals
    go_enter Tryd.func4, Tryd.ntmps4
    go_wp2_with fail
    refine (refAll 1000 a cap l w (by omega) (by omega) hz hr).mono ?_
    rw [unhide B1]
    rintro e w1 ⟨rfl, rfl⟩
    go_wp2_with fail
    refine (fwd_no a cap l _ hz hr f1).mono ?_
    rw [unhide d1]
    rintro e w2 ⟨rfl, hb2⟩
    go_wp2_with fail
    refine (error_is _ w2 (hL.below hb2)).mono ?_
    rintro e w3 ⟨rfl, hb3⟩
    have hB3 := Below.chain hb2 hb3
    go_wp2_with fail
    refine (ints_nil w3).mono ?_
    rintro e w4 ⟨rfl, hb4⟩
    have hB4 := Below.chain hB3 hb4
    have hr4 := hr.below hB4
    go_wp2_with fail
    refine (refAll 4000 a cap l w4 (by omega) (by omega) hz hr4).mono ?_
    rw [unhide B2]
    rintro e w5 ⟨rfl, rfl⟩
    go_wp2_with fail
    refine (inv_no a cap l _ hz hr4 f2).mono ?_
    rw [unhide d2]
    rintro e w6 ⟨rfl, hb6⟩
    have hB6 := Below.chain hB4 hb6
    go_wp2_with fail
    refine (error_is _ w6 (hL.below hB6)).mono ?_
    rintro e w7 ⟨rfl, hb7⟩
    go_wp2_with fail
    refine (ints_nil w7).mono ?_
    rintro e w8 ⟨rfl, hb8⟩
    go_wp2
    go_ret
    exact ⟨rfl, Below.chain hB6 (Below.chain hb7 hb8)⟩

set_option maxRecDepth 100000 in
set_option maxHeartbeats 8000000 in
theorem walk_range (a : Option Addr) (cap : Nat) (l : List Int) (w : World) (hL : Laid w) (hr : Row w a l) (hq : Lap.Roomy a l.length cap) (hl : l.length ≤ 32) (hm : l.length % 2 = 0) :
    Calls Tryd.prog 4 #[.slice a l.length cap] w fun e w' => e = .returned (.bool true) ∧ Below w.heap.size w w' := by
  have hz : l.length ≤ 9223372036854775807 := by omega
  have e1 : Hid (shp l.length = 0) := hide (by unfold shp; rw [if_neg (by omega), if_neg (by omega)])
  have he : Hid (l.length = 2 * (l.length / 2)) := hide (by omega)
  have hmod : Int.tmod (l.length : Int) 2 = ((l.length % 2 : Nat) : Int) := rfl
  have W : (Hid (l.any (out 1000) = true) ∧ Hid (chk l 1000 = 1) ∧ Hid (chk l 1000 ≠ 0)) ∨ (Hid (l.any (out 1000) = false) ∧ Hid (chk l 1000 = 0) ∧ In 1000 l) := by
    have h := chk_any (l := l) (b := 1000) (unhide e1)
    cases ha : l.any (out 1000) with
    | true => rw [if_pos ha] at h; exact Or.inl ⟨rfl, h, by show chk l 1000 ≠ 0; rw [h]; omega⟩
    | false => rw [if_neg (by rw [ha]; simp)] at h; exact Or.inr ⟨rfl, h, in_of_any ha⟩
  have W4 : (Hid (l.any (out 4000) = true) ∧ Hid (chk l 4000 = 1) ∧ Hid (chk l 4000 ≠ 0)) ∨ (Hid (l.any (out 4000) = false) ∧ Hid (chk l 4000 = 0) ∧ In 4000 l) := by
    have h := chk_any (l := l) (b := 4000) (unhide e1)
    cases ha : l.any (out 4000) with
    | true => rw [if_pos ha] at h; exact Or.inl ⟨rfl, h, by show chk l 4000 ≠ 0; rw [h]; omega⟩
    | false => rw [if_neg (by rw [ha]; simp)] at h; exact Or.inr ⟨rfl, h, in_of_any ha⟩
  go_enter Tryd.func4, Tryd.ntmps4
  go_wp2_with fail
  refine (refAll 1000 a cap l w (by omega) (by omega) hz hr).mono ?_
  rcases W with ⟨cA1, cA2, cA3⟩ | ⟨cB1, cB2, cB3⟩
  all_goals (first
    | (rw [unhide cA1]
       rintro e w1 ⟨rfl, rfl⟩
       go_wp2_with fail
       refine (fwd_no a cap l _ hz hr cA3).mono ?_
       rw [unhide cA2]
       rintro e w2 ⟨rfl, hb2⟩
       go_wp2_with fail
       refine (error_is _ w2 (hL.below hb2)).mono ?_
       rintro e w3 ⟨rfl, hb3⟩
       have hB3 := Below.chain hb2 hb3
       go_wp2_with fail
       refine (ints_nil w3).mono ?_
       rintro e w4 ⟨rfl, hb4⟩
       have hB4 := Below.chain hB3 hb4
       go_wp2_with fail)
    | (rw [unhide cB1]
       rintro e w1 ⟨rfl, rfl⟩
       have htl := hide (lap_length (unhide he))
       go_wp2_with fail
       refine (refLap a cap l _ hl he cB3 hr).mono ?_
       rintro e w2 ⟨v2, rfl, h2, hb2⟩
       obtain ⟨p2, q2, rfl, r2⟩ := h2.row
       go_wp2_with fail
       refine (fwd_ok a cap l w2 hz (hr.below hb2) cB2).mono ?_
       rintro e w3 ⟨v3, rfl, h3, hb3⟩
       obtain ⟨p3, q3, rfl, r3⟩ := h3.row
       go_wp2_with fail
       refine (error_nil w3).mono ?_
       rintro e w3' ⟨rfl, rfl⟩
       have hB3 := Below.chain hb2 hb3
       go_wp2_with fail
       refine (ints_same p3 q3 p2 q2 (lap l) _ (by rw [unhide htl]; exact hz) r3 (r2.below hb3)).mono ?_
       rintro e w4 ⟨rfl, hb4⟩
       have hB4 := Below.chain hB3 hb4
       go_wp2_with fail))
  all_goals
    have hr4 := hr.below hB4
    have hL4 := hL.below hB4
    refine (refAll 4000 a cap l w4 (by omega) (by omega) hz hr4).mono ?_
    rcases W4 with ⟨dA1, dA2, dA3⟩ | ⟨dB1, dB2, dB3⟩
  all_goals (first
    | (rw [unhide dA1]
       rintro e w5 ⟨rfl, rfl⟩
       go_wp2_with fail
       refine (inv_no a cap l _ hz hr4 dA3).mono ?_
       rw [unhide dA2]
       rintro e w6 ⟨rfl, hb6⟩
       go_wp2_with fail
       refine (error_is _ w6 (hL4.below hb6)).mono ?_
       rintro e w7 ⟨rfl, hb7⟩
       go_wp2_with fail
       refine (ints_nil w7).mono ?_
       rintro e w8 ⟨rfl, hb8⟩
       go_wp2
       go_ret
       exact ⟨rfl, Below.chain hB4 (Below.chain hb6 (Below.chain hb7 hb8))⟩)
    | (rw [unhide dB1]
       rintro e w5 ⟨rfl, rfl⟩
       have htl := hide (unlap_length (unhide he))
       go_wp2_with fail
       refine (refUnlap a cap l _ hl he dB3 hr4).mono ?_
       rintro e w6 ⟨v6, rfl, h6, hb6⟩
       obtain ⟨p6, q6, rfl, r6⟩ := h6.row
       go_wp2_with fail
       refine (inv_ok a cap l w6 hz hq (hr4.below hb6) dB2).mono ?_
       rintro e w7 ⟨v7, rfl, h7, hb7⟩
       obtain ⟨p7, q7, rfl, r7⟩ := h7.row
       go_wp2_with fail
       refine (error_nil w7).mono ?_
       rintro e w7' ⟨rfl, rfl⟩
       go_wp2_with fail
       refine (ints_same p7 q7 p6 q6 (unlap l) _ (by rw [unhide htl]; exact hz) r7 (r6.below hb7)).mono ?_
       rintro e w8 ⟨rfl, hb8⟩
       go_wp2
       go_ret
       exact ⟨rfl, Below.chain hB4 (Below.chain hb6 (Below.chain hb7 hb8))⟩))

theorem walk (a : Option Addr) (cap : Nat) (l : List Int) (w : World) (hL : Laid w) (hr : Row w a l) (hw : ∀ n ∈ l, (Lit.int .i64 n).wf = true) (hz : l.length * 8 ≤ 140737488351232) (hq : (a = none → cap = 0) ∧ l.length ≤ cap ∧ cap ≤ 9223372036854775807) :
    Calls Tryd.prog 4 #[.slice a l.length cap] w fun e w' => e = .returned (.bool true) ∧ Below w.heap.size w w' := by
  by_cases h1 : 32 < l.length
  · exact walk_shape 4 a cap l w hL hr (by omega) (Or.inl ⟨h1, rfl⟩)
  · by_cases h2 : l.length % 2 = 0
    · exact walk_range a cap l w hL hr hq (by omega) h2
    · exact walk_shape 3 a cap l w hL hr (by omega) (Or.inr ⟨by omega, by omega, rfl⟩)

end Go.Proofs.YthlfckblhpdknabDoor.LapTellsLaw
