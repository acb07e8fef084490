/-
  The walk of hornlaw1.TreeTells.
-/
import Derived.Test.YtcodgebchmhobabDoorRefBack
import Derived.Test.YtcodgebchmhobabDoorInts
import Derived.Test.YtcodgebchmhobabDoorTold
namespace Go.Proofs.YtcodgebchmhobabDoor.TreeTellsLaw
open Go.RowKit
open Go.Proofs.YtcodgebchmhobabDoor.Tre Go.Proofs.YtcodgebchmhobabDoor.Same Go.Proofs.YtcodgebchmhobabDoor.Aser
set_option linter.unusedVariables false

theorem ints_nil (w : World) : Calls Tryd.prog 9 #[.slice none 0 0, .slice none 0 0] w fun e w' => e = .returned (.bool true) ∧ Below w.heap.size w w' :=
  ints_same none 0 none 0 [] w (by simp) (Or.inl rfl) (Or.inl rfl)

/-- The ways of a list and so many levels: wrong by these; else wrong by a number; else right. -/
theorem three (l : List Int) (k : Nat) (b : Int) : (Hid (lvl l.length k ≠ 0) ∧ Hid (chk l k b ≠ 0) ∧ Hid (chk l k b = lvl l.length k)) ∨
    (Hid (lvl l.length k = 0) ∧ Hid (l.any (out b) = true) ∧ Hid (chk l k b ≠ 0) ∧ Hid (chk l k b = 1)) ∨
    (Hid (lvl l.length k = 0) ∧ Hid (l.any (out b) = false) ∧ Hid (chk l k b = 0) ∧ l.length ≤ 32 ∧ k ≤ 5 ∧ Hid (2 ^ k ∣ l.length) ∧ In b l) := by
  by_cases h : lvl l.length k = 0
  · have h2 := chk_any (l := l) (b := b) h
    cases ha : l.any (out b) with
    | true =>
      rw [if_pos ha] at h2
      exact Or.inr (Or.inl ⟨h, rfl, by show chk l k b ≠ 0; rw [h2]; omega, h2⟩)
    | false =>
      rw [if_neg (by rw [ha]; simp)] at h2
      obtain ⟨z1, z2, z3, z4, z5⟩ := chk_zero h2
      exact Or.inr (Or.inr ⟨h, rfl, h2, z1, by omega, hide (by simpa using z4), z5⟩)
  · have h2 := chk_lvl (b := b) h
    exact Or.inl ⟨h, by show chk l k b ≠ 0; rw [h2]; exact h, h2⟩

set_option maxRecDepth 100000 in
set_option maxHeartbeats 8000000 in
theorem walk_nat (a0 : Option Addr) (cap0 : Nat) (l : List Int) (k : Nat) (a2 : Option Addr) (cap2 : Nat) (m : List Int) (w : World) (hL : Laid w) (hr0 : Row w a0 l) (z0 : l.length ≤ 9223372036854775807) (hr2 : Row w a2 m) (z2 : m.length ≤ 9223372036854775807) (hq : Tre.Roomy a2 m.length cap2) :
    Calls Tryd.prog 3 #[.slice a0 l.length cap0, .int .i64 k, .slice a2 m.length cap2] w fun e w' => e = .returned (.bool true) ∧ Below w.heap.size w w' := by
  rcases three l k 1000 with ⟨cA1, cA2, cA3⟩ | ⟨cB1, cB2, cB3, cB4⟩ | ⟨cC1, cC2, cC3, cC4, cC5, cC6, cC7⟩
  all_goals
    go_enter Tryd.func3, Tryd.ntmps3
    go_wp2_with fail
    refine (refLevels l.length k w z0).mono ?_
  all_goals (first
    | (have hne : (lvl l.length k == 0) = false := by simpa using unhide cA1
       rintro e w1 ⟨rfl, rfl⟩
       go_wp2_with fail
       refine (fwd_no a0 cap0 l k w1 z0 hr0 cA2).mono ?_
       rw [unhide cA3]
       rintro e w3 ⟨rfl, hb3⟩
       go_wp2_with fail
       refine (error_is (lvl l.length k) w3 (hL.below hb3)).mono ?_
       rintro e w4 ⟨rfl, hb4⟩
       have hB4 := Below.chain hb3 hb4
       go_wp2_with fail
       refine (ints_nil w4).mono ?_
       rintro e w5 ⟨rfl, hb5⟩
       have hB := Below.chain hB4 hb5
       go_wp2_with fail
       clear hne)
    | (rw [unhide cB1]
       rintro e w1 ⟨rfl, rfl⟩
       go_wp2_with fail
       refine (refAll 1000 a0 cap0 l w1 (by omega) (by omega) z0 hr0).mono ?_
       rw [unhide cB2]
       rintro e w2 ⟨rfl, rfl⟩
       go_wp2_with fail
       refine (fwd_no a0 cap0 l k w2 z0 hr0 cB3).mono ?_
       rw [unhide cB4]
       rintro e w3 ⟨rfl, hb3⟩
       go_wp2_with fail
       refine (error_is 1 w3 (hL.below hb3)).mono ?_
       rintro e w4 ⟨rfl, hb4⟩
       have hB4 := Below.chain hb3 hb4
       go_wp2_with fail
       refine (ints_nil w4).mono ?_
       rintro e w5 ⟨rfl, hb5⟩
       have hB := Below.chain hB4 hb5
       go_wp2_with fail)
    | (rw [unhide cC1]
       rintro e w1 ⟨rfl, rfl⟩
       go_wp2_with fail
       refine (refAll 1000 a0 cap0 l w1 (by omega) (by omega) z0 hr0).mono ?_
       rw [unhide cC2]
       rintro e w2 ⟨rfl, rfl⟩
       go_wp2_with fail
       refine (refTree k a0 cap0 l w2 cC5 cC4 cC6 cC7 hr0).mono ?_
       rintro e w3 ⟨p3, n3, q3, rfl, hn3, r3, hb3⟩
       have htl := hide (tree_length k l (unhide cC6))
       rw [unhide hn3]
       go_wp2_with fail
       refine (fwd_ok a0 cap0 l k w3 z0 (hr0.below hb3) cC3).mono ?_
       rintro e w4 ⟨v4, rfl, h4, hb4⟩
       obtain ⟨p4, q4, rfl, r4⟩ := h4.row
       go_wp2_with fail
       refine (error_nil w4).mono ?_
       rintro e w4' ⟨rfl, rfl⟩
       have hB4 := Below.chain hb3 hb4
       go_wp2_with fail
       refine (ints_same p4 q4 p3 q3 (tree k l) w4' (by rw [unhide htl]; exact z0) r4 (r3.below hb4)).mono ?_
       rintro e w5 ⟨rfl, hb5⟩
       have hB := Below.chain hB4 hb5
       go_wp2_with fail))
  all_goals
    have hL5 := hL.below hB
    have hm5 := hr2.below hB
    clear hB4 hb5
    rcases three m k 2000 with ⟨dA1, dA2, dA3⟩ | ⟨dB1, dB2, dB3, dB4⟩ | ⟨dC1, dC2, dC3, dC4, dC5, dC6, dC7⟩
  all_goals (refine (refLevels m.length k w5 z2).mono ?_)
  all_goals (first
    | (have hne : (lvl m.length k == 0) = false := by simpa using unhide dA1
       rintro e w6 ⟨rfl, rfl⟩
       go_wp2_with fail
       refine (inv_no a2 cap2 m k w6 z2 hm5 dA2).mono ?_
       rw [unhide dA3]
       rintro e w7 ⟨rfl, hb7⟩
       go_wp2_with fail
       refine (error_is (lvl m.length k) w7 (hL5.below hb7)).mono ?_
       rintro e w8 ⟨rfl, hb8⟩
       go_wp2_with fail
       refine (ints_nil w8).mono ?_
       rintro e w9 ⟨rfl, hb9⟩
       go_wp2
       go_ret
       exact ⟨rfl, Below.chain hB (Below.chain hb7 (Below.chain hb8 hb9))⟩)
    | (rw [unhide dB1]
       rintro e w6 ⟨rfl, rfl⟩
       go_wp2_with fail
       refine (refAll 2000 a2 cap2 m w6 (by omega) (by omega) z2 hm5).mono ?_
       rw [unhide dB2]
       rintro e w6' ⟨rfl, rfl⟩
       go_wp2_with fail
       refine (inv_no a2 cap2 m k w6' z2 hm5 dB3).mono ?_
       rw [unhide dB4]
       rintro e w7 ⟨rfl, hb7⟩
       go_wp2_with fail
       refine (error_is 1 w7 (hL5.below hb7)).mono ?_
       rintro e w8 ⟨rfl, hb8⟩
       go_wp2_with fail
       refine (ints_nil w8).mono ?_
       rintro e w9 ⟨rfl, hb9⟩
       go_wp2
       go_ret
       exact ⟨rfl, Below.chain hB (Below.chain hb7 (Below.chain hb8 hb9))⟩)
    | (rw [unhide dC1]
       rintro e w6 ⟨rfl, rfl⟩
       go_wp2_with fail
       refine (refAll 2000 a2 cap2 m w6 (by omega) (by omega) z2 hm5).mono ?_
       rw [unhide dC2]
       rintro e w6' ⟨rfl, rfl⟩
       go_wp2_with fail
       cases hbk : back k m with
       | none =>
         have HB := hide hbk
         clear hbk
         refine (refBack_none a2 cap2 m k w6' dC5 dC4 dC6 dC7 hq hm5 HB).mono ?_
         rintro e w7 ⟨rfl, hb7⟩
         go_wp2_with fail
         refine (inv_bad a2 cap2 m k w7 z2 (hm5.below hb7) dC3 HB).mono ?_
         rintro e w8 ⟨rfl, hb8⟩
         have hb78 := Below.chain hb7 hb8
         go_wp2_with fail
         refine (error_is 1 w8 (hL5.below hb78)).mono ?_
         rintro e w9 ⟨rfl, hb9⟩
         go_wp2_with fail
         refine (ints_nil w9).mono ?_
         rintro e w10 ⟨rfl, hb10⟩
         go_wp2
         go_ret
         exact ⟨rfl, Below.chain hB (Below.chain hb78 (Below.chain hb9 hb10))⟩
       | some x =>
         have HB := hide hbk
         have hxl : x.length ≤ 9223372036854775807 := by rw [back_length k m x (unhide dC6) hbk]; exact z2
         clear hbk
         refine (refBack_is a2 cap2 m x k w6' dC5 dC4 dC6 dC7 hq hm5 HB).mono ?_
         rintro e w7 ⟨p7, q7, rfl, r7, hb7⟩
         go_wp2_with fail
         refine (inv_ok a2 cap2 m x k w7 z2 (hm5.below hb7) dC3 HB).mono ?_
         rintro e w8 ⟨v8, rfl, h8, hb8⟩
         obtain ⟨p8, q8, rfl, r8⟩ := h8.row
         go_wp2_with fail
         refine (error_nil w8).mono ?_
         rintro e w8' ⟨rfl, rfl⟩
         go_wp2_with fail
         refine (ints_same p8 q8 p7 q7 x w8' hxl r8 (r7.below hb8)).mono ?_
         rintro e w9 ⟨rfl, hb9⟩
         go_wp2
         go_ret
         exact ⟨rfl, Below.chain hB (Below.chain hb7 (Below.chain hb8 hb9))⟩))

end Go.Proofs.YtcodgebchmhobabDoor.TreeTellsLaw
