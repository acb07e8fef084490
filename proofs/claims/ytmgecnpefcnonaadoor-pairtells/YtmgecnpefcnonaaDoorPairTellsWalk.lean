/-
  The walk of hornlaw1.PairTells.
-/
import Derived.Test.YtmgecnpefcnonaaDoorPairOne
import Derived.Test.YtmgecnpefcnonaaDoorPairTwo
import Derived.Test.YtmgecnpefcnonaaDoorDown
import Derived.Test.YtmgecnpefcnonaaDoorTold
namespace Go.Proofs.YtmgecnpefcnonaaDoor.PairTellsLaw
open Go.RowKit
open Go.Proofs.YtmgecnpefcnonaaDoor.Par Go.Proofs.YtmgecnpefcnonaaDoor.Aser
set_option linter.unusedVariables false

theorem out_of {n b : Int} (h : n < -b ∨ b < n) : out n b = true := by simpa [out] using h
theorem outs {a b m : Int} (h : a < -m ∨ m < a ∨ b < -m ∨ m < b) : (out a m || out b m) = true := by
  simp [out]; omega

/-- The ways of the two: within 2000; within 4000, but not 2000; beyond. -/
theorem ways (a b : Int) : (-2000 ≤ a ∧ a ≤ 2000 ∧ -2000 ≤ b ∧ b ≤ 2000) ∨
    ((-4000 ≤ a ∧ a ≤ 4000 ∧ -4000 ≤ b ∧ b ≤ 4000) ∧ (a < -2000 ∨ 2000 < a ∨ b < -2000 ∨ 2000 < b)) ∨ (a < -4000 ∨ 4000 < a ∨ b < -4000 ∨ 4000 < b) := by omega

theorem error_nilB (w : World) :
    Calls Tryd.prog 6 #[.nilIface, .int .i64 0] w fun e w' => e = .returned (.bool true) ∧ Below w.heap.size w w' :=
  (error_nil w).mono (by rintro e w' ⟨rfl, rfl⟩; exact ⟨rfl, Below.refl _ _⟩)

set_option maxRecDepth 100000 in
set_option maxHeartbeats 4000000 in
theorem lo_in (n a b : Int) (w : World) (hL : Laid w) (hn : n < -8000) (hp : -2000 ≤ a ∧ a ≤ 2000 ∧ -2000 ≤ b ∧ b ≤ 2000) :
    Calls Tryd.prog 4 #[.int .i64 n, .int .i64 a, .int .i64 b] w fun e w' => e = .returned (.bool true) ∧ Below w.heap.size w w' := by
  have q0 : (n / 2 == n / 2) = true := by simp
  have q1 : ((a + b) / 2 == (a + b) / 2) = true := by simp
  have q2 : (a - b == a - b) = true := by simp
  have q3 : (a + (b + 1) / 2 == a + (b + 1) / 2) = true := by simp
  have q4 : (a + (b + 1) / 2 - b == a + (b + 1) / 2 - b) = true := by simp
  obtain ⟨h0, h1, h2, h3⟩ := hp
  go_enter Tryd.func4, Tryd.ntmps4
  go_wp2_with fail
  (refine (half_no n _ (hide (out_of (by omega)))).mono ?_; rintro e w1 ⟨rfl, rfl⟩; go_wp2_with fail; refine (error_is 1 _ hL).mono ?_; rintro e w2 ⟨rfl, hb⟩)
  go_wp2_with fail
  refine (down2 (a + b) _ (by omega) (by omega)).mono ?_
  rintro e w3 ⟨rfl, rfl⟩
  go_wp2_with fail
  refine (fwd_ok a b _ (by omega) (by omega) (by omega) (by omega)).mono ?_
  rintro e w3 ⟨rfl, rfl⟩
  go_wp2_with fail
  refine (error_nilB _).mono ?_
  rintro e w3 ⟨rfl, hb1⟩
  have hc := Below.chain hb hb1
  clear hb hb1
  go_wp2_with fail
  refine (down2 (b + 1) _ (by omega) (by omega)).mono ?_
  rintro e w4 ⟨rfl, rfl⟩
  go_wp2_with fail
  refine (inv_ok a b _ (by omega) (by omega) (by omega) (by omega)).mono ?_
  rintro e w4 ⟨rfl, rfl⟩
  go_wp2_with fail
  refine (error_nilB _).mono ?_
  rintro e w4 ⟨rfl, hb1⟩
  go_wp2
  go_ret
  exact ⟨rfl, Below.chain hc hb1⟩
set_option maxRecDepth 100000 in
set_option maxHeartbeats 4000000 in
theorem lo_mid (n a b : Int) (w : World) (hL : Laid w) (hn : n < -8000) (h4 : -4000 ≤ a ∧ a ≤ 4000 ∧ -4000 ≤ b ∧ b ≤ 4000) (hp : a < -2000 ∨ 2000 < a ∨ b < -2000 ∨ 2000 < b) :
    Calls Tryd.prog 4 #[.int .i64 n, .int .i64 a, .int .i64 b] w fun e w' => e = .returned (.bool true) ∧ Below w.heap.size w w' := by
  have q0 : (n / 2 == n / 2) = true := by simp
  have q1 : ((a + b) / 2 == (a + b) / 2) = true := by simp
  have q2 : (a - b == a - b) = true := by simp
  have q3 : (a + (b + 1) / 2 == a + (b + 1) / 2) = true := by simp
  have q4 : (a + (b + 1) / 2 - b == a + (b + 1) / 2 - b) = true := by simp
  have hq : a < -2000 ∨ 2000 < a ∨ (-2000 ≤ a ∧ a ≤ 2000 ∧ b < -2000) ∨ (-2000 ≤ a ∧ a ≤ 2000 ∧ 2000 < b) := by omega
  clear hp
  obtain ⟨h0, h1, h2, h3⟩ := h4
  rcases hq with hq | hq | ⟨p1, p2, hq⟩ | ⟨p1, p2, hq⟩
  all_goals
    go_enter Tryd.func4, Tryd.ntmps4
    go_wp2_with fail
    (refine (half_no n _ (hide (out_of (by omega)))).mono ?_; rintro e w1 ⟨rfl, rfl⟩; go_wp2_with fail; refine (error_is 1 _ hL).mono ?_; rintro e w2 ⟨rfl, hb⟩)
    go_wp2_with fail
    refine (fwd_no a b _ (hide (outs (by omega)))).mono ?_
    rintro e w3 ⟨rfl, rfl⟩
    go_wp2_with fail
    refine (error_is 1 _ (hL.below hb)).mono ?_
    rintro e w3 ⟨rfl, hb1⟩
    have hc := Below.chain hb hb1
    clear hb hb1
    go_wp2_with fail
    refine (down2 (b + 1) _ (by omega) (by omega)).mono ?_
    rintro e w4 ⟨rfl, rfl⟩
    go_wp2_with fail
    refine (inv_ok a b _ (by omega) (by omega) (by omega) (by omega)).mono ?_
    rintro e w4 ⟨rfl, rfl⟩
    go_wp2_with fail
    refine (error_nilB _).mono ?_
    rintro e w4 ⟨rfl, hb1⟩
    go_wp2
    go_ret
    exact ⟨rfl, Below.chain hc hb1⟩
set_option maxRecDepth 100000 in
set_option maxHeartbeats 4000000 in
theorem lo_far (n a b : Int) (w : World) (hL : Laid w) (hn : n < -8000) (hp : a < -4000 ∨ 4000 < a ∨ b < -4000 ∨ 4000 < b) :
    Calls Tryd.prog 4 #[.int .i64 n, .int .i64 a, .int .i64 b] w fun e w' => e = .returned (.bool true) ∧ Below w.heap.size w w' := by
  have q0 : (n / 2 == n / 2) = true := by simp
  have q1 : ((a + b) / 2 == (a + b) / 2) = true := by simp
  have q2 : (a - b == a - b) = true := by simp
  have q3 : (a + (b + 1) / 2 == a + (b + 1) / 2) = true := by simp
  have q4 : (a + (b + 1) / 2 - b == a + (b + 1) / 2 - b) = true := by simp
  have hq : a < -4000 ∨ 4000 < a ∨ (-2000 ≤ a ∧ a ≤ 2000 ∧ b < -4000) ∨ (-4000 ≤ a ∧ a < -2000 ∧ b < -4000) ∨ (2000 < a ∧ a ≤ 4000 ∧ b < -4000) ∨
      (-2000 ≤ a ∧ a ≤ 2000 ∧ 4000 < b) ∨ (-4000 ≤ a ∧ a < -2000 ∧ 4000 < b) ∨ (2000 < a ∧ a ≤ 4000 ∧ 4000 < b) := by omega
  clear hp
  rcases hq with hq | hq | ⟨p1, p2, hq⟩ | ⟨p1, p2, hq⟩ | ⟨p1, p2, hq⟩ | ⟨p1, p2, hq⟩ | ⟨p1, p2, hq⟩ | ⟨p1, p2, hq⟩
  all_goals
    go_enter Tryd.func4, Tryd.ntmps4
    go_wp2_with fail
    (refine (half_no n _ (hide (out_of (by omega)))).mono ?_; rintro e w1 ⟨rfl, rfl⟩; go_wp2_with fail; refine (error_is 1 _ hL).mono ?_; rintro e w2 ⟨rfl, hb⟩)
    go_wp2_with fail
    refine (fwd_no a b _ (hide (outs (by omega)))).mono ?_
    rintro e w3 ⟨rfl, rfl⟩
    go_wp2_with fail
    refine (error_is 1 _ (hL.below hb)).mono ?_
    rintro e w3 ⟨rfl, hb1⟩
    have hc := Below.chain hb hb1
    clear hb hb1
    go_wp2_with fail
    refine (inv_no a b _ (hide (outs (by omega)))).mono ?_
    rintro e w4 ⟨rfl, rfl⟩
    go_wp2_with fail
    refine (error_is 1 _ (hL.below hc)).mono ?_
    rintro e w4 ⟨rfl, hb1⟩
    go_wp2
    go_ret
    exact ⟨rfl, Below.chain hc hb1⟩
set_option maxRecDepth 100000 in
set_option maxHeartbeats 4000000 in
theorem hi_in (n a b : Int) (w : World) (hL : Laid w) (hn : 8000 < n) (hp : -2000 ≤ a ∧ a ≤ 2000 ∧ -2000 ≤ b ∧ b ≤ 2000) :
    Calls Tryd.prog 4 #[.int .i64 n, .int .i64 a, .int .i64 b] w fun e w' => e = .returned (.bool true) ∧ Below w.heap.size w w' := by
  have q0 : (n / 2 == n / 2) = true := by simp
  have q1 : ((a + b) / 2 == (a + b) / 2) = true := by simp
  have q2 : (a - b == a - b) = true := by simp
  have q3 : (a + (b + 1) / 2 == a + (b + 1) / 2) = true := by simp
  have q4 : (a + (b + 1) / 2 - b == a + (b + 1) / 2 - b) = true := by simp
  obtain ⟨h0, h1, h2, h3⟩ := hp
  go_enter Tryd.func4, Tryd.ntmps4
  go_wp2_with fail
  (refine (half_no n _ (hide (out_of (by omega)))).mono ?_; rintro e w1 ⟨rfl, rfl⟩; go_wp2_with fail; refine (error_is 1 _ hL).mono ?_; rintro e w2 ⟨rfl, hb⟩)
  go_wp2_with fail
  refine (down2 (a + b) _ (by omega) (by omega)).mono ?_
  rintro e w3 ⟨rfl, rfl⟩
  go_wp2_with fail
  refine (fwd_ok a b _ (by omega) (by omega) (by omega) (by omega)).mono ?_
  rintro e w3 ⟨rfl, rfl⟩
  go_wp2_with fail
  refine (error_nilB _).mono ?_
  rintro e w3 ⟨rfl, hb1⟩
  have hc := Below.chain hb hb1
  clear hb hb1
  go_wp2_with fail
  refine (down2 (b + 1) _ (by omega) (by omega)).mono ?_
  rintro e w4 ⟨rfl, rfl⟩
  go_wp2_with fail
  refine (inv_ok a b _ (by omega) (by omega) (by omega) (by omega)).mono ?_
  rintro e w4 ⟨rfl, rfl⟩
  go_wp2_with fail
  refine (error_nilB _).mono ?_
  rintro e w4 ⟨rfl, hb1⟩
  go_wp2
  go_ret
  exact ⟨rfl, Below.chain hc hb1⟩
set_option maxRecDepth 100000 in
set_option maxHeartbeats 4000000 in
theorem hi_mid (n a b : Int) (w : World) (hL : Laid w) (hn : 8000 < n) (h4 : -4000 ≤ a ∧ a ≤ 4000 ∧ -4000 ≤ b ∧ b ≤ 4000) (hp : a < -2000 ∨ 2000 < a ∨ b < -2000 ∨ 2000 < b) :
    Calls Tryd.prog 4 #[.int .i64 n, .int .i64 a, .int .i64 b] w fun e w' => e = .returned (.bool true) ∧ Below w.heap.size w w' := by
  have q0 : (n / 2 == n / 2) = true := by simp
  have q1 : ((a + b) / 2 == (a + b) / 2) = true := by simp
  have q2 : (a - b == a - b) = true := by simp
  have q3 : (a + (b + 1) / 2 == a + (b + 1) / 2) = true := by simp
  have q4 : (a + (b + 1) / 2 - b == a + (b + 1) / 2 - b) = true := by simp
  have hq : a < -2000 ∨ 2000 < a ∨ (-2000 ≤ a ∧ a ≤ 2000 ∧ b < -2000) ∨ (-2000 ≤ a ∧ a ≤ 2000 ∧ 2000 < b) := by omega
  clear hp
  obtain ⟨h0, h1, h2, h3⟩ := h4
  rcases hq with hq | hq | ⟨p1, p2, hq⟩ | ⟨p1, p2, hq⟩
  all_goals
    go_enter Tryd.func4, Tryd.ntmps4
    go_wp2_with fail
    (refine (half_no n _ (hide (out_of (by omega)))).mono ?_; rintro e w1 ⟨rfl, rfl⟩; go_wp2_with fail; refine (error_is 1 _ hL).mono ?_; rintro e w2 ⟨rfl, hb⟩)
    go_wp2_with fail
    refine (fwd_no a b _ (hide (outs (by omega)))).mono ?_
    rintro e w3 ⟨rfl, rfl⟩
    go_wp2_with fail
    refine (error_is 1 _ (hL.below hb)).mono ?_
    rintro e w3 ⟨rfl, hb1⟩
    have hc := Below.chain hb hb1
    clear hb hb1
    go_wp2_with fail
    refine (down2 (b + 1) _ (by omega) (by omega)).mono ?_
    rintro e w4 ⟨rfl, rfl⟩
    go_wp2_with fail
    refine (inv_ok a b _ (by omega) (by omega) (by omega) (by omega)).mono ?_
    rintro e w4 ⟨rfl, rfl⟩
    go_wp2_with fail
    refine (error_nilB _).mono ?_
    rintro e w4 ⟨rfl, hb1⟩
    go_wp2
    go_ret
    exact ⟨rfl, Below.chain hc hb1⟩
set_option maxRecDepth 100000 in
set_option maxHeartbeats 4000000 in
theorem hi_far (n a b : Int) (w : World) (hL : Laid w) (hn : 8000 < n) (hp : a < -4000 ∨ 4000 < a ∨ b < -4000 ∨ 4000 < b) :
    Calls Tryd.prog 4 #[.int .i64 n, .int .i64 a, .int .i64 b] w fun e w' => e = .returned (.bool true) ∧ Below w.heap.size w w' := by
  have q0 : (n / 2 == n / 2) = true := by simp
  have q1 : ((a + b) / 2 == (a + b) / 2) = true := by simp
  have q2 : (a - b == a - b) = true := by simp
  have q3 : (a + (b + 1) / 2 == a + (b + 1) / 2) = true := by simp
  have q4 : (a + (b + 1) / 2 - b == a + (b + 1) / 2 - b) = true := by simp
  have hq : a < -4000 ∨ 4000 < a ∨ (-2000 ≤ a ∧ a ≤ 2000 ∧ b < -4000) ∨ (-4000 ≤ a ∧ a < -2000 ∧ b < -4000) ∨ (2000 < a ∧ a ≤ 4000 ∧ b < -4000) ∨
      (-2000 ≤ a ∧ a ≤ 2000 ∧ 4000 < b) ∨ (-4000 ≤ a ∧ a < -2000 ∧ 4000 < b) ∨ (2000 < a ∧ a ≤ 4000 ∧ 4000 < b) := by omega
  clear hp
  rcases hq with hq | hq | ⟨p1, p2, hq⟩ | ⟨p1, p2, hq⟩ | ⟨p1, p2, hq⟩ | ⟨p1, p2, hq⟩ | ⟨p1, p2, hq⟩ | ⟨p1, p2, hq⟩
  all_goals
    go_enter Tryd.func4, Tryd.ntmps4
    go_wp2_with fail
    (refine (half_no n _ (hide (out_of (by omega)))).mono ?_; rintro e w1 ⟨rfl, rfl⟩; go_wp2_with fail; refine (error_is 1 _ hL).mono ?_; rintro e w2 ⟨rfl, hb⟩)
    go_wp2_with fail
    refine (fwd_no a b _ (hide (outs (by omega)))).mono ?_
    rintro e w3 ⟨rfl, rfl⟩
    go_wp2_with fail
    refine (error_is 1 _ (hL.below hb)).mono ?_
    rintro e w3 ⟨rfl, hb1⟩
    have hc := Below.chain hb hb1
    clear hb hb1
    go_wp2_with fail
    refine (inv_no a b _ (hide (outs (by omega)))).mono ?_
    rintro e w4 ⟨rfl, rfl⟩
    go_wp2_with fail
    refine (error_is 1 _ (hL.below hc)).mono ?_
    rintro e w4 ⟨rfl, hb1⟩
    go_wp2
    go_ret
    exact ⟨rfl, Below.chain hc hb1⟩
set_option maxRecDepth 100000 in
set_option maxHeartbeats 4000000 in
theorem no_in (n a b : Int) (w : World) (hL : Laid w) (hn : -8000 ≤ n ∧ n ≤ 8000) (hp : -2000 ≤ a ∧ a ≤ 2000 ∧ -2000 ≤ b ∧ b ≤ 2000) :
    Calls Tryd.prog 4 #[.int .i64 n, .int .i64 a, .int .i64 b] w fun e w' => e = .returned (.bool true) ∧ Below w.heap.size w w' := by
  have q0 : (n / 2 == n / 2) = true := by simp
  have q1 : ((a + b) / 2 == (a + b) / 2) = true := by simp
  have q2 : (a - b == a - b) = true := by simp
  have q3 : (a + (b + 1) / 2 == a + (b + 1) / 2) = true := by simp
  have q4 : (a + (b + 1) / 2 - b == a + (b + 1) / 2 - b) = true := by simp
  obtain ⟨h0, h1, h2, h3⟩ := hp
  go_enter Tryd.func4, Tryd.ntmps4
  go_wp2_with fail
  (refine (down2 n _ (by omega) (by omega)).mono ?_; rintro e w1 ⟨rfl, rfl⟩; go_wp2_with fail; refine (half_ok n _ (by omega) (by omega)).mono ?_; rintro e w1 ⟨rfl, rfl⟩; go_wp2_with fail; refine (error_nilB _).mono ?_; rintro e w2 ⟨rfl, hb⟩)
  go_wp2_with fail
  refine (down2 (a + b) _ (by omega) (by omega)).mono ?_
  rintro e w3 ⟨rfl, rfl⟩
  go_wp2_with fail
  refine (fwd_ok a b _ (by omega) (by omega) (by omega) (by omega)).mono ?_
  rintro e w3 ⟨rfl, rfl⟩
  go_wp2_with fail
  refine (error_nilB _).mono ?_
  rintro e w3 ⟨rfl, hb1⟩
  have hc := Below.chain hb hb1
  clear hb hb1
  go_wp2_with fail
  refine (down2 (b + 1) _ (by omega) (by omega)).mono ?_
  rintro e w4 ⟨rfl, rfl⟩
  go_wp2_with fail
  refine (inv_ok a b _ (by omega) (by omega) (by omega) (by omega)).mono ?_
  rintro e w4 ⟨rfl, rfl⟩
  go_wp2_with fail
  refine (error_nilB _).mono ?_
  rintro e w4 ⟨rfl, hb1⟩
  go_wp2
  go_ret
  exact ⟨rfl, Below.chain hc hb1⟩
set_option maxRecDepth 100000 in
set_option maxHeartbeats 4000000 in
theorem no_mid (n a b : Int) (w : World) (hL : Laid w) (hn : -8000 ≤ n ∧ n ≤ 8000) (h4 : -4000 ≤ a ∧ a ≤ 4000 ∧ -4000 ≤ b ∧ b ≤ 4000) (hp : a < -2000 ∨ 2000 < a ∨ b < -2000 ∨ 2000 < b) :
    Calls Tryd.prog 4 #[.int .i64 n, .int .i64 a, .int .i64 b] w fun e w' => e = .returned (.bool true) ∧ Below w.heap.size w w' := by
  have q0 : (n / 2 == n / 2) = true := by simp
  have q1 : ((a + b) / 2 == (a + b) / 2) = true := by simp
  have q2 : (a - b == a - b) = true := by simp
  have q3 : (a + (b + 1) / 2 == a + (b + 1) / 2) = true := by simp
  have q4 : (a + (b + 1) / 2 - b == a + (b + 1) / 2 - b) = true := by simp
  have hq : a < -2000 ∨ 2000 < a ∨ (-2000 ≤ a ∧ a ≤ 2000 ∧ b < -2000) ∨ (-2000 ≤ a ∧ a ≤ 2000 ∧ 2000 < b) := by omega
  clear hp
  obtain ⟨h0, h1, h2, h3⟩ := h4
  rcases hq with hq | hq | ⟨p1, p2, hq⟩ | ⟨p1, p2, hq⟩
  all_goals
    go_enter Tryd.func4, Tryd.ntmps4
    go_wp2_with fail
    (refine (down2 n _ (by omega) (by omega)).mono ?_; rintro e w1 ⟨rfl, rfl⟩; go_wp2_with fail; refine (half_ok n _ (by omega) (by omega)).mono ?_; rintro e w1 ⟨rfl, rfl⟩; go_wp2_with fail; refine (error_nilB _).mono ?_; rintro e w2 ⟨rfl, hb⟩)
    go_wp2_with fail
    refine (fwd_no a b _ (hide (outs (by omega)))).mono ?_
    rintro e w3 ⟨rfl, rfl⟩
    go_wp2_with fail
    refine (error_is 1 _ (hL.below hb)).mono ?_
    rintro e w3 ⟨rfl, hb1⟩
    have hc := Below.chain hb hb1
    clear hb hb1
    go_wp2_with fail
    refine (down2 (b + 1) _ (by omega) (by omega)).mono ?_
    rintro e w4 ⟨rfl, rfl⟩
    go_wp2_with fail
    refine (inv_ok a b _ (by omega) (by omega) (by omega) (by omega)).mono ?_
    rintro e w4 ⟨rfl, rfl⟩
    go_wp2_with fail
    refine (error_nilB _).mono ?_
    rintro e w4 ⟨rfl, hb1⟩
    go_wp2
    go_ret
    exact ⟨rfl, Below.chain hc hb1⟩
set_option maxRecDepth 100000 in
set_option maxHeartbeats 4000000 in
theorem no_far (n a b : Int) (w : World) (hL : Laid w) (hn : -8000 ≤ n ∧ n ≤ 8000) (hp : a < -4000 ∨ 4000 < a ∨ b < -4000 ∨ 4000 < b) :
    Calls Tryd.prog 4 #[.int .i64 n, .int .i64 a, .int .i64 b] w fun e w' => e = .returned (.bool true) ∧ Below w.heap.size w w' := by
  have q0 : (n / 2 == n / 2) = true := by simp
  have q1 : ((a + b) / 2 == (a + b) / 2) = true := by simp
  have q2 : (a - b == a - b) = true := by simp
  have q3 : (a + (b + 1) / 2 == a + (b + 1) / 2) = true := by simp
  have q4 : (a + (b + 1) / 2 - b == a + (b + 1) / 2 - b) = true := by simp
  have hq : a < -4000 ∨ 4000 < a ∨ (-2000 ≤ a ∧ a ≤ 2000 ∧ b < -4000) ∨ (-4000 ≤ a ∧ a < -2000 ∧ b < -4000) ∨ (2000 < a ∧ a ≤ 4000 ∧ b < -4000) ∨
      (-2000 ≤ a ∧ a ≤ 2000 ∧ 4000 < b) ∨ (-4000 ≤ a ∧ a < -2000 ∧ 4000 < b) ∨ (2000 < a ∧ a ≤ 4000 ∧ 4000 < b) := by omega
  clear hp
  rcases hq with hq | hq | ⟨p1, p2, hq⟩ | ⟨p1, p2, hq⟩ | ⟨p1, p2, hq⟩ | ⟨p1, p2, hq⟩ | ⟨p1, p2, hq⟩ | ⟨p1, p2, hq⟩
  all_goals
    go_enter Tryd.func4, Tryd.ntmps4
    go_wp2_with fail
    (refine (down2 n _ (by omega) (by omega)).mono ?_; rintro e w1 ⟨rfl, rfl⟩; go_wp2_with fail; refine (half_ok n _ (by omega) (by omega)).mono ?_; rintro e w1 ⟨rfl, rfl⟩; go_wp2_with fail; refine (error_nilB _).mono ?_; rintro e w2 ⟨rfl, hb⟩)
    go_wp2_with fail
    refine (fwd_no a b _ (hide (outs (by omega)))).mono ?_
    rintro e w3 ⟨rfl, rfl⟩
    go_wp2_with fail
    refine (error_is 1 _ (hL.below hb)).mono ?_
    rintro e w3 ⟨rfl, hb1⟩
    have hc := Below.chain hb hb1
    clear hb hb1
    go_wp2_with fail
    refine (inv_no a b _ (hide (outs (by omega)))).mono ?_
    rintro e w4 ⟨rfl, rfl⟩
    go_wp2_with fail
    refine (error_is 1 _ (hL.below hc)).mono ?_
    rintro e w4 ⟨rfl, hb1⟩
    go_wp2
    go_ret
    exact ⟨rfl, Below.chain hc hb1⟩

theorem walk (n a b : Int) (w : World) (hL : Laid w) (hw0 : (Lit.int .i64 n).wf = true) (hw1 : (Lit.int .i64 a).wf = true) (hw2 : (Lit.int .i64 b).wf = true) :
    Calls Tryd.prog 4 #[.int .i64 n, .int .i64 a, .int .i64 b] w fun e w' => e = .returned (.bool true) ∧ Below w.heap.size w w' := by
  rcases (by omega : n < -8000 ∨ 8000 < n ∨ (-8000 ≤ n ∧ n ≤ 8000)) with hn | hn | hn
  · rcases ways a b with h | ⟨h, k⟩ | h
    · exact lo_in n a b w hL hn h
    · exact lo_mid n a b w hL hn h k
    · exact lo_far n a b w hL hn h
  · rcases ways a b with h | ⟨h, k⟩ | h
    · exact hi_in n a b w hL hn h
    · exact hi_mid n a b w hL hn h k
    · exact hi_far n a b w hL hn h
  · rcases ways a b with h | ⟨h, k⟩ | h
    · exact no_in n a b w hL hn h
    · exact no_mid n a b w hL hn h k
    · exact no_far n a b w hL hn h

end Go.Proofs.YtmgecnpefcnonaaDoor.PairTellsLaw
