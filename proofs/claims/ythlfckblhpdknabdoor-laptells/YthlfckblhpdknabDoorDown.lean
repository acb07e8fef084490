/-
  hornref1.Down: a number by another one, rounded down.
-/
import Derived.Test.YthlfckblhpdknabDoorBase
namespace Go.Proofs.YthlfckblhpdknabDoor
open Go.RowKit
set_option linter.unusedVariables false

theorem td (n k : Int) (hk : 0 < k) : k * n.tdiv k + n.tmod k = n ∧ -k < n.tmod k ∧ n.tmod k < k :=
  ⟨Int.mul_tdiv_add_tmod n k, Int.lt_tmod_of_pos n hk, Int.tmod_lt_of_pos n hk⟩

theorem down2 (n : Int) (w : World) (h0 : -1000000 ≤ n) (h1 : n ≤ 1000000) :
    Calls Tryd.prog 17 #[.int .i64 n, .int .i64 2] w fun e w' => e = .returned (.int .i64 (n / 2)) ∧ w' = w := by
  obtain ⟨t1, t2, t3⟩ := td n 2 (by omega)
  have q0 : -1000000 ≤ n.tdiv 2 ∧ n.tdiv 2 ≤ 1000000 := by omega
  obtain ⟨q1, q2⟩ := q0
  by_cases hm : n.tmod 2 < 0
  · have hd : decide (n.tmod 2 < 0) = true := decide_eq_true hm
    go_enter Tryd.func17, Tryd.ntmps17
    go_wp2
    go_ret
    exact ⟨ret_int (by omega), rfl⟩
  · have hd : decide (n.tmod 2 < 0) = false := decide_eq_false hm
    go_enter Tryd.func17, Tryd.ntmps17
    go_wp2
    go_ret
    exact ⟨ret_int (by omega), rfl⟩
theorem down4 (n : Int) (w : World) (h0 : -1000000 ≤ n) (h1 : n ≤ 1000000) :
    Calls Tryd.prog 17 #[.int .i64 n, .int .i64 4] w fun e w' => e = .returned (.int .i64 (n / 4)) ∧ w' = w := by
  obtain ⟨t1, t2, t3⟩ := td n 4 (by omega)
  have q0 : -1000000 ≤ n.tdiv 4 ∧ n.tdiv 4 ≤ 1000000 := by omega
  obtain ⟨q1, q2⟩ := q0
  by_cases hm : n.tmod 4 < 0
  · have hd : decide (n.tmod 4 < 0) = true := decide_eq_true hm
    go_enter Tryd.func17, Tryd.ntmps17
    go_wp2
    go_ret
    exact ⟨ret_int (by omega), rfl⟩
  · have hd : decide (n.tmod 4 < 0) = false := decide_eq_false hm
    go_enter Tryd.func17, Tryd.ntmps17
    go_wp2
    go_ret
    exact ⟨ret_int (by omega), rfl⟩

end Go.Proofs.YthlfckblhpdknabDoor
