/-
  What the walk of hornlaw1.LapBack takes besides.
-/
import Derived.Test.YthlfckblhpdknabLapFwd
import Derived.Test.YthlfckblhpdknabLapInv
import Derived.Test.YthlfckblhpdknabLapSnd
import Derived.Test.YthlfckblhpdknabInts
namespace Go.Proofs.Ythlfckblhpdknab.LapBackLaw
open Go.RowKit
open Go.Proofs.Ythlfckblhpdknab.Tre Go.Proofs.Ythlfckblhpdknab.Lap Go.Proofs.Ythlfckblhpdknab.Same
set_option linter.unusedVariables false

theorem four_row (w : World) (t : TypeId) : Row (w.alloc (.cells #[.int .i64 1, .int .i64 5, .int .i64 3, .int .i64 4] t)) (some ⟨w.heap.size, 0, none⟩) [1, 5, 3, 4] := by
  refine Or.inr ⟨w.heap.size, 0, rfl, by simp, fun j hj => ?_⟩
  have hj' : j = 0 ∨ j = 1 ∨ j = 2 ∨ j = 3 := by simp at hj; omega
  rcases hj' with rfl | rfl | rfl | rfl <;> (rw [World.cell?_alloc_at _ _ _ _ rfl]; rfl)

/-- Of a list back: wrong; back, but none that may go forward; back, and forward it is what it was. -/
theorem ways (m : List Int) : Hid (chk m 4000 ≠ 0) ∨ (Hid (chk m 4000 = 0) ∧ Hid ((unlap m).length = m.length) ∧ m.length ≤ 32 ∧ Hid ((unlap m).any (out 1000) = true)) ∨
    (Hid (chk m 4000 = 0) ∧ Hid ((unlap m).length = m.length) ∧ m.length ≤ 32 ∧ In 1000 (unlap m) ∧ Hid (chk (unlap m) 1000 = 0) ∧ Hid (lap (unlap m) = m)) := by
  by_cases h : chk m 4000 = 0
  · obtain ⟨z1, z2, z3⟩ := chk_zero h
    have hx := unlap_length z2
    cases ha : (unlap m).any (out 1000) with
    | true => exact Or.inr (Or.inl ⟨h, hx, z1, rfl⟩)
    | false => exact Or.inr (Or.inr ⟨h, hx, z1, in_of_any ha, chk_of (by rw [hx]; exact z1) (by rw [hx]; exact z2) (in_of_any ha), lap_unlap z2⟩)
  · exact Or.inl h

/-- The numbers that rise evenly: out of bounds in one way, or within. -/
def Outs (f b n : Int) : Prop := (f < -400) ∨ (-400 ≤ f ∧ 400 < f) ∨ (-400 ≤ f ∧ f ≤ 400 ∧ b < -10) ∨ (-400 ≤ f ∧ f ≤ 400 ∧ -10 ≤ b ∧ 10 < b) ∨ (-400 ≤ f ∧ f ≤ 400 ∧ -10 ≤ b ∧ b ≤ 10 ∧ n < 1) ∨ (-400 ≤ f ∧ f ≤ 400 ∧ -10 ≤ b ∧ b ≤ 10 ∧ 1 ≤ n ∧ 16 < n)
theorem outs_or (f b n : Int) : Outs f b n ∨ (-400 ≤ f ∧ f ≤ 400 ∧ -10 ≤ b ∧ b ≤ 10 ∧ ∃ k : Nat, n = k ∧ 1 ≤ k ∧ k ≤ 16) := by
  unfold Outs
  by_cases h : -400 ≤ f ∧ f ≤ 400 ∧ -10 ≤ b ∧ b ≤ 10 ∧ 1 ≤ n ∧ n ≤ 16
  · exact Or.inr ⟨h.1, h.2.1, h.2.2.1, h.2.2.2.1, n.toNat, by omega, by omega, by omega⟩
  · exact Or.inl (by omega)

theorem times_in {b : Int} {j : Nat} (h0 : -10 ≤ b) (h1 : b ≤ 10) (hj : j ≤ 32) : -320 ≤ (j : Int) * b ∧ (j : Int) * b ≤ 320 := by
  have k1 := Int.mul_le_mul_of_nonneg_left h1 (show (0 : Int) ≤ (j : Int) by omega)
  have k0 := Int.mul_le_mul_of_nonneg_left h0 (show (0 : Int) ≤ (j : Int) by omega)
  omega
theorem rise_chk {f b : Int} {k : Nat} (f0 : -400 ≤ f) (f1 : f ≤ 400) (b0 : -10 ≤ b) (b1 : b ≤ 10) (hk : k ≤ 16) : chk (rise f b (2 * k)) 1000 = 0 := by
  have hl : (rise f b (2 * k)).length = 2 * k := upto_length _ _
  refine chk_of (by omega) (by omega) (upto_in fun i hi => ?_)
  have := times_in b0 b1 (show i ≤ 32 by omega)
  omega

end Go.Proofs.Ythlfckblhpdknab.LapBackLaw
