/-
  The values of gains. No program here.
-/
import Derived.Test.YthkibjhhlcfceajGreatDoorBa03
import Derived.Test.YthkibjhhlcfceajGreatDoorBa00
namespace Go.Proofs.YthkibjhhlcfceajGreatDoor.Frm
open Go.Proofs.YthkibjhhlcfceajGreatDoor.Tre Go.Proofs.YthkibjhhlcfceajGreatDoor.Bnd Go.Proofs.YthkibjhhlcfceajGreatDoor.Pls Go.Proofs.YthkibjhhlcfceajGreatDoor.Gai Go.Proofs.YthkibjhhlcfceajGreatDoor.Shr
set_option linter.unusedVariables false

/-- The value of a gain, 0 where there is none. -/
def vlN (g : Int) : Int := if gok g = true then (vl g.toNat : Int) else 0
theorem gok_in {g : Int} (h : gok g = true) : 0 ≤ g ∧ g ≤ 53 ∧ vo g.toNat = true := by
  unfold gok at h
  simp at h
  exact ⟨h.1.1, h.1.2, h.2⟩
theorem vlN_ok {g : Int} (h : gok g = true) : vlN g = (vl g.toNat : Int) := by unfold vlN; rw [if_pos h]
theorem vlN_in (g : Int) : 0 ≤ vlN g ∧ vlN g ≤ 8000 := by
  unfold vlN
  split
  · rename_i h
    have := (vo_is (gok_in h).2.2).1
    omega
  · omega
theorem vals_take {gs : List Int} {k : Nat} (h : k < gs.length) : (vals gs).take (k + 1) = (vals gs).take k ++ [(vl (at0 gs k).toNat : Int)] := by
  rw [List.take_succ_eq_append_getElem (by rw [vals_length]; exact h)]
  have e := vals_at gs h
  have e2 : at0 (vals gs) k = (vals gs)[k]'(by rw [vals_length]; exact h) := by simp [at0, vals_length, h]
  rw [← e2, e]
theorem vals_lds {gs : List Int} (h : ∀ i, i < gs.length → gok (at0 gs i) = true) : Lds (vals gs) := fun i hi => by
  rw [vals_length] at hi
  rw [vals_at gs hi]
  have := (vo_is (gok_in (h i hi)).2.2).1
  omega

theorem vals_upto (gs : List Int) : vals gs = upto (fun i => (vl (at0 gs i).toNat : Int)) gs.length := by
  refine eq_of_at (by rw [vals_length, upto_length]) fun i hi => ?_
  rw [vals_length] at hi
  rw [vals_at gs hi, upto_at _ hi]

end Go.Proofs.YthkibjhhlcfceajGreatDoor.Frm

/-
  The middle of a gain's numbers, as it is reckoned. No program here.
-/
namespace Go.Proofs.YthkibjhhlcfceajGreatDoor.Gai
open Go.RowKit
set_option linter.unusedVariables false

theorem mid_is {g : Nat} (h0 : 0 < g) (h1 : g ≤ 53) : ∃ m q P : Nat, Int.tdiv ((g : Int) - 1) 4 = (m : Int) ∧ Int.tmod ((g : Int) - 1) 4 = (q : Int) ∧ m ≤ 13 ∧ q ≤ 3 ∧ (2 : Int) ^ m = (P : Int) ∧ 0 < P ∧ P ≤ 8192 ∧
    Hid (mid g = P + (2 * q + 1) * P / 8) := by
  refine ⟨(g - 1) / 4, (g - 1) % 4, 2 ^ ((g - 1) / 4), ?_, ?_, by omega, by omega, by simp, Nat.two_pow_pos _, ?_, rfl⟩
  · rw [show (g : Int) - 1 = ((g - 1 : Nat) : Int) by omega]; rfl
  · rw [show (g : Int) - 1 = ((g - 1 : Nat) : Int) by omega]; rfl
  · exact Nat.pow_le_pow_right (j := 13) (by omega) (by omega)

end Go.Proofs.YthkibjhhlcfceajGreatDoor.Gai
