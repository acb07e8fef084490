/-
  The values of gains. No program here.
-/
import Derived.Test.YthkibjhhlcfceaiGreatDoorPk09
namespace Go.Proofs.YthkibjhhlcfceaiGreatDoor.Frm
open Go.Proofs.YthkibjhhlcfceaiGreatDoor.Tre Go.Proofs.YthkibjhhlcfceaiGreatDoor.Bnd Go.Proofs.YthkibjhhlcfceaiGreatDoor.Pls Go.Proofs.YthkibjhhlcfceaiGreatDoor.Gai Go.Proofs.YthkibjhhlcfceaiGreatDoor.Shr
set_option linter.unusedVariables false

/-- The value of a gain, 0 where there is none. -/
def vlN (g : Int) : Int := if gok g = true then (vl g.toNat : Int) else 0
theorem gok_in {g : Int} (h : gok g = true) : 0 ≤ g ∧ g ≤ 53 ∧ vo g.toNat = true := by
  unfold gok at h
  simp at h
  exact ⟨h.1.1, h.1.2, h.2⟩
theorem vlN_ok {g : Int} (h : gok g = true) : vlN g = (vl g.toNat : Int) := by unfold vlN; rw [if_pos h]
theorem vlN_in (g : Int) : 0 ≤ vlN g ∧ vlN g ≤ 8000 := by
  unfold vlN
  split
  · rename_i h
    have := (vo_is (gok_in h).2.2).1
    omega
  · omega
theorem vals_take {gs : List Int} {k : Nat} (h : k < gs.length) : (vals gs).take (k + 1) = (vals gs).take k ++ [(vl (at0 gs k).toNat : Int)] := by
  rw [List.take_succ_eq_append_getElem (by rw [vals_length]; exact h)]
  have e := vals_at gs h
  have e2 : at0 (vals gs) k = (vals gs)[k]'(by rw [vals_length]; exact h) := by simp [at0, vals_length, h]
  rw [← e2, e]
theorem vals_lds {gs : List Int} (h : ∀ i, i < gs.length → gok (at0 gs i) = true) : Lds (vals gs) := fun i hi => by
  rw [vals_length] at hi
  rw [vals_at gs hi]
  have := (vo_is (gok_in (h i hi)).2.2).1
  omega

theorem vals_upto (gs : List Int) : vals gs = upto (fun i => (vl (at0 gs i).toNat : Int)) gs.length := by
  refine eq_of_at (by rw [vals_length, upto_length]) fun i hi => ?_
  rw [vals_length] at hi
  rw [vals_at gs hi, upto_at _ hi]

end Go.Proofs.YthkibjhhlcfceaiGreatDoor.Frm
