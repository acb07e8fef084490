/-
  What is as near as may be is no further than its loudness, each number. No program here.
-/
import Derived.Test.YtjnmogmagngenaeNearMath
namespace Go.Proofs.Ytjnmogmagngenae.Nea
open Go.Proofs.Ytjnmogmagngenae.Tre Go.Proofs.Ytjnmogmagngenae.Pls
set_option linter.unusedVariables false

theorem Near.within {v : List Int} {k : Nat} {l : List Int} (h : Near v k l) (hk : k = 0 ∨ 0 < Pls.loud v) : far v k l ≤ Pls.loud v * v.length := by
  have hsg := fun i hi => h.sign (i := i) hi
  obtain ⟨g, hg, rfl⟩ := h
  unfold far
  rw [← tot_const]
  refine tot_le fun i hi => ?_
  have s1 := abs_sub_same (Pls.loud v) (at0 v i) (at0 (upto (res v k g) v.length) i) (by omega) k (by omega) (hsg i hi)
  have s3 : (at0 (upto (res v k g) v.length) i).natAbs = qt v k i + Nea.one (g i) := by rw [upto_at _ hi, res_abs hk hg hi]
  have s4 : (k : Int) * ((at0 v i).natAbs : Int) = (Pls.loud v : Int) * (qt v k i : Int) + (rt v k i : Int) := by
    have := sh_eq v k i
    unfold sh at this
    rw [← Int.natCast_mul, this]; simp
  have s5 : rt v k i ≤ Pls.loud v := by
    rcases hk with rfl | hk
    · simp [rt, sh]
    · exact Nat.le_of_lt (rt_lt k i hk)
  have s6 : (Nea.one (g i) : Int) = 0 ∨ (Nea.one (g i) : Int) = 1 := by cases g i <;> simp [Nea.one]
  unfold far1
  rw [← s1, s3, s4, show ((qt v k i + Nea.one (g i) : Nat) : Int) = (qt v k i : Int) + (Nea.one (g i) : Int) by omega, Int.mul_add]
  rcases s6 with e | e
  · rw [e, Int.mul_zero]; omega
  · rw [e, Int.mul_one]; omega

end Go.Proofs.Ytjnmogmagngenae.Nea
