/-
  Signs counted alike: all shares but the first are alike. No program here.
-/
import Derived.Test.YtgffpljnhadigagScaleBase
namespace Go.Proofs.Ytgffpljnhadigag.ScaleAlikeLaw
open Go.RowKit
open Go.Proofs.Ytgffpljnhadigag.Tre Go.Proofs.Ytgffpljnhadigag.Scl
set_option linter.unusedVariables false

/-- The first is t, all others are q. -/
def al (t q : Int) (m : Nat) : List Int := upto (fun i => if i = 0 then t else q) m
theorem al_length (t q : Int) (m : Nat) : (al t q m).length = m := upto_length _ _
theorem al_at (t q : Int) {m i : Nat} (h : i < m) : at0 (al t q m) i = if i = 0 then t else q := upto_at _ h
theorem al_rep (e : Int) (m : Nat) : al e e m = List.replicate m e := by
  refine eq_of_at (by rw [al_length, List.length_replicate]) fun i hi => ?_
  rw [al_length] at hi
  rw [al_at e e hi]
  simp [at0, hi]
theorem al_pfx (t q : Int) (m j : Nat) (h : j < m) : pfx (al t q m) (j + 1) = t + q * j := by
  induction j with
  | zero => rw [pfx, pfx, al_at t q h]; simp
  | succ j ih =>
    rw [pfx, ih (by omega), al_at t q h, if_neg (by omega), Int.natCast_add, Int.mul_add]
    simp; omega
theorem al_tot (t q : Int) (m : Nat) : tot (al t q (m + 1)) = t + q * m := by
  unfold tot
  rw [al_length, al_pfx t q (m + 1) m (by omega)]
theorem al_best {t q : Int} (m : Nat) (h : q ≤ t) : IsBest (al t q (m + 1)) 0 := by
  refine ⟨by rw [al_length]; omega, fun i hi => ?_, fun i hi => by omega⟩
  rw [al_length] at hi
  rw [al_at t q hi, al_at t q (by omega), if_pos rfl]
  split <;> omega
theorem al_set (t q s : Int) (m : Nat) : (al t q (m + 1)).set 0 s = al s q (m + 1) := by
  refine eq_of_at (by rw [List.length_set, al_length, al_length]) fun i hi => ?_
  rw [List.length_set, al_length] at hi
  rw [at0_set (by rw [al_length]; omega), al_at t q hi, al_at s q hi]
  split <;> rfl
theorem al_good {t q : Int} {m : Nat} (h0 : 1 ≤ q) (h : q ≤ t) (hm : m + 1 ≤ 40) : Scl.Good (al t q (m + 1)) := by
  have hq : 0 ≤ q * (m : Int) := Int.mul_nonneg (by omega) (by omega)
  refine ⟨by rw [al_length]; exact hm, fun i hi => ?_, by rw [al_tot]; omega⟩
  rw [al_length] at hi
  rw [al_at t q hi]
  split <;> omega
theorem al_fit {q : Int} {m : Nat} (h0 : 1 ≤ q) (hm : m + 1 ≤ 40) : ∀ (k : Nat) (t : Int), q ≤ t → t + q * m + k = 256 → fit (al t q (m + 1)) = al (256 - q * m) q (m + 1) := by
  intro k
  induction k with
  | zero =>
    intro t ht hk
    rw [fit_done (by rw [al_tot]; omega)]
    congr 1
    omega
  | succ k ih =>
    intro t ht hk
    have hne : tot (al t q (m + 1)) ≠ 256 := by rw [al_tot]; omega
    rw [← fit_next (al_good h0 ht hm) hne, nxt_is (al_best m ht), al_tot, if_neg (by omega), al_at t q (by omega), if_pos rfl, al_set]
    exact ih (t + 1) (by omega) (by omega)

theorem al_cf {e : Int} {m : Nat} (h1 : 1 ≤ e) (h9 : e ≤ 1000000) (hm : m + 1 ≤ 40) : cf (al e e (m + 1)) = 0 := by
  have hq : 0 ≤ e * (m : Int) := Int.mul_nonneg (by omega) (by omega)
  rw [cf_sum (by rw [al_length]; omega) (by rw [al_length]; omega) (fun i hi => by
    rw [al_length] at hi
    rw [al_at e e hi]
    split <;> omega), al_tot, if_neg (by omega)]
theorem al_base {e : Int} {m : Nat} (h1 : 1 ≤ e) (hm : m + 1 ≤ 40) : base (al e e (m + 1)) = al (256 / ((m + 1 : Nat) : Int)) (256 / ((m + 1 : Nat) : Int)) (m + 1) := by
  refine eq_of_at (by rw [base_length, al_length, al_length]) fun i hi => ?_
  rw [base_length, al_length] at hi
  have hq : 6 ≤ 256 / ((m + 1 : Nat) : Int) := by
    have h2 : (6 : Int) ≤ 256 / ((m + 1 : Nat) : Int) := (Int.le_ediv_iff_mul_le (by omega)).2 (by omega)
    exact h2
  have hd : e * 256 / (e + e * (m : Int)) = 256 / ((m + 1 : Nat) : Int) := by
    have e1 : e + e * (m : Int) = e * ((m + 1 : Nat) : Int) := by rw [Int.natCast_add, Int.mul_add]; simp; omega
    rw [e1]
    exact Int.mul_ediv_mul_of_pos _ _ (by omega)
  rw [base_at _ (by rw [al_length]; exact hi), al_at _ _ hi, al_at _ _ hi, al_tot]
  have e2 : (if i = 0 then e else e) = e := by split <;> rfl
  have e3 : (if i = 0 then (256 / ((m + 1 : Nat) : Int)) else (256 / ((m + 1 : Nat) : Int))) = 256 / ((m + 1 : Nat) : Int) := by split <;> rfl
  rw [e2, e3]
  unfold shr
  rw [hd, if_neg (by omega), if_neg (by omega)]
/-- All shares but the first are alike. -/
theorem alike {e : Int} {m : Nat} {q : Int} (h1 : 1 ≤ e) (hm : m + 1 ≤ 40) (hq : 256 / ((m + 1 : Nat) : Int) = q) : scale (List.replicate (m + 1) e) = al (256 - q * m) q (m + 1) ∧ 6 ≤ q ∧ q ≤ 256 ∧ 0 ≤ q * (m : Int) ∧ q * (m : Int) ≤ 256 := by
  have h6 : 6 ≤ q := by
    have h2 : (6 : Int) ≤ 256 / ((m + 1 : Nat) : Int) := (Int.le_ediv_iff_mul_le (by omega)).2 (by omega)
    omega
  have hle : q * ((m + 1 : Nat) : Int) ≤ 256 := by rw [← hq]; exact Int.ediv_mul_le 256 (by omega)
  have h0 : 0 ≤ q * (m : Int) := Int.mul_nonneg (by omega) (by omega)
  rw [Int.natCast_add, Int.mul_add] at hle
  simp at hle
  refine ⟨?_, h6, by omega, h0, by omega⟩
  rw [← al_rep]
  unfold scale
  rw [al_base h1 hm, hq]
  exact al_fit (by omega) hm (256 - q * m - q).toNat q (Int.le_refl _) (by omega)

end Go.Proofs.Ytgffpljnhadigag.ScaleAlikeLaw
