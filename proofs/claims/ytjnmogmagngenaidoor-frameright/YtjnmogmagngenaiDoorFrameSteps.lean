/-
  Frames part by part: their faults and what they tell. No program here.
-/
import Derived.Test.YtjnmogmagngenaiDoorFrameMath
namespace Go.Proofs.YtjnmogmagngenaiDoor.Frm
open Go.Proofs.YtjnmogmagngenaiDoor.Tre Go.Proofs.YtjnmogmagngenaiDoor.Bnd Go.Proofs.YtjnmogmagngenaiDoor.Pls Go.Proofs.YtjnmogmagngenaiDoor.Gai Go.Proofs.YtjnmogmagngenaiDoor.Shr
set_option linter.unusedVariables false

theorem drop_prt {ps : List Prt} {k : Nat} (h : k < ps.length) : ps.drop k = prt ps k :: ps.drop (k + 1) := by
  rw [List.drop_eq_getElem_cons h, prt_get h]
theorem oneF_zero {ps : List Prt} : oneF ps = 0 → ∀ i, i < ps.length → gok (prt ps i).1 = true ∧ fault (prt ps i).2 = 0 := by
  induction ps with
  | nil => intro _ i hi; simp at hi
  | cons p ps ih =>
    intro h i hi
    rw [oneF] at h
    split at h
    · rename_i h1
      split at h
      · rename_i h2
        cases i with
        | zero => exact ⟨h1, h2⟩
        | succ i => exact ih h i (by simpa using hi)
      · exact absurd h (by assumption)
    · omega
theorem oneF_none {ps : List Prt} (h : ∀ i, i < ps.length → gok (prt ps i).1 = true ∧ fault (prt ps i).2 = 0) : oneF ps = 0 := by
  induction ps with
  | nil => rfl
  | cons p ps ih =>
    have h0 : gok p.1 = true ∧ fault p.2 = 0 := h 0 (by simp)
    rw [oneF, if_pos h0.1, if_pos h0.2]
    exact ih fun i hi => h (i + 1) (by simpa using hi)

theorem frm_bf {ps : List Prt} {s : List Int} {B : Int} (h : bf s ≠ 0) : FrmF ps s B (bf s) := Or.inl ⟨h, rfl⟩
theorem frm_len {ps : List Prt} {s : List Int} {B : Int} (h : bf s = 0) (h2 : ps.length ≠ s.length) : FrmF ps s B 3 := Or.inr ⟨h, Or.inl ⟨h2, rfl⟩⟩
theorem frm_fit {ps : List Prt} {s : List Int} {B : Int} (h : bf s = 0) (h2 : ps.length = s.length) (h3 : ¬ Fits ps s) : FrmF ps s B 3 := Or.inr ⟨h, Or.inr ⟨h2, Or.inl ⟨h3, rfl⟩⟩⟩
theorem frm_one {ps : List Prt} {s : List Int} {B : Int} (h : bf s = 0) (h2 : ps.length = s.length) (h3 : Fits ps s) (h4 : oneF ps ≠ 0) : FrmF ps s B (oneF ps) := Or.inr ⟨h, Or.inr ⟨h2, Or.inr ⟨h3, Or.inl ⟨h4, rfl⟩⟩⟩⟩
theorem frm_bits {ps : List Prt} {s : List Int} {B : Int} (h : bf s = 0) (h2 : ps.length = s.length) (h3 : Fits ps s) (h4 : oneF ps = 0) (h5 : ¬ (0 ≤ B ∧ B ≤ 400)) : FrmF ps s B 1 := Or.inr ⟨h, Or.inr ⟨h2, Or.inr ⟨h3, Or.inr ⟨h4, Or.inl ⟨h5, rfl⟩⟩⟩⟩⟩
theorem frm_gets {ps : List Prt} {s : List Int} {B : Int} (h : bf s = 0) (h2 : ps.length = s.length) (h3 : Fits ps s) (h4 : oneF ps = 0) (h5 : 0 ≤ B ∧ B ≤ 400) (h6 : ¬ Gets ps (given (gns ps) s B)) : FrmF ps s B 3 := Or.inr ⟨h, Or.inr ⟨h2, Or.inr ⟨h3, Or.inr ⟨h4, Or.inr ⟨h5, Or.inl ⟨h6, rfl⟩⟩⟩⟩⟩⟩
theorem frm_ok {ps : List Prt} {s : List Int} {B : Int} (h : bf s = 0) (h2 : ps.length = s.length) (h3 : Fits ps s) (h4 : oneF ps = 0) (h5 : 0 ≤ B ∧ B ≤ 400) (h6 : Gets ps (given (gns ps) s B)) : FrmF ps s B 0 := Or.inr ⟨h, Or.inr ⟨h2, Or.inr ⟨h3, Or.inr ⟨h4, Or.inr ⟨h5, Or.inr ⟨h6, rfl⟩⟩⟩⟩⟩⟩

theorem take_prt {ps : List Prt} {k : Nat} (h : k < ps.length) : ps.take (k + 1) = ps.take k ++ [prt ps k] := by
  rw [List.take_succ_eq_append_getElem h, prt_get h]
theorem all_step {ps : List Prt} {k : Nat} (h : k < ps.length) : all (ps.take (k + 1)) = all (ps.take k) ++ told (prt ps k) := by
  unfold all
  rw [take_prt h, List.map_append, List.flatten_append]
  simp
theorem long_step {ps : List Prt} {k : Nat} (h : k < ps.length) : long (ps.take (k + 1)) = long (ps.take k) + (prt ps k).2.length := by
  unfold long
  rw [take_prt h, List.map_append, List.sum_append]
  simp
theorem long_mono (ps : List Prt) {k m : Nat} (h : k ≤ m) : long (ps.take k) ≤ long (ps.take m) := by
  induction m with
  | zero => obtain rfl : k = 0 := by omega
            exact Nat.le_refl _
  | succ m ih =>
    by_cases e : k = m + 1
    · subst e; exact Nat.le_refl _
    · have h1 := ih (by omega)
      by_cases hm : m < ps.length
      · rw [long_step hm]; omega
      · rw [List.take_of_length_le (l := ps) (i := m + 1) (by omega), ← List.take_of_length_le (l := ps) (i := m) (by omega)]
        rw [List.take_of_length_le (l := ps) (i := m) (by omega)] at h1 ⊢
        exact h1
theorem told_step {p : Prt} {j : Nat} (h : j < p.2.length) : (told p).take (j + 1) = (told p).take j ++ [tl (vl p.1.toNat) (loud p.2) (at0 p.2 j)] := by
  have e : at0 p.2 j = p.2[j] := by simp [at0, h]
  rw [List.take_succ_eq_append_getElem (by rw [told_length]; exact h), e]
  simp [told]
theorem twoF_zero {ps : List Prt} : twoF ps = 0 → ∀ i, i < ps.length → gok (prt ps i).1 = true ∧ fault (prt ps i).2 = 0 := by
  induction ps with
  | nil => intro _ i hi; simp at hi
  | cons p ps ih =>
    intro h i hi
    rw [twoF] at h
    split at h
    · rename_i h1
      split at h
      · rename_i h2
        cases i with
        | zero => exact ⟨h2, h1⟩
        | succ i => exact ih h i (by simpa using hi)
      · omega
    · exact absurd h (by assumption)
theorem twoF_none {ps : List Prt} (h : ∀ i, i < ps.length → gok (prt ps i).1 = true ∧ fault (prt ps i).2 = 0) : twoF ps = 0 := by
  induction ps with
  | nil => rfl
  | cons p ps ih =>
    have h0 : gok p.1 = true ∧ fault p.2 = 0 := h 0 (by simp)
    rw [twoF, if_pos h0.2, if_pos h0.1]
    exact ih fun i hi => h (i + 1) (by simpa using hi)
theorem loud_at {l : List Int} {j : Nat} (h : j < l.length) : (at0 l j).natAbs ≤ loud l := by
  induction l generalizing j with
  | nil => simp at h
  | cons x l ih =>
    cases j with
    | zero => simp [at0, loud]
    | succ j =>
      have := ih (j := j) (by simpa using h)
      simp only [loud]
      have e : at0 (x :: l) (j + 1) = at0 l j := by simp [at0]
      rw [e]
      omega
theorem tl_neg {v k x : Int} (h : x < 0) : tl v k x = -((x.natAbs : Int) * v / k) := by
  unfold tl
  rw [Int.sign_eq_neg_one_of_neg h]
  omega
theorem tl_pos {v k x : Int} (h : 0 ≤ x) : tl v k x = (x.natAbs : Int) * v / k := by
  unfold tl
  by_cases e : x = 0
  · subst e; simp
  · rw [Int.sign_eq_one_of_pos (by omega)]; omega
theorem tl_zero (v x : Int) : tl v 0 x = 0 := by simp [tl]

/-- A quotient towards 0. -/
theorem tl_quo {v k x : Int} (hv : 0 ≤ v) (hk : 0 < k) : Int.tdiv (x * v) k = tl v k x := by
  by_cases h : x < 0
  · rw [tl_neg h]
    have e : x * v = -((x.natAbs : Int) * v) := by
      rw [← Int.neg_mul]
      congr 1
      omega
    rw [e, Int.neg_tdiv, Int.tdiv_eq_ediv_of_nonneg (Int.mul_nonneg (by omega) hv)]
  · rw [tl_pos (by omega), Int.tdiv_eq_ediv_of_nonneg (Int.mul_nonneg (by omega) hv)]
    congr 2
    omega
theorem told_none {p : Prt} (h : loud p.2 = 0) : told p = upto (fun _ => 0) p.2.length := by
  refine eq_of_at (by rw [told_length, upto_length]) fun i hi => ?_
  rw [told_length] at hi
  rw [upto_at _ hi]
  unfold told at0
  rw [List.getElem?_map, List.getElem?_eq_getElem hi, h]
  simp [tl]
theorem told_upto (p : Prt) : told p = upto (fun i => tl (vl p.1.toNat) (loud p.2) (at0 p.2 i)) p.2.length := by
  refine eq_of_at (by rw [told_length, upto_length]) fun i hi => ?_
  rw [told_length] at hi
  rw [upto_at _ hi]
  unfold told at0
  rw [List.getElem?_map, List.getElem?_eq_getElem hi]
  rfl

end Go.Proofs.YtjnmogmagngenaiDoor.Frm
