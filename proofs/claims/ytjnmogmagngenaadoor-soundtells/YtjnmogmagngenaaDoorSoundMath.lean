/-
  Plain arithmetic of samples: loudness and energy, how far two are apart, two mixed.
-/
import Derived.Test.YtjnmogmagngenaaDoorSoundMix
namespace Go.Proofs.YtjnmogmagngenaaDoor.Snd
set_option linter.unusedVariables false

theorem mul_self_nonneg (n : Int) : 0 ≤ n * n := by
  rcases Int.le_total 0 n with h | h
  · exact Int.mul_nonneg h h
  · exact Int.mul_nonneg_of_nonpos_of_nonpos h h

theorem sq_far (n : Int) : sq n = far n * far n := by
  unfold sq far
  split
  · rw [Int.neg_mul_neg]
  · rfl
theorem far_nonneg (n : Int) : 0 ≤ far n := by unfold far; split <;> omega

theorem tot_cons (g : Int → Int) (x : Int) (l : List Int) : tot g (x :: l) = g x + tot g l := by
  unfold tot; rw [List.map_cons, List.sum_cons]
theorem tot_nonneg (l : List Int) : 0 ≤ tot far l := by
  induction l with
  | nil => simp [tot]
  | cons x r ih => rw [tot_cons]; have := far_nonneg x; omega

/-- No energy is above the square of the loudness. -/
theorem energy_le (l : List Int) : tot sq l ≤ tot far l * tot far l := by
  induction l with
  | nil => simp [tot]
  | cons x r ih =>
    rw [tot_cons, tot_cons, sq_far]
    have h1 : 0 ≤ far x * tot far r := Int.mul_nonneg (far_nonneg x) (tot_nonneg r)
    have h2 : tot far r * far x = far x * tot far r := Int.mul_comm _ _
    rw [Int.add_mul, Int.mul_add, Int.mul_add, h2]
    omega

theorem spread (l : List Int) (t : Int) : 2 * (t * tot far l) ≤ tot sq l + l.length * (t * t) := by
  induction l with
  | nil => simp [tot]
  | cons x r ih =>
    rw [tot_cons, tot_cons, sq_far, List.length_cons]
    have h1 := mul_self_nonneg (far x - t)
    have h2 : (far x - t) * (far x - t) = far x * far x - 2 * (t * far x) + t * t := by
      rw [Int.sub_mul, Int.mul_sub, Int.mul_sub, Int.mul_comm (far x) t]; omega
    rw [h2] at h1
    have h3 : ((r.length + 1 : Nat) : Int) * (t * t) = r.length * (t * t) + t * t := by
      rw [Int.natCast_add, Int.add_mul]; simp
    rw [h3, Int.mul_add]
    omega

/-- The square of the loudness is no more than as many times the energy. -/
theorem loud_le (l : List Int) : tot far l * tot far l ≤ tot sq l * l.length := by
  induction l with
  | nil => simp [tot]
  | cons x r ih =>
    have hs := spread r (far x)
    rw [tot_cons, tot_cons, sq_far, List.length_cons]
    have h3 : (far x * far x + tot sq r) * ((r.length + 1 : Nat) : Int) = r.length * (far x * far x) + far x * far x + tot sq r * r.length + tot sq r := by
      rw [Int.natCast_add, Int.mul_add, Int.add_mul, Int.mul_comm (far x * far x)]; simp; omega
    have h2 : tot far r * far x = far x * tot far r := Int.mul_comm _ _
    rw [h3, Int.add_mul, Int.mul_add, Int.mul_add, h2]
    omega

theorem two_eq {l m : List Int} (h1 : chk l = 0) (h2 : chk m = 0) (h3 : l.length = m.length) : two l m = 0 := by
  simp [two, h1, h2, h3]
theorem two_parts {l m : List Int} (h : two l m = 0) : chk l = 0 ∧ chk m = 0 ∧ l.length = m.length := by
  unfold two at h
  split at h
  · omega
  · split at h
    · omega
    · split at h
      · omega
      · rename_i h1 h2 h3
        exact ⟨by simpa using h1, by simpa using h2, by simpa using h3⟩

theorem mix_comm {l m : List Int} (h : l.length = m.length) : mix l m = mix m l := by
  unfold mix
  rw [h]
  apply List.map_congr_left
  intro j _
  unfold mixAt
  rw [Int.add_comm]
theorem clamp_bd (x : Int) : -1000 ≤ clamp x ∧ clamp x ≤ 1000 := by
  unfold clamp
  split
  · omega
  · split <;> omega
theorem chk_of {l : List Int} (h : l.length ≤ 32) (k : ∀ n ∈ l, -1000 ≤ n ∧ n ≤ 1000) : chk l = 0 := by
  have h1 : l.any bey = false := by
    rw [List.any_eq_false]
    intro x hx
    have := k x hx
    simp [bey]
    omega
  simp [chk, h1]
  omega
theorem chk_mix {l m : List Int} (h : l.length ≤ 32) : chk (mix l m) = 0 := by
  refine chk_of (by rw [mix_length]; exact h) fun n hn => ?_
  unfold mix at hn
  obtain ⟨j, _, rfl⟩ := List.mem_map.1 hn
  exact clamp_bd _

theorem far_zero (n : Int) : far n = 0 ↔ n = 0 := by unfold far; split <;> omega
theorem apTo_nonneg (l m : List Int) (k : Nat) : 0 ≤ apTo l m k := by
  induction k with
  | zero => simp [apTo]
  | succ k ih => rw [apTo]; omega
theorem apTo_zero (l m : List Int) (k : Nat) : apTo l m k = 0 ↔ ∀ j, j < k → l.getD j 0 = m.getD j 0 := by
  induction k with
  | zero => simp [apTo]
  | succ k ih =>
    have h0 := apTo_nonneg l m k
    have h1 := far_nonneg (l.getD k 0 - m.getD k 0)
    have h2 := far_zero (l.getD k 0 - m.getD k 0)
    rw [apTo]
    constructor
    · intro h j hj
      by_cases hjk : j = k
      · subst hjk
        have := h2.1 (by omega)
        omega
      · exact ih.1 (by omega) j (by omega)
    · intro h
      have e1 := ih.2 fun j hj => h j (by omega)
      have e2 := h2.2 (by have := h k (by omega); omega)
      rw [e1, e2]; rfl
theorem ap_zero {l m : List Int} (h : l.length = m.length) : (ap l m == 0) = decide (l = m) := by
  rw [Bool.eq_iff_iff, beq_iff_eq, decide_eq_true_iff]
  unfold ap
  rw [apTo_zero]
  constructor
  · intro hj
    apply List.ext_getElem h
    intro j h1 h2
    have := hj j h1
    rw [List.getD_eq_getElem?_getD, List.getD_eq_getElem?_getD, List.getElem?_eq_getElem h1, List.getElem?_eq_getElem h2] at this
    simpa using this
  · intro e j _
    rw [e]

theorem far_tri (x y z : Int) : far (x - y) ≤ far (x - z) + far (z - y) := by
  unfold far
  split <;> split <;> split <;> omega
theorem apTo_tri (l m c : List Int) (k : Nat) : apTo l m k ≤ apTo l c k + apTo c m k := by
  induction k with
  | zero => simp [apTo]
  | succ k ih =>
    have h1 := far_tri (l.getD k 0) (m.getD k 0) (c.getD k 0)
    have h2 := apTo_nonneg l c k
    have h3 := apTo_nonneg c m k
    have h4 := far_nonneg (l.getD k 0 - c.getD k 0)
    have h5 := far_nonneg (c.getD k 0 - m.getD k 0)
    rw [apTo, apTo, apTo]
    omega
theorem ap_tri {l m c : List Int} (h : l.length = c.length) : ap l m ≤ ap l c + ap c m := by
  unfold ap
  rw [← h]
  exact apTo_tri l m c l.length
end Go.Proofs.YtjnmogmagngenaaDoor.Snd
