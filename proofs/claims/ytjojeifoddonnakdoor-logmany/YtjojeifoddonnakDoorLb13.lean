/-
  More numbers of chapter 13: the bits of a number by shifts, and the last ones moved up. No program here.
-/
import Derived.Test.YtjojeifoddonnakDoorLb00
import Derived.Laws.BitsLemmas
namespace Go.Proofs.YtjojeifoddonnakDoor.Wid
open Go.Proofs.YtjojeifoddonnakDoor.Tre Go.Proofs.YtjojeifoddonnakDoor.Bnd
set_option linter.unusedVariables false

theorem mod_div (n : Int) (m : Nat) : n % 2 ^ (m + 1) / 2 ^ m = n / 2 ^ m % 2 := by
  have hp := two_pos m
  have h1 := Int.emod_add_mul_ediv n (2 ^ (m + 1))
  have h2 := Int.emod_add_mul_ediv (n % 2 ^ (m + 1)) (2 ^ m)
  have h3 := mod_in (w := m) (n % 2 ^ (m + 1))
  have h4 := mod_in (w := m + 1) n
  have h5 := div_bit h4.1 h4.2
  have e : n = n % 2 ^ (m + 1) % 2 ^ m + 2 ^ m * (n % 2 ^ (m + 1) / 2 ^ m + 2 * (n / 2 ^ (m + 1))) := by
    rw [Int.mul_add, ← Int.add_assoc, h2, ← Int.mul_assoc, Int.mul_comm (2 ^ m) 2, ← two_succ]
    exact h1.symm
  have e2 : n / 2 ^ m = n % 2 ^ (m + 1) / 2 ^ m + 2 * (n / 2 ^ (m + 1)) := by
    conv => lhs; rw [e]
    rw [Int.add_mul_ediv_left _ _ (by omega), Int.ediv_eq_zero_of_lt h3.1 h3.2]
    omega
  rw [e2]
  omega
theorem mod_mod (n : Int) (m : Nat) : n % 2 ^ (m + 1) % 2 ^ m = n % 2 ^ m := Int.emod_emod_of_dvd n ⟨2, by rw [two_succ]; omega⟩
/-- The next bit, by a shift. -/
theorem bin_next (n : Int) (m : Nat) : bin (m + 1) (n % 2 ^ (m + 1)) = n / 2 ^ m % 2 :: bin m (n % 2 ^ m) := by rw [bin, mod_div, mod_mod]
theorem bin_mod {n : Int} {w : Nat} (h0 : 0 ≤ n) (h1 : n < 2 ^ w) : bin w (n % 2 ^ w) = bin w n := by rw [Int.emod_eq_of_lt h0 h1]

theorem wraps_i64 (n : Int) (h₀ : 0 ≤ n) (h₁ : n < 2 ^ 62) : IntKind.i64.wrap n = n := by rw [IntKind.wrap_i64]; omega
theorem and_one {x : Int} (h0 : 0 ≤ x) (h1 : x ≤ 1048576) : bits .and .i64 x 1 = x % 2 := bits_mask .i64 62 (by decide) wraps_i64 1 (by decide) x h0 (by omega)
theorem or_bit {x b : Int} (h0 : 0 ≤ x) (h1 : x ≤ 1048576) (hb : b = 0 ∨ b = 1) : bits .or .i64 (2 * x) b = 2 * x + b :=
  bits_join .i64 62 (by decide) wraps_i64 1 (2 * x) b (by omega) (by omega) (by omega) (by omega) (by omega) (by omega)

theorem two_le' {k : Nat} (h : k ≤ 20) : (1 : Int) ≤ 2 ^ k ∧ (2 : Int) ^ k ≤ 1048576 := by
  have key : ∀ k : Nat, k < 21 → (1 : Int) ≤ 2 ^ k ∧ (2 : Int) ^ k ≤ 1048576 := by decide +kernel
  exact key k (by omega)
theorem num_take' {l : List Int} {k : Nat} (h : k < l.length) : num 0 (l.take (k + 1)) = 2 * num 0 (l.take k) + at0 l k := by
  have e : at0 l k = l[k] := by simp [at0, h]
  rw [List.take_succ_eq_append_getElem h, num_append, e]
  rfl
theorem num_small' {l : List Int} (h : Bit l) (h20 : l.length ≤ 20) (k : Nat) : 0 ≤ num 0 (l.take k) ∧ num 0 (l.take k) ≤ 1048576 := by
  have h1 := num_in (bit_take h k)
  have h2 := (two_le' (k := (l.take k).length) (by rw [List.length_take]; omega)).2
  exact ⟨h1.1, by omega⟩

/-- Noughts behind. -/
theorem num_zeros (l : List Int) (k : Nat) : num 0 (l ++ upto (fun _ => 0) k) = num 0 l * 2 ^ k := by
  induction k with
  | zero => simp [upto]
  | succ k ih =>
    rw [upto_succ, ← List.append_assoc, num_append, ih]
    simp only [num]
    rw [two_succ]
    have : num 0 l * (2 * 2 ^ k) = 2 * (num 0 l * 2 ^ k) := by rw [← Int.mul_assoc, Int.mul_comm (num 0 l) 2, Int.mul_assoc]
    omega
/-- Eight of bits, cut short at the last. -/
theorem eight_cut (bs : List Int) {i : Nat} (h : 8 * i < bs.length) : eight bs i = (bs.drop (8 * i)).take (min (8 * i + 8) bs.length - 8 * i) ++ upto (fun _ => 0) (8 - (min (8 * i + 8) bs.length - 8 * i)) := by
  have hl : ((bs.drop (8 * i)).take (min (8 * i + 8) bs.length - 8 * i)).length = min (8 * i + 8) bs.length - 8 * i := by rw [List.length_take, List.length_drop]; omega
  refine eq_of_at (by rw [eight_length, List.length_append, hl, upto_length]; omega) fun q hq => ?_
  rw [eight_length] at hq
  have e : at0 (eight bs i) q = at0 bs (8 * i + q) := by unfold eight; exact upto_at _ hq
  rw [e]
  by_cases hx : q < min (8 * i + 8) bs.length - 8 * i
  · have e2 : at0 ((bs.drop (8 * i)).take (min (8 * i + 8) bs.length - 8 * i) ++ upto (fun _ => 0) (8 - (min (8 * i + 8) bs.length - 8 * i))) q = at0 bs (8 * i + q) := by
      unfold at0
      rw [List.getElem?_append_left (by rw [hl]; exact hx), List.getElem?_take, if_pos hx, List.getElem?_drop]
    exact e2.symm
  · have e2 : at0 ((bs.drop (8 * i)).take (min (8 * i + 8) bs.length - 8 * i) ++ upto (fun _ => 0) (8 - (min (8 * i + 8) bs.length - 8 * i))) q = 0 := by
      have := upto_at (fun _ => (0 : Int)) (k := 8 - (min (8 * i + 8) bs.length - 8 * i)) (i := q - (min (8 * i + 8) bs.length - 8 * i)) (by omega)
      unfold at0 at this ⊢
      rw [List.getElem?_append_right (by rw [hl]; omega), hl]
      exact this
    rw [e2]
    exact at0_none (by omega)
theorem num_eight (bs : List Int) {i : Nat} (h : 8 * i < bs.length) : num 0 (eight bs i) = num 0 ((bs.drop (8 * i)).take (min (8 * i + 8) bs.length - 8 * i)) * 2 ^ (8 - (min (8 * i + 8) bs.length - 8 * i)) := by rw [eight_cut bs h, num_zeros]

end Go.Proofs.YtjojeifoddonnakDoor.Wid
