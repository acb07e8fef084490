/-
  The numbers of chapter 5: how many rows of so many numbers and pulses there are. No program here.
-/
import Derived.Test.YtjnmogmagngenadDoorLapMath
namespace Go.Proofs.YtjnmogmagngenadDoor.Cnt
open Go.Proofs.YtjnmogmagngenadDoor.Tre Go.Proofs.YtjnmogmagngenadDoor.Lap
set_option linter.unusedVariables false

/-- Of one pulse more. -/
def more (f : Nat → Int) : Nat → Int
  | 0 => 0
  | n + 1 => more f n + f (n + 1) + f n
/-- How many rows there are, of k pulses and n numbers. -/
def V : Nat → Nat → Int
  | 0, _ => 1
  | k + 1, n => more (V k) n
/-- .. of n from 0 to 6. -/
def cts (k : Nat) : List Int := upto (V k) 7

theorem V_zero (n : Nat) : V 0 n = 1 := rfl
theorem V_none (k : Nat) : V (k + 1) 0 = 0 := rfl
theorem V_sum (k n : Nat) : V (k + 1) (n + 1) = V (k + 1) n + V k (n + 1) + V k n := rfl
theorem V_in : ∀ k n : Nat, k < 9 → n < 7 → 0 ≤ V k n ∧ V k n ≤ 20256 := by
  have h : ∀ k : Nat, k < 9 → ∀ n : Nat, n < 7 → 0 ≤ V k n ∧ V k n ≤ 20256 := by decide +kernel
  exact fun k n hk hn => h k hk n hn
theorem V_turns : ∀ k n : Nat, k < 7 → n < 7 → (k : Int) * V k n = (n : Int) * V n k := by
  have h : ∀ k : Nat, k < 7 → ∀ n : Nat, n < 7 → (k : Int) * V k n = (n : Int) * V n k := by decide +kernel
  exact fun k n hk hn => h k hk n hn
theorem V_one : ∀ n : Nat, n < 7 → V 1 n = 2 * (n : Int) := by decide +kernel
theorem V_single : ∀ k : Nat, k < 9 → V k 1 = if k = 0 then 1 else 2 := by decide +kernel
theorem V_fact : V 2 3 = 18 := by decide +kernel

theorem cts_length (k : Nat) : (cts k).length = 7 := upto_length _ _
theorem cts_at (k : Nat) {n : Nat} (h : n < 7) : at0 (cts k) n = V k n := upto_at _ h
theorem cts_zero : cts 0 = List.replicate 7 1 := rfl
/-- The first is 0 already. -/
theorem mid_one (k : Nat) : mid (V (k + 1)) (fun _ => 0) 7 1 = List.replicate 7 0 := by
  refine eq_of_at (by rw [mid_length]; rfl) fun i hi => ?_
  rw [mid_length] at hi
  unfold mid
  rw [upto_at _ hi]
  have hr : at0 (List.replicate 7 0) i = 0 := by unfold at0; rw [List.getElem?_replicate, if_pos hi]; rfl
  rw [hr]
  by_cases h : i < 1
  · obtain rfl : i = 0 := by omega
    rfl
  · rw [if_neg h]
theorem mid_lt (f g : Nat → Int) {n j i : Nat} (h : i < n) (hj : i < j) : at0 (mid f g n j) i = f i := by unfold mid; rw [upto_at _ h, if_pos hj]

/-- The least number of bits. -/
def Least (m : Int) (b : Nat) : Prop := m ≤ 2 ^ b ∧ ∀ i, i < b → (2 : Int) ^ i < m
theorem Least.one {m : Int} {b c : Nat} (h : Least m b) (k : Least m c) : b = c := by
  rcases Nat.lt_trichotomy b c with e | e | e
  · have := k.2 b e; have := h.1; omega
  · exact e
  · have := h.2 c e; have := k.1; omega
theorem Least.le {m : Int} {b : Nat} (h : Least m b) (hm : m ≤ 20256) : b ≤ 15 := by
  rcases Nat.lt_or_ge 15 b with e | e
  · have := h.2 15 e
    omega
  · exact e

/-- As the document's own answer goes: of one number more, whatever that is. -/
def sumF (f : Nat → Int) : Nat → Int
  | 0 => 0
  | j + 1 => sumF f j + f j
theorem V_more (j n : Nat) : V j (n + 1) = V j n + 2 * sumF (fun i => V i n) j := by
  induction j with
  | zero => rfl
  | succ j ih => rw [V_sum, ih]; simp only [sumF]; omega

theorem pow_in : ∀ j : Nat, j < 16 → (1 : Int) ≤ 2 ^ j ∧ (2 : Int) ^ j ≤ 32768 := by decide +kernel

end Go.Proofs.YtjnmogmagngenadDoor.Cnt
