/-
  The numbers of chapter 8: how loud, in few steps. No program here.
-/
import Derived.Test.YtjnmogmagngenaeBase
import Derived.Lib.BitFns
namespace Go.Proofs.Ytjnmogmagngenae.Gai
set_option linter.unusedVariables false

/-- How loud a number is. -/
def gi (n : Nat) : Nat := if n = 0 then 0 else 1 + 4 * Nat.log2 n + (n - 2 ^ Nat.log2 n) * 4 / 2 ^ Nat.log2 n
/-- The middle of the numbers that are as loud. -/
def mid (g : Nat) : Nat := 2 ^ ((g - 1) / 4) + (2 * ((g - 1) % 4) + 1) * 2 ^ ((g - 1) / 4) / 8
def vl (g : Nat) : Nat := if g = 0 then 0 else mid g
/-- There is a number of that gain. -/
def vo (g : Nat) : Bool := Nat.ble (vl g) 8000 && Nat.beq (gi (vl g)) g

theorem gi_zero : gi 0 = 0 := rfl
theorem gi_is {n m q : Nat} (h0 : 2 ^ m ≤ n) (h1 : n < 2 ^ (m + 1)) (hq : (n - 2 ^ m) * 4 / 2 ^ m = q) : gi n = 1 + 4 * m + q := by
  have hp : 0 < 2 ^ m := Nat.two_pow_pos m
  have hn : n ≠ 0 := by omega
  have e : Nat.log2 n = m := (Nat.log2_eq_iff hn).2 ⟨h0, h1⟩
  unfold gi
  rw [if_neg hn, e, hq]
theorem log_is {n : Nat} (h : 0 < n) : ∃ m, 2 ^ m ≤ n ∧ n < 2 ^ (m + 1) :=
  ⟨Nat.log2 n, (Nat.log2_eq_iff (by omega)).1 rfl⟩
theorem log_in {n m : Nat} (h0 : 2 ^ m ≤ n) (h : n ≤ 8000) : m ≤ 12 := by
  rcases Nat.lt_or_ge m 13 with g | g
  · omega
  · have := Nat.pow_le_pow_right (show 0 < 2 by omega) g
    omega
/-- How many bits. -/
theorem len_is {n m : Nat} (h0 : 2 ^ m ≤ n) (h1 : n < 2 ^ (m + 1)) (h : n ≤ 8000) : Lib.bitLen n = m + 1 := by
  rw [Lib.bitLen_shift m n h0 (by omega)]
  have hp : 0 < 2 ^ m := Nat.two_pow_pos m
  have e : n / 2 ^ m = 1 := by
    rw [Nat.pow_succ] at h1
    exact Nat.div_eq_of_lt_le (by omega) (by omega)
  rw [e]; rfl

theorem vo_is {g : Nat} (h : vo g = true) : vl g ≤ 8000 ∧ gi (vl g) = g := by
  unfold vo at h
  rw [Bool.and_eq_true] at h
  exact ⟨Nat.le_of_ble_eq_true h.1, Nat.eq_of_beq_eq_true h.2⟩
theorem vo_not {g : Nat} (h : vo g = false) : 8000 < vl g ∨ (vl g ≤ 8000 ∧ gi (vl g) ≠ g) := by
  rcases Nat.lt_or_ge 8000 (vl g) with g1 | g1
  · exact Or.inl g1
  · refine Or.inr ⟨g1, fun e => ?_⟩
    unfold vo at h
    rw [Nat.ble_eq_true_of_le g1, e, Nat.beq_refl] at h
    cases h

def allOk (p : Nat → Bool) : Nat → Bool
  | 0 => true
  | n + 1 => p n && allOk p n
def blk (p : Nat → Bool) : Bool := allOk (fun a => allOk (fun b => p (100 * a + b)) 100) 81
theorem allOk_at {p : Nat → Bool} : ∀ {n}, allOk p n = true → ∀ i, i < n → p i = true
  | 0, _, i, hi => absurd hi (Nat.not_lt_zero _)
  | n + 1, h, i, hi => by
    simp only [allOk, Bool.and_eq_true] at h
    rcases Nat.lt_or_ge i n with g | g
    · exact allOk_at h.2 i g
    · obtain rfl : i = n := by omega
      exact h.1
theorem blk_at {p : Nat → Bool} (h : blk p = true) (n : Nat) (hn : n < 8100) : p n = true := by
  have h1 := allOk_at (allOk_at h (n / 100) (by omega)) (n % 100) (by omega)
  have e : 100 * (n / 100) + n % 100 = n := by omega
  rwa [e] at h1

theorem gi_all : blk (fun n => Nat.ble 8001 n || (vo (gi n) && Nat.ble (8 * (vl (gi n) - n)) n && Nat.ble (8 * (n - vl (gi n))) n && Nat.ble (gi n) 53)) = true := by decide +kernel
/-- WITHIN AN EIGHTH; and as loud. -/
theorem gi_near {n : Nat} (h : n ≤ 8000) : gi n ≤ 53 ∧ vo (gi n) = true ∧ 8 * (vl (gi n) - n) ≤ n ∧ 8 * (n - vl (gi n)) ≤ n := by
  have := blk_at gi_all n (by omega)
  rw [Bool.or_eq_true, Bool.and_eq_true, Bool.and_eq_true, Bool.and_eq_true] at this
  rcases this with g | ⟨⟨⟨g1, g2⟩, g3⟩, g4⟩
  · have := Nat.le_of_ble_eq_true g; omega
  · exact ⟨Nat.le_of_ble_eq_true g4, g1, Nat.le_of_ble_eq_true g2, Nat.le_of_ble_eq_true g3⟩
theorem twice_all : blk (fun n => Nat.ble n 0 || (Nat.ble 4001 n || Nat.beq (gi (2 * n)) (gi n + 4))) = true := by decide +kernel
/-- TWICE AS LOUD, FOUR STEPS. -/
theorem gi_twice {n : Nat} (h0 : 0 < n) (h : n ≤ 4000) : gi (2 * n) = gi n + 4 := by
  have := blk_at twice_all n (by omega)
  rw [Bool.or_eq_true, Bool.or_eq_true] at this
  rcases this with g | g | g
  · have := Nat.le_of_ble_eq_true g; omega
  · have := Nat.le_of_ble_eq_true g; omega
  · exact Nat.eq_of_beq_eq_true g
theorem up_all : blk (fun n => Nat.ble 8000 n || Nat.ble (gi n) (gi (n + 1))) = true := by decide +kernel
/-- A greater number is no less loud. -/
theorem gi_up {n m : Nat} (h : n ≤ m) (hm : m ≤ 8000) : gi n ≤ gi m := by
  induction m with
  | zero => obtain rfl : n = 0 := by omega
            exact Nat.le_refl _
  | succ m ih =>
    rcases Nat.lt_or_ge m n with g | g
    · obtain rfl : n = m + 1 := by omega
      exact Nat.le_refl _
    · have h1 := ih g (by omega)
      have := blk_at up_all m (by omega)
      rw [Bool.or_eq_true] at this
      rcases this with g | g
      · have := Nat.le_of_ble_eq_true g; omega
      · exact Nat.le_trans h1 (Nat.le_of_ble_eq_true g)

/-- The greatest power, and how many fourths of it. -/
theorem fourths {n p q : Nat} (hp : 0 < p) (h0 : q * p ≤ 4 * (n - p)) (h1 : 4 * (n - p) < (q + 1) * p) : (n - p) * 4 / p = q := by
  rw [Nat.mul_comm (n - p) 4]
  exact Nat.div_eq_of_lt_le h0 h1

end Go.Proofs.Ytjnmogmagngenae.Gai
