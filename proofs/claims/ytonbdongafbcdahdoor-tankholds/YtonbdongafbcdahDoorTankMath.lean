/-
  The numbers of chapter 15: a tank, its turns. No program here.
-/
import Derived.Test.YtonbdongafbcdahDoorTreeMath
namespace Go.Proofs.YtonbdongafbcdahDoor.Tnk
open Go.Proofs.YtonbdongafbcdahDoor.Tre
set_option linter.unusedVariables false

/-- A tank that may be. -/
def Ok (S E H : Int) : Prop := 0 ≤ S ∧ S ≤ 1000000 ∧ 0 ≤ E ∧ E ≤ S ∧ 0 ≤ H ∧ H ≤ S
instance (S E H : Int) : Decidable (Ok S E H) := by unfold Ok; infer_instance
def tankF (S E H : Int) : Int := if Ok S E H then 0 else 1
/-- How many may go. -/
def may (S E H : Int) : Int := if S < H + E then S else H + E
/-- The fault of a turn. -/
def turnF (S E H b : Int) : Int := if Ok S E H then (if b < 0 ∨ 1000000 < b then 1 else if may S E H < b then 8 else 0) else 1
theorem may_in {S E H : Int} (h : Ok S E H) : 0 ≤ may S E H ∧ may S E H ≤ S := by
  obtain ⟨h1, h2, h3, h4, h5, h6⟩ := h
  unfold may
  split <;> omega
theorem turnF_zero {S E H b : Int} : turnF S E H b = 0 ↔ Ok S E H ∧ 0 ≤ b ∧ b ≤ 1000000 ∧ b ≤ may S E H := by
  unfold turnF
  constructor
  · intro h
    split at h
    · split at h
      · omega
      · split at h
        · omega
        · rename_i h1 h2 h3
          exact ⟨h1, by omega, by omega, by omega⟩
    · omega
  · intro ⟨h1, h2, h3, h4⟩
    rw [if_pos h1, if_neg (by omega), if_neg (by omega)]
theorem turn_ok {S E H b : Int} (h : turnF S E H b = 0) : Ok S E (may S E H - b) := by
  obtain ⟨h1, h2, h3, h4⟩ := turnF_zero.1 h
  have := may_in h1
  obtain ⟨k1, k2, k3, k4, k5, k6⟩ := h1
  exact ⟨k1, k2, k3, k4, by omega, by omega⟩
/-- Turn by turn: the fault, and how many are there at last. -/
def rn (S E : Int) : Int → List Int → Int × Int
  | H, [] => (0, H)
  | H, b :: l => if turnF S E H b = 0 then rn S E (may S E H - b) l else (turnF S E H b, 0)
def runF (S E H : Int) (l : List Int) : Int := if 60 < l.length then 4 else if Ok S E H then (rn S E H l).1 else 1
/-- How many are there behind the first j turns. -/
def hs (S E H : Int) (l : List Int) : Nat → Int
  | 0 => H
  | j + 1 => may S E (hs S E H l j) - at0 l j
/-- The turns from i on, k of them, added up. -/
def sums (l : List Int) (i : Nat) : Nat → Int
  | 0 => 0
  | k + 1 => sums l i k + at0 l (i + k)
theorem rn_hs {S E : Int} {l : List Int} {H : Int} (h : Ok S E H) (hz : (rn S E H l).1 = 0) : (∀ j, j < l.length → turnF S E (hs S E H l j) (at0 l j) = 0) ∧ (rn S E H l).2 = hs S E H l l.length := by
  induction l generalizing H with
  | nil => exact ⟨fun j hj => by simp at hj, rfl⟩
  | cons b l ih =>
    rw [rn] at hz ⊢
    by_cases ht : turnF S E H b = 0
    · rw [if_pos ht] at hz ⊢
      obtain ⟨h1, h2⟩ := ih (turn_ok ht) hz
      have key : ∀ j, hs S E H (b :: l) (j + 1) = hs S E (may S E H - b) l j := by
        intro j
        induction j with
        | zero => rfl
        | succ j ihj => rw [hs, ihj, hs]; rfl
      refine ⟨fun j hj => ?_, ?_⟩
      · cases j with
        | zero => exact ht
        | succ j =>
          rw [key]
          exact h1 j (by simpa using hj)
      · rw [List.length_cons, key, h2]
    · rw [if_neg ht] at hz
      exact absurd hz ht
theorem hs_ok {S E : Int} {l : List Int} {H : Int} (h : Ok S E H) (hz : ∀ j, j < l.length → turnF S E (hs S E H l j) (at0 l j) = 0) {j : Nat} (hj : j ≤ l.length) : Ok S E (hs S E H l j) := by
  cases j with
  | zero => exact h
  | succ j => exact turn_ok (hz j (by omega))
/-- No more goes than there was, and came. -/
theorem sums_le {S E : Int} {l : List Int} {H : Int} (h : Ok S E H) (hz : ∀ j, j < l.length → turnF S E (hs S E H l j) (at0 l j) = 0) {i k : Nat} (hk : i + k ≤ l.length) : sums l i k + hs S E H l (i + k) ≤ hs S E H l i + k * E := by
  induction k with
  | zero => simp [sums]
  | succ k ih =>
    have h1 := ih (by omega)
    have h2 : hs S E H l (i + (k + 1)) = may S E (hs S E H l (i + k)) - at0 l (i + k) := rfl
    have h3 : may S E (hs S E H l (i + k)) ≤ hs S E H l (i + k) + E := by unfold may; split <;> omega
    have h4 : ((k + 1 : Nat) : Int) * E = k * E + E := by rw [Int.natCast_add, Int.add_mul]; simp
    rw [sums, h4, h2]
    omega
theorem holds {S E : Int} {l : List Int} {H : Int} (h : Ok S E H) (hz : ∀ j, j < l.length → turnF S E (hs S E H l j) (at0 l j) = 0) {i k : Nat} (hk : i + k ≤ l.length) : sums l i k ≤ S + k * E := by
  have h1 := sums_le h hz hk
  have h2 := (hs_ok h hz hk).2.2.2.2.1
  have h3 := (hs_ok h hz (show i ≤ l.length by omega)).2.2.2.2.2
  omega
/-- As much as comes may go, for ever. -/
theorem even {S E : Int} (h : Ok S E (S - E)) (n : Nat) : rn S E (S - E) (List.replicate n E) = (0, S - E) := by
  induction n with
  | zero => rfl
  | succ n ih =>
    obtain ⟨h1, h2, h3, h4, h5, h6⟩ := h
    have hm : may S E (S - E) = S := by unfold may; rw [if_neg (by omega)]; omega
    have ht : turnF S E (S - E) E = 0 := turnF_zero.2 ⟨⟨h1, h2, h3, h4, h5, h6⟩, h3, by omega, by rw [hm]; exact h4⟩
    rw [List.replicate_succ, rn, if_pos ht, hm]
    exact ih

/-- What a turn tells of a tank. -/
def tS (S E H b : Int) : Int := if turnF S E H b = 0 then S else 0
def tE (S E H b : Int) : Int := if turnF S E H b = 0 then E else 0
def tH (S E H b : Int) : Int := if turnF S E H b = 0 then may S E H - b else 0
def mayN (S E H : Int) : Int := if tankF S E H = 0 then may S E H else 0
def lastN (S E H : Int) (l : List Int) : Int := if runF S E H l = 0 then (rn S E H l).2 else 0
theorem tankF_zero {S E H : Int} : tankF S E H = 0 ↔ Ok S E H := by
  unfold tankF
  constructor
  · intro h
    split at h
    · assumption
    · omega
  · intro h
    rw [if_pos h]
theorem tankF_in (S E H : Int) : tankF S E H = 0 ∨ tankF S E H = 1 := by
  unfold tankF
  split <;> omega
theorem turnF_in (S E H b : Int) : turnF S E H b = 0 ∨ turnF S E H b = 1 ∨ turnF S E H b = 8 := by
  unfold turnF
  split
  · split
    · omega
    · split <;> omega
  · omega
theorem turn_is {S E H b : Int} (h : turnF S E H b = 0) : tS S E H b = S ∧ tE S E H b = E ∧ tH S E H b = may S E H - b := by
  unfold tS tE tH
  rw [if_pos h, if_pos h, if_pos h]
  exact ⟨rfl, rfl, rfl⟩
theorem turn_no {S E H b : Int} (h : turnF S E H b ≠ 0) : tS S E H b = 0 ∧ tE S E H b = 0 ∧ tH S E H b = 0 := by
  unfold tS tE tH
  rw [if_neg h, if_neg h, if_neg h]
  exact ⟨rfl, rfl, rfl⟩
/-- Turn by turn, from where one is. -/
def from_ (S E H : Int) (l : List Int) (j : Nat) : Int × Int := rn S E H (l.drop j)
theorem from_step {S E H : Int} {l : List Int} {j : Nat} (hj : j < l.length) : from_ S E H l j = if turnF S E H (at0 l j) = 0 then from_ S E (may S E H - at0 l j) l (j + 1) else (turnF S E H (at0 l j), 0) := by
  unfold from_
  have e : at0 l j = l[j] := by simp [at0, hj]
  rw [List.drop_eq_getElem_cons hj, rn, e]
theorem from_end (S E H : Int) (l : List Int) : from_ S E H l l.length = (0, H) := by
  unfold from_
  rw [List.drop_length]
  rfl
theorem from_zero (S E H : Int) (l : List Int) : from_ S E H l 0 = rn S E H l := rfl

theorem runF_zero {S E H : Int} {l : List Int} (h : runF S E H l = 0) : l.length ≤ 60 ∧ Ok S E H ∧ (rn S E H l).1 = 0 := by
  unfold runF at h
  split at h
  · omega
  · split at h
    · rename_i h1 h2
      exact ⟨by omega, h2, h⟩
    · omega
/-- What Run tells of turns that all go. -/
theorem run_holds {S E H : Int} {l : List Int} (h : runF S E H l = 0) : (∀ j, j < l.length → 0 ≤ at0 l j ∧ at0 l j ≤ 1000000) ∧ (∀ i k, i + k ≤ l.length → sums l i k ≤ S + k * E) ∧ 0 ≤ lastN S E H l ∧ lastN S E H l ≤ S := by
  obtain ⟨h1, h2, h3⟩ := runF_zero h
  obtain ⟨h4, h5⟩ := rn_hs h2 h3
  have h6 := hs_ok h2 h4 (Nat.le_refl l.length)
  refine ⟨fun j hj => ?_, fun i k hk => holds h2 h4 hk, ?_, ?_⟩
  · obtain ⟨_, e1, e2, _⟩ := turnF_zero.1 (h4 j hj)
    exact ⟨e1, e2⟩
  · unfold lastN
    rw [if_pos h, h5]
    exact h6.2.2.2.2.1
  · unfold lastN
    rw [if_pos h, h5]
    exact h6.2.2.2.2.2
theorem sums_nonneg {l : List Int} (h : ∀ j, j < l.length → 0 ≤ at0 l j ∧ at0 l j ≤ 1000000) {i k : Nat} (hk : i + k ≤ l.length) : 0 ≤ sums l i k ∧ sums l i k ≤ 1000000 * k := by
  induction k with
  | zero => simp [sums]
  | succ k ih =>
    have h1 := ih (by omega)
    have h2 := h (i + k) (by omega)
    rw [sums]
    omega
/-- As much as may go goes, and one more does not. -/
theorem turn_may {S E H : Int} (h : Ok S E H) : turnF S E H (may S E H) = 0 ∧ (turnF S E H (may S E H + 1) = 8 ∨ (turnF S E H (may S E H + 1) = 1 ∧ may S E H = 1000000)) := by
  have hm := may_in h
  have h9 := h.2.1
  refine ⟨turnF_zero.2 ⟨h, hm.1, by omega, Int.le_refl _⟩, ?_⟩
  unfold turnF
  rw [if_pos h]
  by_cases h1 : 1000000 < may S E H + 1
  · rw [if_pos (Or.inr h1)]
    exact Or.inr ⟨rfl, by omega⟩
  · rw [if_neg (by omega), if_pos (by omega)]
    exact Or.inl rfl

end Go.Proofs.YtonbdongafbcdahDoor.Tnk
