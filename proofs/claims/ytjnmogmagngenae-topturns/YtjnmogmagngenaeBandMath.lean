/-
  The numbers of chapter 9, as lists: sizes, what they have in all, numbers cut apart, and joined. No program here.
-/
import Derived.Test.YtjnmogmagngenaeTreeMath
import Derived.Test.YtjnmogmagngenaeDeep
namespace Go.Proofs.Ytjnmogmagngenae.Bnd
open Go.Proofs.Ytjnmogmagngenae.Tre
set_option linter.unusedVariables false

/-- No size. -/
def bad (n : Int) : Bool := decide (n < 1) || decide (6 < n)
/-- How many numbers the first j bands have. -/
def pre (s : List Int) : Nat → Nat
  | 0 => 0
  | j + 1 => pre s j + (at0 s j).toNat
def total (s : List Int) : Nat := pre s s.length
/-- The fault of sizes: 0 where there is none. -/
def bf (s : List Int) : Int := if s.length = 0 then 5 else if 8 < s.length then 4 else if s.any bad = true then 1 else if 32 < total s then 4 else 0
/-- Band j, and all. -/
def cutAt (l s : List Int) (j : Nat) : List Int := (l.drop (pre s j)).take (at0 s j).toNat
def cuts (l s : List Int) : List (List Int) := (List.range s.length).map (cutAt l s)
/-- As many bands, each of its size. -/
def Shaped (ll : List (List Int)) (s : List Int) : Prop := ll.length = s.length ∧ ∀ i, i < s.length → ((rowAt ll i).length : Int) = at0 s i
/-- All sizes are such. -/
def Sizes (s : List Int) : Prop := ∀ i, i < s.length → 1 ≤ at0 s i ∧ at0 s i ≤ 6

theorem bad_no {n : Int} (h : bad n = false) : 1 ≤ n ∧ n ≤ 6 := by simp [bad] at h; omega
theorem at_get {s : List Int} {i : Nat} (h : i < s.length) : at0 s i = s[i] := by simp [at0, h]
theorem bf_ok {s : List Int} (h : bf s = 0) : 0 < s.length ∧ s.length ≤ 8 ∧ Sizes s ∧ total s ≤ 32 := by
  unfold bf at h
  split at h
  · omega
  · split at h
    · omega
    · split at h
      · omega
      · split at h
        · omega
        · rename_i h1 h2 h3 h4
          refine ⟨by omega, by omega, fun i hi => ?_, by omega⟩
          rw [at_get hi]
          have h5 : s.any bad = false := by simpa using h3
          exact bad_no (by simpa using List.any_eq_false.1 h5 _ (List.getElem_mem hi))
theorem any_bad_no {s : List Int} (h : Sizes s) : s.any bad = false := by
  apply List.any_eq_false.2
  intro n hn
  obtain ⟨i, hi, rfl⟩ := List.getElem_of_mem hn
  have := h i hi
  rw [at_get hi] at this
  simp [bad]; omega
theorem bf_of {s : List Int} (h0 : 0 < s.length) (h8 : s.length ≤ 8) (h1 : Sizes s) (h2 : total s ≤ 32) : bf s = 0 := by
  unfold bf
  rw [if_neg (by omega), if_neg (by omega), if_neg (by rw [any_bad_no h1]; simp), if_neg (by omega)]

theorem pre_le (s : List Int) {i j : Nat} (h : i ≤ j) : pre s i ≤ pre s j := by
  induction j with
  | zero => obtain rfl : i = 0 := by omega
            exact Nat.le_refl _
  | succ j ih =>
    by_cases e : i = j + 1
    · rw [e]; exact Nat.le_refl _
    · have := ih (by omega)
      simp only [pre]; omega
theorem pre_succ (s : List Int) (j : Nat) : pre s (j + 1) = pre s j + (at0 s j).toNat := rfl
theorem pre_total (s : List Int) {j : Nat} (h : j ≤ s.length) : pre s j ≤ total s := pre_le s h
/-- .. where all are sizes: no more than six times as many. -/
theorem pre_six {s : List Int} (h : Sizes s) {j : Nat} (hj : j ≤ s.length) : pre s j ≤ 6 * j := by
  induction j with
  | zero => exact Nat.le_refl _
  | succ j ih =>
    have := ih (by omega)
    have := h j (by omega)
    simp only [pre]; omega
theorem total_pos {s : List Int} (h : Sizes s) (h0 : 0 < s.length) : 0 < total s := by
  have h1 := pre_total s (j := 1) h0
  have h2 := h 0 h0
  simp only [pre] at h1
  omega

theorem cuts_length (l s : List Int) : (cuts l s).length = s.length := by simp [cuts]
theorem cuts_at (l s : List Int) {j : Nat} (h : j < s.length) : rowAt (cuts l s) j = cutAt l s j := by simp [rowAt, cuts, h]
theorem cutAt_length {l s : List Int} (hs : total s = l.length) {j : Nat} (h : j < s.length) : (cutAt l s j).length = (at0 s j).toNat := by
  have := pre_total s (j := j + 1) h
  rw [pre_succ] at this
  unfold cutAt
  rw [List.length_take, List.length_drop]
  omega
theorem shaped_cuts {l s : List Int} (h1 : Sizes s) (hs : total s = l.length) : Shaped (cuts l s) s := by
  refine ⟨cuts_length l s, fun i hi => ?_⟩
  rw [cuts_at l s hi, cutAt_length hs hi]
  have := h1 i hi
  omega

theorem take_succ_rows {ll : List (List Int)} {j : Nat} (h : j < ll.length) : ll.take (j + 1) = ll.take j ++ [rowAt ll j] := by
  rw [List.take_succ_eq_append_getElem h, rowAt_get h]
theorem flat_step {ll : List (List Int)} {j : Nat} (h : j < ll.length) : (ll.take (j + 1)).flatten = (ll.take j).flatten ++ rowAt ll j := by
  rw [take_succ_rows h, List.flatten_append]; simp
theorem flat_le (ll : List (List Int)) (j : Nat) : (ll.take j).flatten.length ≤ ll.flatten.length := by
  conv => rhs; rw [← List.take_append_drop j ll, List.flatten_append, List.length_append]
  omega

/-- Cut, and joined: the first j. -/
theorem cuts_take (l s : List Int) {j : Nat} (h : j ≤ s.length) : ((cuts l s).take j).flatten = l.take (pre s j) := by
  induction j with
  | zero => simp [pre]
  | succ j ih =>
    rw [flat_step (by rw [cuts_length]; omega), ih (by omega), cuts_at l s (by omega), pre_succ, List.take_add]
    rfl
theorem join_cuts {l s : List Int} (hs : total s = l.length) : (cuts l s).flatten = l := by
  have := cuts_take l s (Nat.le_refl s.length)
  rw [List.take_of_length_le (by rw [cuts_length]; exact Nat.le_refl _)] at this
  rw [this]
  exact List.take_of_length_le (by show l.length ≤ total s; omega)

theorem Shaped.pre {ll : List (List Int)} {s : List Int} (h : Shaped ll s) {j : Nat} (hj : j ≤ s.length) : (ll.take j).flatten.length = pre s j := by
  induction j with
  | zero => simp [Bnd.pre]
  | succ j ih =>
    rw [flat_step (by rw [h.1]; omega), List.length_append, ih (by omega), pre_succ]
    have := h.2 j (by omega)
    omega
theorem Shaped.total {ll : List (List Int)} {s : List Int} (h : Shaped ll s) : ll.flatten.length = total s := by
  have := h.pre (Nat.le_refl s.length)
  rw [List.take_of_length_le (by rw [h.1]; exact Nat.le_refl _)] at this
  exact this
/-- Joined, and cut. -/
theorem cuts_join {ll : List (List Int)} {s : List Int} (h : Shaped ll s) : cuts ll.flatten s = ll := by
  apply List.ext_getElem
  · rw [cuts_length, h.1]
  · intro j h1 h2
    rw [cuts_length] at h1
    have e := cuts_at ll.flatten s h1
    rw [rowAt_get (by rw [cuts_length]; exact h1)] at e
    rw [e, ← rowAt_get h2]
    have h3 : ll.flatten = (ll.take j).flatten ++ (rowAt ll j ++ (ll.drop (j + 1)).flatten) := by
      conv => lhs; rw [← List.take_append_drop (j + 1) ll, List.flatten_append, flat_step h2]
      rw [List.append_assoc]
    unfold cutAt
    rw [h3, ← h.pre (by omega), List.drop_left]
    have h4 := h.2 j h1
    have h5 : (at0 s j).toNat = (rowAt ll j).length := by omega
    rw [h5, List.take_left]

/-- Whether bands are of such a shape can be told; where they are as many and yet not, at one first place. -/
theorem shaped_or (ll : List (List Int)) (s : List Int) : ll.length ≠ s.length ∨ Shaped ll s ∨ (ll.length = s.length ∧ ∃ k, k < s.length ∧ ((rowAt ll k).length : Int) ≠ at0 s k ∧ ∀ i, i < k → ((rowAt ll i).length : Int) = at0 s i) := by
  by_cases h : ll.length = s.length
  · refine Or.inr ?_
    have key : ∀ n, n ≤ s.length → (∀ i, i < n → ((rowAt ll i).length : Int) = at0 s i) ∨ ∃ k, k < n ∧ ((rowAt ll k).length : Int) ≠ at0 s k ∧ ∀ i, i < k → ((rowAt ll i).length : Int) = at0 s i := by
      intro n
      induction n with
      | zero => exact fun _ => Or.inl fun i hi => by omega
      | succ n ih =>
        intro hn
        rcases ih (by omega) with h1 | ⟨k, h1, h2, h3⟩
        · by_cases h2 : ((rowAt ll n).length : Int) = at0 s n
          · refine Or.inl fun i hi => ?_
            by_cases e : i = n
            · rw [e]; exact h2
            · exact h1 i (by omega)
          · exact Or.inr ⟨n, by omega, h2, h1⟩
        · exact Or.inr ⟨k, by omega, h2, h3⟩
    rcases key s.length (Nat.le_refl _) with h1 | ⟨k, h1, h2, h3⟩
    · exact Or.inl ⟨h, h1⟩
    · exact Or.inr ⟨h, k, h1, h2, h3⟩
  · exact Or.inl h

end Go.Proofs.Ytjnmogmagngenae.Bnd
