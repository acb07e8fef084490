/-
  The numbers of chapter 12: the fault of rows, how often a sign is in them. No program here.
-/
import Derived.Test.YtgffpljnhadigagHornMath
import Derived.Test.YtgffpljnhadigagDeep
namespace Go.Proofs.Ytgffpljnhadigag.Lrn
open Go.Proofs.Ytgffpljnhadigag.Tre Go.Proofs.Ytgffpljnhadigag.Scl Go.Proofs.Ytgffpljnhadigag.Hrn
set_option linter.unusedVariables false

/-- No sign of so many. -/
def out (n s : Int) : Bool := decide (s < 0) || decide (n ≤ s)
/-- The fault of rows, row by row. -/
def rf (n : Int) : List (List Int) → Int
  | [] => 0
  | l :: r => if 60 < l.length then 4 else if l.any (out n) = true then 1 else rf n r
/-- The fault of rows of so many signs. -/
def rows (ll : List (List Int)) (n : Int) : Int := if n < 1 ∨ 40 < n then 1 else if 60 < ll.length then 4 else rf n ll
theorem rf_in (n : Int) (ll : List (List Int)) : rf n ll = 0 ∨ rf n ll = 1 ∨ rf n ll = 4 := by
  induction ll with
  | nil => exact Or.inl rfl
  | cons l r ih =>
    rw [rf]
    split
    · exact Or.inr (Or.inr rfl)
    · split
      · exact Or.inr (Or.inl rfl)
      · exact ih
theorem rows_in (ll : List (List Int)) (n : Int) : rows ll n = 0 ∨ rows ll n = 1 ∨ rows ll n = 4 := by
  unfold rows
  split
  · exact Or.inr (Or.inl rfl)
  · split
    · exact Or.inr (Or.inr rfl)
    · exact rf_in n ll
/-- A row of signs of so many, and no longer than may be. -/
def Rw (n : Int) (l : List Int) : Prop := l.length ≤ 60 ∧ ∀ s ∈ l, 0 ≤ s ∧ s < n
theorem out_no {n : Int} {l : List Int} (h : ¬ l.any (out n) = true) : ∀ s ∈ l, 0 ≤ s ∧ s < n := by
  intro s hs
  have h1 : ¬ out n s = true := fun h2 => h (List.any_eq_true.2 ⟨s, hs, h2⟩)
  simp [out] at h1
  omega
theorem rf_zero {n : Int} {ll : List (List Int)} : rf n ll = 0 ↔ ∀ l ∈ ll, Rw n l := by
  induction ll with
  | nil => exact ⟨fun _ l hl => by simp at hl, fun _ => rfl⟩
  | cons l r ih =>
    rw [rf]
    constructor
    · intro h
      split at h
      · omega
      · split at h
        · omega
        · rename_i h1 h2
          intro m hm
          rcases List.mem_cons.1 hm with e | e
          · rw [e]; exact ⟨by omega, out_no h2⟩
          · exact ih.1 h m e
    · intro h
      obtain ⟨h1, h2⟩ := h l (by simp)
      rw [if_neg (by omega), if_neg ?_]
      · exact ih.2 fun m hm => h m (by simp [hm])
      · intro h3
        obtain ⟨s, hs, h4⟩ := List.any_eq_true.1 h3
        have := h2 s hs
        simp [out] at h4
        omega
theorem rows_zero {ll : List (List Int)} {n : Int} (h : rows ll n = 0) : 1 ≤ n ∧ n ≤ 40 ∧ ll.length ≤ 60 ∧ ∀ l ∈ ll, Rw n l := by
  unfold rows at h
  split at h
  · omega
  · split at h
    · omega
    · exact ⟨by omega, by omega, by omega, rf_zero.1 h⟩
theorem rows_ok {ll : List (List Int)} {n : Int} (h1 : 1 ≤ n) (h2 : n ≤ 40) (h3 : ll.length ≤ 60) (h4 : ∀ l ∈ ll, Rw n l) : rows ll n = 0 := by
  unfold rows
  rw [if_neg (by omega), if_neg (by omega)]
  exact rf_zero.2 h4

/-- How often a sign is in rows. -/
def tms (ll : List (List Int)) (s : Int) : Nat := ll.flatten.count s
theorem flat_len {n : Int} {ll : List (List Int)} (h : ∀ l ∈ ll, Rw n l) : ll.flatten.length ≤ 60 * ll.length := by
  induction ll with
  | nil => simp
  | cons l r ih =>
    have h1 := (h l (by simp)).1
    have h2 := ih fun m hm => h m (by simp [hm])
    simp only [List.flatten_cons, List.length_append, List.length_cons]
    omega
theorem tms_le {n : Int} {ll : List (List Int)} (h : ∀ l ∈ ll, Rw n l) (h60 : ll.length ≤ 60) (s : Int) : tms ll s ≤ 3600 := by
  have h1 := flat_len h
  have h2 : tms ll s ≤ ll.flatten.length := List.count_le_length
  omega
theorem tms_nil (s : Int) : tms [] s = 0 := rfl
theorem tms_reverse (ll : List (List Int)) (s : Int) : tms ll.reverse s = tms ll s := by
  unfold tms
  rw [List.count_flatten, List.count_flatten, List.map_reverse, List.sum_reverse]
theorem tms_step {ll : List (List Int)} {k : Nat} (h : k < ll.length) (s : Int) : tms (ll.take (k + 1)) s = tms (ll.take k) s + (rowAt ll k).count s := by
  unfold tms
  rw [List.take_succ_eq_append_getElem h, List.flatten_append, List.count_append, rowAt_get h]
  simp
theorem tms_all (ll : List (List Int)) (s : Int) : tms (ll.take ll.length) s = tms ll s := by rw [List.take_length]
theorem count_step {l : List Int} {q : Nat} (h : q < l.length) (s : Int) : (l.take (q + 1)).count s = (l.take q).count s + if at0 l q = s then 1 else 0 := by
  have e : at0 l q = l[q] := by simp [at0, h]
  rw [List.take_succ_eq_append_getElem h, List.count_append, e, List.count_singleton]
  simp
/-- The counts of so many signs. -/
def cts (ll : List (List Int)) (n : Nat) : List Int := upto (fun s => 1 + (tms ll s : Int)) n
theorem cts_length (ll : List (List Int)) (n : Nat) : (cts ll n).length = n := upto_length _ _
theorem cts_at (ll : List (List Int)) {n i : Nat} (h : i < n) : at0 (cts ll n) i = 1 + (tms ll i : Int) := upto_at _ h
theorem cts_reverse (ll : List (List Int)) (n : Nat) : cts ll.reverse n = cts ll n := upto_congr fun i _ => by rw [tms_reverse]
theorem cts_nil (n : Nat) : cts [] n = upto (fun _ => 1) n := upto_congr fun i _ => by rw [tms_nil]; rfl
theorem cts_ok {ll : List (List Int)} {n : Nat} (h : rows ll n = 0) : cf (cts ll n) = 0 := by
  obtain ⟨h1, h2, h3, h4⟩ := rows_zero h
  have hin : ∀ i, i < (cts ll n).length → 0 ≤ at0 (cts ll n) i ∧ at0 (cts ll n) i ≤ 1000000 := fun i hi => by
    rw [cts_length] at hi
    rw [cts_at ll hi]
    have := tms_le h4 h3 (i : Int)
    omega
  have hany : (cts ll n).any wrong = false := by
    apply List.any_eq_false.2
    intro x hx
    obtain ⟨i, hi, rfl⟩ := List.getElem_of_mem hx
    have h5 := hin i hi
    have e : at0 (cts ll n) i = (cts ll n)[i] := by simp [at0, hi]
    rw [e] at h5
    simp [wrong]; omega
  have htot : 0 < tot (cts ll n) := by
    have h5 := at_le_tot (l := cts ll n) (fun i hi => (hin i hi).1) (i := 0) (by rw [cts_length]; omega)
    rw [cts_at ll (by omega)] at h5
    omega
  unfold cf
  rw [cts_length, if_neg (by omega), if_neg (by omega), if_neg (by rw [hany]; simp), if_neg (by omega)]
/-- The shares that were learnt are right, and each sign has one. -/
theorem learnt {ll : List (List Int)} {n : Nat} (h : rows ll n = 0) : right (scale (cts ll n)) ∧ (scale (cts ll n)).length = n ∧ ∀ i, i < n → 0 < at0 (scale (cts ll n)) i := by
  obtain ⟨h1, h2, h3, h4⟩ := rows_zero h
  obtain ⟨s1, s2, s3, s4⟩ := scale_is (cts_ok h)
  rw [cts_length] at s1 s3 s4
  refine ⟨⟨by omega, by omega, fun i hi => s3 i (by omega), s2⟩, s1, fun i hi => (s4 i hi).2 ?_⟩
  rw [cts_at ll hi]
  omega

end Go.Proofs.Ytgffpljnhadigag.Lrn
