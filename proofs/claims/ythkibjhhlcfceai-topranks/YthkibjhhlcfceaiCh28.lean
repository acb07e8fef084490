/-
  The fault of shares and a row of signs. No program here.
-/
import Derived.Test.YthkibjhhlcfceaiCh27
import Derived.Test.YthkibjhhlcfceaiCh04
namespace Go.Proofs.Ythkibjhhlcfceai.Hrn
open Go.Proofs.Ythkibjhhlcfceai.Tre Go.Proofs.Ythkibjhhlcfceai.Scl
set_option linter.unusedVariables false

/-- The fault of signs, one by one. -/
def sf (f : List Int) : List Int → Int
  | [] => 0
  | s :: l => if s < 0 ∨ (f.length : Int) ≤ s then 1 else if at0 f s.toNat = 0 then 5 else sf f l
theorem sf_signs {f : List Int} (hf : right f) (l : List Int) : sf f l = 0 ↔ Signs f l := by
  induction l with
  | nil => exact ⟨fun _ s hs => by simp at hs, fun _ => rfl⟩
  | cons s l ih =>
    rw [sf]
    constructor
    · intro h
      split at h
      · omega
      · split at h
        · omega
        · rename_i h1 h2
          intro t ht
          rcases List.mem_cons.1 ht with e | e
          · subst e
            have h3 := hf.2.2.1 t.toNat (by omega)
            exact ⟨by omega, by omega, by omega⟩
          · exact ih.1 h t e
    · intro h
      obtain ⟨h1, h2, h3⟩ := h s (by simp)
      rw [if_neg (by omega), if_neg (by omega)]
      exact ih.2 fun t ht => h t (by simp [ht])
theorem sf_in (f l : List Int) : sf f l = 0 ∨ sf f l = 1 ∨ sf f l = 5 := by
  induction l with
  | nil => exact Or.inl rfl
  | cons s l ih =>
    rw [sf]
    split
    · exact Or.inr (Or.inl rfl)
    · split
      · exact Or.inr (Or.inr rfl)
      · exact ih
theorem drop_cons {l : List Int} {k : Nat} (h : k < l.length) : l.drop k = at0 l k :: l.drop (k + 1) := by
  rw [List.drop_eq_getElem_cons h]
  simp [at0, h]
/-- The fault of shares and a row. -/
def RowF (f l : List Int) (e : Int) : Prop := (¬ right f ∧ e = 3) ∨ (right f ∧ 60 < l.length ∧ e = 4) ∨ (right f ∧ l.length ≤ 60 ∧ e = sf f l)
theorem RowF.one {f l : List Int} {e e' : Int} (h : RowF f l e) (k : RowF f l e') : e = e' := by
  rcases h with ⟨a, b⟩ | ⟨a, b, c⟩ | ⟨a, b, c⟩ <;> rcases k with ⟨a', b'⟩ | ⟨a', b', c'⟩ | ⟨a', b', c'⟩
  all_goals first | omega | exact absurd a' a | exact absurd a a'
theorem rowF_is (f l : List Int) : ∃ e, RowF f l e ∧ (e = 0 ∨ e = 1 ∨ e = 3 ∨ e = 4 ∨ e = 5) := by
  by_cases h : right f
  · by_cases h2 : 60 < l.length
    · exact ⟨4, Or.inr (Or.inl ⟨h, h2, rfl⟩), by omega⟩
    · exact ⟨sf f l, Or.inr (Or.inr ⟨h, by omega, rfl⟩), by have := sf_in f l; omega⟩
  · exact ⟨3, Or.inl ⟨h, rfl⟩, by omega⟩
theorem RowF.zero {f l : List Int} (h : RowF f l 0) : right f ∧ l.length ≤ 60 ∧ Signs f l := by
  rcases h with ⟨a, b⟩ | ⟨a, b, c⟩ | ⟨a, b, c⟩
  · omega
  · omega
  · exact ⟨a, b, (sf_signs a l).1 c.symm⟩

end Go.Proofs.Ythkibjhhlcfceai.Hrn

/-
  What was learnt can be said: a row of signs that were learnt. No program here.
-/
namespace Go.Proofs.Ythkibjhhlcfceai.Lrn
open Go.Proofs.Ythkibjhhlcfceai.Tre Go.Proofs.Ythkibjhhlcfceai.Scl Go.Proofs.Ythkibjhhlcfceai.Hrn
set_option linter.unusedVariables false

theorem said_signs {ll : List (List Int)} {n : Nat} (h : rows ll n = 0) {l : List Int} (hl : ∀ x ∈ l, 0 ≤ x ∧ x < n) : Signs (scale (cts ll n)) l := by
  obtain ⟨_, h2, h3⟩ := learnt h
  intro s hs
  have h4 := hl s hs
  exact ⟨h4.1, by rw [h2]; exact h4.2, h3 _ (by omega)⟩
theorem said_row {f l : List Int} (hf : Scl.right f) (h60 : l.length ≤ 60) (hl : Signs f l) : RowF f l 0 := Or.inr (Or.inr ⟨hf, h60, ((sf_signs hf l).2 hl).symm⟩)

end Go.Proofs.Ythkibjhhlcfceai.Lrn

/-
  Words for the contracts of chapter 10: cells of a row, sums that no integer is too small for, the fault of counts.
-/
namespace Go.Proofs.Ythkibjhhlcfceai.Scl
open Go.RowKit
open Go.Proofs.Ythkibjhhlcfceai.Tre
set_option linter.unusedVariables false

theorem cell_at {w : World} {a : Option Addr} {l : List Int} (h : Row w a l) (h0 : 0 < l.length) : ∃ b off, a = some ⟨b, off, none⟩ ∧ b < w.heap.size ∧ ∀ j, j < l.length → w.cell? ⟨b, off + j, none⟩ = some (.int .i64 (at0 l j)) := by
  obtain ⟨b, off, e, hb, hc⟩ := h.at h0
  exact ⟨b, off, e, hb, fun j hj => (hc j hj).trans (by rw [List.getD_eq_getElem?_getD]; rfl)⟩

/-- Sums of the first ones that no integer is too small for. -/
def Small (l : List Int) : Prop := ∀ j, j ≤ l.length → -1000000000 ≤ pfx l j ∧ pfx l j ≤ 1000000000
theorem small_of {l : List Int} (h : ∀ i, i < l.length → 0 ≤ at0 l i ∧ at0 l i ≤ 1000000) (h40 : l.length ≤ 40) : Small l := fun j hj => by
  have h1 := pfx_nonneg (l := l) (fun i hi => (h i hi).1) hj
  have h2 := pfx_le (l := l) (b := 1000000) (fun i hi => (h i hi).2) hj
  omega

theorem cf_bad {c : List Int} {j : Nat} (h0 : c.length ≠ 0) (h40 : ¬ 40 < c.length) (hj : j < c.length) (hb : at0 c j < 0 ∨ 1000000 < at0 c j) : cf c = 1 := by
  have e : at0 c j = c[j] := by simp [at0, hj]
  have h : c.any wrong = true := List.any_eq_true.2 ⟨c[j], List.getElem_mem hj, by rw [e] at hb; simp [wrong]; omega⟩
  simp [cf, h0, h40, h]
theorem cf_sum {c : List Int} (h0 : c.length ≠ 0) (h40 : ¬ 40 < c.length) (h : ∀ i, i < c.length → 0 ≤ at0 c i ∧ at0 c i ≤ 1000000) : cf c = if tot c = 0 then 5 else 0 := by
  have hany : c.any wrong = false := by
    apply List.any_eq_false.2
    intro n hn
    obtain ⟨i, hi, rfl⟩ := List.getElem_of_mem hn
    have := h i hi
    have e : at0 c i = c[i] := by simp [at0, hi]
    rw [e] at this
    simp [wrong]; omega
  simp [cf, h0, h40, hany]

end Go.Proofs.Ythkibjhhlcfceai.Scl
