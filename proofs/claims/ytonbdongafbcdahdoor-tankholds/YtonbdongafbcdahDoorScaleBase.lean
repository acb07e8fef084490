/-
  Words for the contracts of chapter 10: cells of a row, sums that no integer is too small for, the fault of counts.
-/
import Derived.Test.YtonbdongafbcdahDoorScaleMath
import Derived.Test.YtonbdongafbcdahDoorOwnSet
namespace Go.Proofs.YtonbdongafbcdahDoor.Scl
open Go.RowKit
open Go.Proofs.YtonbdongafbcdahDoor.Tre
set_option linter.unusedVariables false

theorem cell_at {w : World} {a : Option Addr} {l : List Int} (h : Row w a l) (h0 : 0 < l.length) : ∃ b off, a = some ⟨b, off, none⟩ ∧ b < w.heap.size ∧ ∀ j, j < l.length → w.cell? ⟨b, off + j, none⟩ = some (.int .i64 (at0 l j)) := by
  obtain ⟨b, off, e, hb, hc⟩ := h.at h0
  exact ⟨b, off, e, hb, fun j hj => (hc j hj).trans (by rw [List.getD_eq_getElem?_getD]; rfl)⟩

/-- Sums of the first ones that no integer is too small for. -/
def Small (l : List Int) : Prop := ∀ j, j ≤ l.length → -1000000000 ≤ pfx l j ∧ pfx l j ≤ 1000000000
theorem small_of {l : List Int} (h : ∀ i, i < l.length → 0 ≤ at0 l i ∧ at0 l i ≤ 1000000) (h40 : l.length ≤ 40) : Small l := fun j hj => by
  have h1 := pfx_nonneg (l := l) (fun i hi => (h i hi).1) hj
  have h2 := pfx_le (l := l) (b := 1000000) (fun i hi => (h i hi).2) hj
  omega

theorem cf_bad {c : List Int} {j : Nat} (h0 : c.length ≠ 0) (h40 : ¬ 40 < c.length) (hj : j < c.length) (hb : at0 c j < 0 ∨ 1000000 < at0 c j) : cf c = 1 := by
  have e : at0 c j = c[j] := by simp [at0, hj]
  have h : c.any wrong = true := List.any_eq_true.2 ⟨c[j], List.getElem_mem hj, by rw [e] at hb; simp [wrong]; omega⟩
  simp [cf, h0, h40, h]
theorem cf_sum {c : List Int} (h0 : c.length ≠ 0) (h40 : ¬ 40 < c.length) (h : ∀ i, i < c.length → 0 ≤ at0 c i ∧ at0 c i ≤ 1000000) : cf c = if tot c = 0 then 5 else 0 := by
  have hany : c.any wrong = false := by
    apply List.any_eq_false.2
    intro n hn
    obtain ⟨i, hi, rfl⟩ := List.getElem_of_mem hn
    have := h i hi
    have e : at0 c i = c[i] := by simp [at0, hi]
    rw [e] at this
    simp [wrong]; omega
  simp [cf, h0, h40, hany]

end Go.Proofs.YtonbdongafbcdahDoor.Scl
