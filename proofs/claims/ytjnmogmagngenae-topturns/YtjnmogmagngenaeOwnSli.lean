/-
  A value that is a slice of these integers.
-/
import Derived.Test.YtjnmogmagngenaeDeep
import Derived.Test.YtjnmogmagngenaeOwnSet
namespace Go.Proofs.Ytjnmogmagngenae
open Go.RowKit
open Go.Proofs.Ytjnmogmagngenae.Tre
set_option linter.unusedVariables false

/-- A slice of these integers. -/
def Sli (w : World) (V : Value) (l : List Int) : Prop := ∃ A C, V = .slice A l.length C ∧ (A = none → C = 0) ∧ l.length ≤ C ∧ C ≤ 9223372036854775807 ∧ Row w A l

theorem Sli.below {w w' : World} {V : Value} {l : List Int} (h : Sli w V l) (hb : Below w.heap.size w w') : Sli w' V l := by
  obtain ⟨A, C, h1, h2, h3, h4, h5⟩ := h
  exact ⟨A, C, h1, h2, h3, h4, h5.below hb⟩
theorem Has.sli {w : World} {base : Nat} {v : Value} {l : List Int} (h : Has w base v l) : Sli w v l := by
  have h' := h
  obtain ⟨a, cap, rfl, hr⟩ := h.row
  rcases h'.2 with ⟨e, e0⟩ | ⟨g, c, cur, e, hb, hg, hn, hm, _⟩
  · obtain ⟨e1, e2, e3⟩ := Value.slice.inj e
    exact ⟨a, cap, rfl, fun _ => e3, by omega, by omega, hr⟩
  · obtain ⟨e1, e2, e3⟩ := Value.slice.inj e
    subst e1 e3
    exact ⟨_, _, rfl, fun h => (by cases h), hn, by simpa [maxLen] using hm, hr⟩
theorem cel_of {w : World} {p : Addr} {V : Value} {l : List Int} (h : w.cell? p = some V) (hs : Sli w V l) : Cel w p l := by
  obtain ⟨A, C, h1, h2, h3, h4, h5⟩ := hs
  exact ⟨A, C, by rw [h, h1], h2, h3, h4, h5⟩

end Go.Proofs.Ytjnmogmagngenae
