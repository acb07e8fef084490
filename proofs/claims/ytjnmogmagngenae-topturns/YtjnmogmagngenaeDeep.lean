/-
  A slice of slices of integers in memory, for all walks of this seat.
-/
import Derived.Test.YtjnmogmagngenaeBase
namespace Go.Proofs.Ytjnmogmagngenae
open Go.RowKit
set_option linter.unusedVariables false

/-- The row at a place (none behind the last). -/
def rowAt (ll : List (List Int)) (r : Nat) : List Int := ll.getD r []
theorem rowAt_get {ll : List (List Int)} {r : Nat} (h : r < ll.length) : rowAt ll r = ll[r] := by simp [rowAt, h]

/-- One cell holds a slice of these integers. -/
def Cel (w : World) (p : Addr) (l : List Int) : Prop :=
  ∃ A C, w.cell? p = some (.slice A l.length C) ∧ (A = none → C = 0) ∧ l.length ≤ C ∧ C ≤ 9223372036854775807 ∧ Row w A l

/-- The rows lie where a slice's address says. -/
def Rws (w : World) (a : Option Addr) (ll : List (List Int)) : Prop :=
  ll = [] ∨ ∃ b off, a = some ⟨b, off, none⟩ ∧ b < w.heap.size ∧ ∀ r, r < ll.length → Cel w ⟨b, off + r, none⟩ (rowAt ll r)

theorem Cel.below {w w' : World} {p : Addr} {l : List Int} (h : Cel w p l) (hp : p.block < w.heap.size) (hb : Below w.heap.size w w') : Cel w' p l := by
  obtain ⟨A, C, h1, h2, h3, h4, h5⟩ := h
  exact ⟨A, C, (hb.cell hp).trans h1, h2, h3, h4, h5.below hb⟩
theorem Rws.below {w w' : World} {a : Option Addr} {ll : List (List Int)} (h : Rws w a ll) (hb : Below w.heap.size w w') : Rws w' a ll := by
  rcases h with h | ⟨b, off, ha, hlt, hc⟩
  · exact Or.inl h
  · exact Or.inr ⟨b, off, ha, Nat.lt_of_lt_of_le hlt hb.size, fun r hr => (hc r hr).below hlt hb⟩
theorem Rws.at {w : World} {a : Option Addr} {ll : List (List Int)} (h : Rws w a ll) {k : Nat} (hk : k < ll.length) :
    ∃ b off, a = some ⟨b, off, none⟩ ∧ b < w.heap.size ∧ ∀ r, r < ll.length → Cel w ⟨b, off + r, none⟩ (rowAt ll r) := by
  rcases h with h | h
  · subst h; exact absurd hk (by simp)
  · exact h

end Go.Proofs.Ytjnmogmagngenae
