/-
  A row's numbers, each in its cell (package lap).
-/
import Derived.Test.YtjnmogmagngenaeLapMath
import Derived.Test.YtjnmogmagngenaeOwnSet
namespace Go.Proofs.Ytjnmogmagngenae.Lap
open Go.RowKit
open Go.Proofs.Ytjnmogmagngenae.Tre
set_option linter.unusedVariables false

theorem row_cell {w : World} {a : Option Addr} {l : List Int} (h : Row w a l) (h0 : 0 < l.length) : ∃ b off, a = some ⟨b, off, none⟩ ∧ ∀ j, j < l.length → w.cell? ⟨b, off + j, none⟩ = some (.int .i64 (at0 l j)) := by
  obtain ⟨b, off, e, _, hc⟩ := h.at h0
  exact ⟨b, off, e, fun j hj => (hc j hj).trans (by rw [List.getD_eq_getElem?_getD]; rfl)⟩

end Go.Proofs.Ytjnmogmagngenae.Lap
