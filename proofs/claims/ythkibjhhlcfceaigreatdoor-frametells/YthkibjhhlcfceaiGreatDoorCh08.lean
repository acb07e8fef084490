/-
  A row's numbers, each in its cell.
-/
import Derived.Test.YthkibjhhlcfceaiGreatDoorCh01
import Derived.Test.YthkibjhhlcfceaiGreatDoorCh05
namespace Go.Proofs.YthkibjhhlcfceaiGreatDoor.Bnd
open Go.RowKit
open Go.Proofs.YthkibjhhlcfceaiGreatDoor.Tre
set_option linter.unusedVariables false

theorem cell_at {w : World} {a : Option Addr} {l : List Int} (h : Row w a l) (h0 : 0 < l.length) : ∃ b off, a = some ⟨b, off, none⟩ ∧ b < w.heap.size ∧ ∀ j, j < l.length → w.cell? ⟨b, off + j, none⟩ = some (.int .i64 (at0 l j)) := by
  obtain ⟨b, off, e, hb, hc⟩ := h.at h0
  exact ⟨b, off, e, hb, fun j hj => (hc j hj).trans (by rw [List.getD_eq_getElem?_getD]; rfl)⟩

end Go.Proofs.YthkibjhhlcfceaiGreatDoor.Bnd
