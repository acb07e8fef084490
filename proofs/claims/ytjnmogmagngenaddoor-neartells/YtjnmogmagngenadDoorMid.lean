/-
  A list of this call's own of which the first are already new: one more is set.
-/
import Derived.Test.YtjnmogmagngenadDoorLapMath
import Derived.Test.YtjnmogmagngenadDoorOwnSet
namespace Go.Proofs.YtjnmogmagngenadDoor.Mid
open Go.RowKit
open Go.Proofs.YtjnmogmagngenadDoor.Tre Go.Proofs.YtjnmogmagngenadDoor.Lap
set_option linter.unusedVariables false

theorem row_cell {w : World} {a : Option Addr} {l : List Int} (h : Row w a l) (h0 : 0 < l.length) : ∃ b off, a = some ⟨b, off, none⟩ ∧ b < w.heap.size ∧ ∀ j, j < l.length → w.cell? ⟨b, off + j, none⟩ = some (.int .i64 (at0 l j)) := by
  obtain ⟨b, off, e, hb, hc⟩ := h.at h0
  exact ⟨b, off, e, hb, fun j hj => (hc j hj).trans (by rw [List.getD_eq_getElem?_getD]; rfl)⟩

theorem put_mid {wr : World} {base g n c j : Nat} {f f0 : Nat → Int} {X : Int} (h : Has wr base (.slice (some ⟨g, 0, none⟩) n c) (mid f f0 n j)) (hj : j < n) (hx : f j = X) (q : Nat) :
    Has ((wr.drewN q).setCell ⟨g, j, none⟩ (.int .i64 X)) base (.slice (some ⟨g, 0, none⟩) n c) (mid f f0 n (j + 1)) ∧
      (∀ u m, Has wr base u m → Off u (.slice (some ⟨g, 0, none⟩) n c) → Has ((wr.drewN q).setCell ⟨g, j, none⟩ (.int .i64 X)) base u m) ∧
      (∀ w, Below base w wr → base ≤ g → Below base w ((wr.drewN q).setCell ⟨g, j, none⟩ (.int .i64 X))) := by
  have h1 : Has (wr.drewN q) base (.slice (some ⟨g, 0, none⟩) n c) (mid f f0 n j) := h
  obtain ⟨h2, h3⟩ := h1.put j X
  refine ⟨?_, fun u m hu ho => ?_, fun w hb hg => ?_⟩
  · rw [← mid_set f f0 hj, hx]; exact h2
  · exact Has.beside (show Has (wr.drewN q) base u m from hu) rfl ho h3
  · exact Below.setCell (w := wr.drewN q) (p := ⟨g, j, none⟩) (hb.trans ⟨rfl, rfl, rfl, Nat.le_refl _, fun _ _ => rfl⟩) hg _

end Go.Proofs.YtjnmogmagngenadDoor.Mid
