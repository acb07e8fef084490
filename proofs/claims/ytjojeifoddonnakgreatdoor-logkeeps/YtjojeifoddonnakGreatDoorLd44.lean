/-
  The landed log's Bytes: by its contract.
-/
import Derived.Test.YtjojeifoddonnakGreatDoorLd34
import Derived.Test.YtjojeifoddonnakGreatDoorLd37
namespace Go.Proofs.YtjojeifoddonnakGreatDoor.Lg19
open Go.RowKit
open Go.Proofs.YtjojeifoddonnakGreatDoor.Tre Go.Proofs.YtjojeifoddonnakGreatDoor.Bnd Go.Proofs.YtjojeifoddonnakGreatDoor.Frm Go.Proofs.YtjojeifoddonnakGreatDoor.Pck Go.Proofs.YtjojeifoddonnakGreatDoor.Hrn Go.Proofs.YtjojeifoddonnakGreatDoor.Ev
set_option linter.unusedVariables false

section
variable {s : List Int} {B : Int} {Q : Nat → Prop} {W : World} {b : Nat} {L : St}
theorem bytesL (h : LH s B Q W b L) : Calls Tryz.prog 9 #[.pointer (some ⟨b, 0, none⟩)] W fun e W' => e = .returned (.int .i64 L.b) ∧ Below W.heap.size W W' := by
  obtain ⟨a, cap, vd, D, lf, hM, hI, h0, hlf⟩ := h
  obtain ⟨p, q, rfl, -⟩ := hM.dat.rowY
  have c2 := hM.lay.c2
  rw [hI.b]
  obtain ⟨N, hN⟩ : ∃ N, D.length = N := ⟨_, rfl⟩
  rw [hN] at c2 ⊢
  clear hM hI h0 hlf hN
  go_enter Tryz.func9, Tryz.ntmps9
  go_wp2
  go_ret
  exact ⟨rfl, Below.refl _ _⟩
end

end Go.Proofs.YtjojeifoddonnakGreatDoor.Lg19
