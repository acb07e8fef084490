/-
  The landed log's Bytes: by its contract.
-/
import Derived.Test.YtjojeifoddonnakDoorLb16
import Derived.Test.YtjojeifoddonnakDoorLb21
namespace Go.Proofs.YtjojeifoddonnakDoor.Lg19
open Go.RowKit
open Go.Proofs.YtjojeifoddonnakDoor.Tre Go.Proofs.YtjojeifoddonnakDoor.Bnd Go.Proofs.YtjojeifoddonnakDoor.Frm Go.Proofs.YtjojeifoddonnakDoor.Pck Go.Proofs.YtjojeifoddonnakDoor.Hrn Go.Proofs.YtjojeifoddonnakDoor.Ev
set_option linter.unusedVariables false

section
variable {s : List Int} {B : Int} {Q : Nat → Prop} {W : World} {b : Nat} {L : St}
theorem bytesL (h : LH s B Q W b L) : Calls Tryd.prog 8 #[.pointer (some ⟨b, 0, none⟩)] W fun e W' => e = .returned (.int .i64 L.b) ∧ Below W.heap.size W W' := by
  obtain ⟨a, cap, vd, D, lf, hM, hI, h0, hlf⟩ := h
  obtain ⟨p, q, rfl, -⟩ := hM.dat.rowY
  have c2 := hM.lay.c2
  rw [hI.b]
  obtain ⟨N, hN⟩ : ∃ N, D.length = N := ⟨_, rfl⟩
  rw [hN] at c2 ⊢
  clear hM hI h0 hlf hN
  go_enter Tryd.func8, Tryd.ntmps8
  go_wp2
  go_ret
  exact ⟨rfl, Below.refl _ _⟩
end

end Go.Proofs.YtjojeifoddonnakDoor.Lg19
