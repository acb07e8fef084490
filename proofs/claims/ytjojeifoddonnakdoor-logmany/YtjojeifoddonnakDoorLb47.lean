/-
  The landed log, into which frames are put, and that is asked for them: what is asked of it, met.
-/
import Derived.Test.YtjojeifoddonnakDoorLb27
import Derived.Test.YtjojeifoddonnakDoorLb46
import Derived.Test.YtjojeifoddonnakDoorLb09
import Derived.Test.YtjojeifoddonnakDoorLb41
namespace Go.Proofs.YtjojeifoddonnakDoor.Lg19
open Go.RowKit
open Go.Proofs.YtjojeifoddonnakDoor.Tre Go.Proofs.YtjojeifoddonnakDoor.Bnd Go.Proofs.YtjojeifoddonnakDoor.Frm Go.Proofs.YtjojeifoddonnakDoor.Pck Go.Proofs.YtjojeifoddonnakDoor.Hrn Go.Proofs.YtjojeifoddonnakDoor.Ev
set_option linter.unusedVariables false

theorem landedM : LogM LH where
  ok := fun h => by
    obtain ⟨a, cap, vd, D, lf, hM, hI, h0, hlf⟩ := h
    exact hI.ok
  old := fun h => by
    obtain ⟨a, cap, vd, D, lf, hM, hI, h0, hlf⟩ := h
    exact hM.old
  kept := fun h hz hk => by
    obtain ⟨a, cap, vd, D, lf, hM, hI, h0, hlf⟩ := h
    exact ⟨a, cap, vd, D, lf, hM.kept hz hk, hI, h0, hlf⟩
  new := fun a cap s B W hr zs => newLg a cap s B W hr zs
  put := fun x h zx => putL x h zx
  allN := fun h => by
    obtain ⟨a, cap, vd, D, lf, hM, hI, h0, hlf⟩ := h
    exact (allL hM hI).mono fun e W' ⟨v, h1, h2, h3⟩ => by
      obtain ⟨p, q, rfl, k1, k2, k3⟩ := HasTnew h2
      exact ⟨p, q, h1, k1, k2, k3, h3⟩

end Go.Proofs.YtjojeifoddonnakDoor.Lg19

/-
  The landed log, into which frames are put, and that is asked for them and how many bytes it has: what is asked of it, met.
-/
namespace Go.Proofs.YtjojeifoddonnakDoor.Lg19
open Go.RowKit
open Go.Proofs.YtjojeifoddonnakDoor.Tre Go.Proofs.YtjojeifoddonnakDoor.Bnd Go.Proofs.YtjojeifoddonnakDoor.Frm Go.Proofs.YtjojeifoddonnakDoor.Pck Go.Proofs.YtjojeifoddonnakDoor.Hrn Go.Proofs.YtjojeifoddonnakDoor.Ev
set_option linter.unusedVariables false

theorem landedB : LogMB LH := { landedM with bytes := fun h => bytesL h }

end Go.Proofs.YtjojeifoddonnakDoor.Lg19
