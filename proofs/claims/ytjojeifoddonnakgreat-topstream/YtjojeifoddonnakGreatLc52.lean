/-
  The landed log, into which frames are put, and that is asked for them: what is asked of it, met.
-/
import Derived.Test.YtjojeifoddonnakGreatLc28
import Derived.Test.YtjojeifoddonnakGreatLc51
import Derived.Test.YtjojeifoddonnakGreatLc15
import Derived.Test.YtjojeifoddonnakGreatLc48
namespace Go.Proofs.YtjojeifoddonnakGreat.Lg19
open Go.RowKit
open Go.Proofs.YtjojeifoddonnakGreat.Tre Go.Proofs.YtjojeifoddonnakGreat.Bnd Go.Proofs.YtjojeifoddonnakGreat.Frm Go.Proofs.YtjojeifoddonnakGreat.Pck Go.Proofs.YtjojeifoddonnakGreat.Hrn Go.Proofs.YtjojeifoddonnakGreat.Ev
set_option linter.unusedVariables false

theorem landedM : LogM LH where
  ok := fun h => by
    obtain ⟨a, cap, vd, D, lf, hM, hI, h0, hlf⟩ := h
    exact hI.ok
  old := fun h => by
    obtain ⟨a, cap, vd, D, lf, hM, hI, h0, hlf⟩ := h
    exact hM.old
  kept := fun h hz hk => by
    obtain ⟨a, cap, vd, D, lf, hM, hI, h0, hlf⟩ := h
    exact ⟨a, cap, vd, D, lf, hM.kept hz hk, hI, h0, hlf⟩
  new := fun a cap s B W hr zs => newLg a cap s B W hr zs
  put := fun x h zx => putL x h zx
  allN := fun h => by
    obtain ⟨a, cap, vd, D, lf, hM, hI, h0, hlf⟩ := h
    exact (allL hM hI).mono fun e W' ⟨v, h1, h2, h3⟩ => by
      obtain ⟨p, q, rfl, k1, k2, k3⟩ := HasTnew h2
      exact ⟨p, q, h1, k1, k2, k3, h3⟩

end Go.Proofs.YtjojeifoddonnakGreat.Lg19

/-
  The landed log, where it never fails: what is asked of it, met.
-/
namespace Go.Proofs.YtjojeifoddonnakGreat.Lg19
open Go.RowKit
open Go.Proofs.YtjojeifoddonnakGreat.Tre Go.Proofs.YtjojeifoddonnakGreat.Bnd Go.Proofs.YtjojeifoddonnakGreat.Frm Go.Proofs.YtjojeifoddonnakGreat.Pck Go.Proofs.YtjojeifoddonnakGreat.Hrn Go.Proofs.YtjojeifoddonnakGreat.Ev
set_option linter.unusedVariables false

theorem landedT : LogT LH := { landedM with sync := fun h => syncL h, crash := fun keep h => crashL keep h }

end Go.Proofs.YtjojeifoddonnakGreat.Lg19
