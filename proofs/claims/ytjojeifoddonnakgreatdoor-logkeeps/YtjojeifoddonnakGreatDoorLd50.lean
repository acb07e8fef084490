/-
  The landed log, into which frames are put, and that is asked for them: what is asked of it, met.
-/
import Derived.Test.YtjojeifoddonnakGreatDoorLd36
import Derived.Test.YtjojeifoddonnakGreatDoorLd49
import Derived.Test.YtjojeifoddonnakGreatDoorLd22
import Derived.Test.YtjojeifoddonnakGreatDoorLd40
import Derived.Test.YtjojeifoddonnakGreatDoorLd44
namespace Go.Proofs.YtjojeifoddonnakGreatDoor.Lg19
open Go.RowKit
open Go.Proofs.YtjojeifoddonnakGreatDoor.Tre Go.Proofs.YtjojeifoddonnakGreatDoor.Bnd Go.Proofs.YtjojeifoddonnakGreatDoor.Frm Go.Proofs.YtjojeifoddonnakGreatDoor.Pck Go.Proofs.YtjojeifoddonnakGreatDoor.Hrn Go.Proofs.YtjojeifoddonnakGreatDoor.Ev
set_option linter.unusedVariables false

theorem landedM : LogM LH where
  ok := fun h => by
    obtain ⟨a, cap, vd, D, lf, hM, hI, h0, hlf⟩ := h
    exact hI.ok
  old := fun h => by
    obtain ⟨a, cap, vd, D, lf, hM, hI, h0, hlf⟩ := h
    exact hM.old
  kept := fun h hz hk => by
    obtain ⟨a, cap, vd, D, lf, hM, hI, h0, hlf⟩ := h
    exact ⟨a, cap, vd, D, lf, hM.kept hz hk, hI, h0, hlf⟩
  new := fun a cap s B W hr zs => newLg a cap s B W hr zs
  put := fun x h zx => putL x h zx
  allN := fun h => by
    obtain ⟨a, cap, vd, D, lf, hM, hI, h0, hlf⟩ := h
    exact (allL hM hI).mono fun e W' ⟨v, h1, h2, h3⟩ => by
      obtain ⟨p, q, rfl, k1, k2, k3⟩ := HasTnew h2
      exact ⟨p, q, h1, k1, k2, k3, h3⟩

end Go.Proofs.YtjojeifoddonnakGreatDoor.Lg19

/-
  The landed log, where it never fails: what is asked of it, met.
-/
namespace Go.Proofs.YtjojeifoddonnakGreatDoor.Lg19
open Go.RowKit
open Go.Proofs.YtjojeifoddonnakGreatDoor.Tre Go.Proofs.YtjojeifoddonnakGreatDoor.Bnd Go.Proofs.YtjojeifoddonnakGreatDoor.Frm Go.Proofs.YtjojeifoddonnakGreatDoor.Pck Go.Proofs.YtjojeifoddonnakGreatDoor.Hrn Go.Proofs.YtjojeifoddonnakGreatDoor.Ev
set_option linter.unusedVariables false

theorem landedT : LogT LH := { landedM with sync := fun h => syncL h, crash := fun keep h => crashL keep h }

end Go.Proofs.YtjojeifoddonnakGreatDoor.Lg19

/-
  The landed log: Fail, Bytes, Safe, by their contracts; what is asked of a log, met.
-/
namespace Go.Proofs.YtjojeifoddonnakGreatDoor.Lg19
open Go.RowKit
open Go.Proofs.YtjojeifoddonnakGreatDoor.Tre Go.Proofs.YtjojeifoddonnakGreatDoor.Bnd Go.Proofs.YtjojeifoddonnakGreatDoor.Frm Go.Proofs.YtjojeifoddonnakGreatDoor.Pck Go.Proofs.YtjojeifoddonnakGreatDoor.Hrn Go.Proofs.YtjojeifoddonnakGreatDoor.Ev
set_option linter.unusedVariables false

section
variable {s : List Int} {B : Int} {Q : Nat → Prop} {W : World} {b : Nat} {L : St}
theorem fail_left (h : LH s B Q W b L) (n : Int) (hn : n ≤ 9223372036854775807) : ∃ L', FailF L n L' ∧ Left LH s B Q W b L' (W.setCell ⟨b, 4, none⟩ (.int .i64 n)) := by
  obtain ⟨a, cap, vd, D, lf, hM, hI, h0, hlf⟩ := h
  exact ⟨⟨L.F, L.M, L.b, L.s, L.st, steps n⟩, ⟨steps n, fun _ => rfl, rfl⟩, Q, ⟨a, cap, vd, D, n, hM.left n, hI.fail n, h0, hn⟩, fun k hk => Or.inl hk, hM.keeps 4 _⟩
theorem failL (n : Int) (h : LH s B Q W b L) (hn : n ≤ 9223372036854775807) :
    Calls Tryz.prog 13 #[.pointer (some ⟨b, 0, none⟩), .int .i64 n] W fun e W' => ∃ L', e = .returned (.tuple #[]) ∧ FailF L n L' ∧ Left LH s B Q W b L' W' := by
  have HL := hide (fail_left h n hn)
  obtain ⟨a, cap, vd, D, lf, hM, hI, h0, hlf⟩ := h
  have c4 := hM.lay.c4
  have f4 := hM.lay.fz 4
  clear hM hI h0 hlf
  go_enter Tryz.func13, Tryz.ntmps13
  go_wp2
  go_end0
  obtain ⟨L', h1, h2⟩ := unhide HL
  exact ⟨L', rfl, h1, h2⟩
theorem safeL (h : LH s B Q W b L) : Calls Tryz.prog 10 #[.pointer (some ⟨b, 0, none⟩)] W fun e W' => e = .returned (.int .i64 L.s) ∧ Below W.heap.size W W' := by
  obtain ⟨a, cap, vd, D, lf, hM, hI, h0, hlf⟩ := h
  have c3 := hM.lay.c3
  clear hM hI h0 hlf
  go_enter Tryz.func10, Tryz.ntmps10
  go_wp2
  go_ret
  exact ⟨rfl, Below.refl _ _⟩
end
theorem landed : LogC LH := { landedT with fail := fun n h hn => failL n h hn, bytes := fun h => bytesL h, safe := fun h => safeL h }

end Go.Proofs.YtjojeifoddonnakGreatDoor.Lg19
