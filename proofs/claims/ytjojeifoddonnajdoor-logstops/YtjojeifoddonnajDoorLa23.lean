/-
  What is told of a frame that is packed, and of bytes that are unpacked, with a fault and without.
-/
import Derived.Test.YtjojeifoddonnajDoorLa02
import Derived.Test.YtjojeifoddonnajDoorLa12
import Derived.Test.YtjojeifoddonnajDoorLa05
import Derived.Test.YtjojeifoddonnajDoorLa07
namespace Go.Proofs.YtjojeifoddonnajDoor.Pck
open Go.RowKit
open Go.Proofs.YtjojeifoddonnajDoor.Tre Go.Proofs.YtjojeifoddonnajDoor.Bnd Go.Proofs.YtjojeifoddonnajDoor.Ev Go.Proofs.YtjojeifoddonnajDoor.Frm Go.Proofs.YtjojeifoddonnajDoor.Wid Go.Proofs.YtjojeifoddonnajDoor.Hrn
set_option linter.unusedVariables false

/-- The text of a frame: none with a fault. -/
def pstr (ps : List Prt) (E : Int) : ByteArray := if E = 0 then str (oct (pbits ps)) else { data := #[] }
theorem pstr_ok (ps : List Prt) : pstr ps 0 = str (oct (pbits ps)) := rfl
theorem pstr_no (ps : List Prt) {E : Int} (h : E ≠ 0) : pstr ps E = { data := #[] } := by unfold pstr; rw [if_neg h]
/-- What Pack tells. -/
def PackSays (ps : List Prt) (s : List Int) (B : Int) (w : World) (e : Ending) (w' : World) : Prop := ∃ E, e = .returned (.tuple #[.string (pstr ps E), errV E]) ∧ PckF ps s B E ∧ Below w.heap.size w w'
/-- What Unpack tells. -/
def UnpSays (x : ByteArray) (s : List Int) (B : Int) (w : World) (e : Ending) (w' : World) : Prop :=
  ∃ E p q ps, e = .returned (.tuple #[.slice p ps.length q, errV E]) ∧ PtsN w.heap.size w' p ps ∧ ps.length ≤ q ∧ q ≤ 9223372036854775807 ∧ UnpF (byt x) s B E ps ∧ Below w.heap.size w w'

end Go.Proofs.YtjojeifoddonnajDoor.Pck
