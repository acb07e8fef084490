/-
  hornref2.Line: by its contract.
-/
import Derived.Test.YtkkhgdkgbhdfaakGreatDoorRa40
import Derived.Test.YtkkhgdkgbhdfaakGreatDoorRa41
import Derived.Test.YtkkhgdkgbhdfaakGreatDoorRa45
import Derived.Test.YtkkhgdkgbhdfaakGreatDoorRa44
import Derived.Test.YtkkhgdkgbhdfaakGreatDoorRa46
import Derived.Test.YtkkhgdkgbhdfaakGreatDoorRa42
import Derived.Test.YtkkhgdkgbhdfaakGreatDoorRa43
import Derived.Test.YtkkhgdkgbhdfaakGreatDoorRa47
namespace Go.Proofs.YtkkhgdkgbhdfaakGreatDoor.Ses
open Go.RowKit
open Go.Proofs.YtkkhgdkgbhdfaakGreatDoor.Tre Go.Proofs.YtkkhgdkgbhdfaakGreatDoor.Hrn Go.Proofs.YtkkhgdkgbhdfaakGreatDoor.Txt Go.Proofs.YtkkhgdkgbhdfaakGreatDoor.Tnk Go.Proofs.YtkkhgdkgbhdfaakGreatDoor.Scl
set_option linter.unusedVariables false

theorem refLine (S E H : Int) (l : List Int) (w : World) (hS : Hid (S = 100)) (hE : Hid (E = 20)) (hH : Hid (Ok 100 20 H)) (hb : Hid (Byts l)) (hl : l.length ≤ 3000) :
    Calls Tryz.prog 21 #[.agg #[.int .i64 S, .int .i64 E, .int .i64 H], .string (str l)] w fun e w' => LinePost H l w e w' := by
  have h7 := kind_in (hd l)
  have hk : kind (hd l) = 0 ∨ kind (hd l) = 1 ∨ kind (hd l) = 2 ∨ kind (hd l) = 3 ∨ kind (hd l) = 4 ∨ kind (hd l) = 5 ∨ kind (hd l) = 6 ∨ kind (hd l) = 7 := by omega
  rcases hk with h | h | h | h | h | h | h | h
  · exact refLineK0 S E H l w hS hE hH hb hl (hide h)
  · exact refLineK1 S E H l w hS hE hH hb hl (hide h)
  · exact refLineK2 S E H l w hS hE hH hb hl (hide h)
  · exact refLineK3 S E H l w hS hE hH hb hl (hide h)
  · exact refLineK4 S E H l w hS hE hH hb hl (hide h)
  · exact refLineK5 S E H l w hS hE hH hb hl (hide h)
  · exact refLineK6 S E H l w hS hE hH hb hl (hide h)
  · exact refLineK7 S E H l w hS hE hH hb hl (hide h)

end Go.Proofs.YtkkhgdkgbhdfaakGreatDoor.Ses
