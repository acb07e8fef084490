/-
  A strings.Builder: WriteString, by the library's contract.
-/
import Derived.Test.YtkkhgdkgbhdfaakGreatDoorRa06
import Derived.Test.YtkkhgdkgbhdfaakGreatDoorRa09
import Derived.Shelf.Strings.BuilderK
namespace Go.Proofs.YtkkhgdkgbhdfaakGreatDoor.Bld
open Go.RowKit
open Go.Proofs.YtkkhgdkgbhdfaakGreatDoor.Tre
set_option linter.unusedVariables false

/-- A text goes behind the bytes that there are; whatever else is no row of bytes stands as it stood. -/
theorem write (B b : Nat) (bs : List Value) (s : ByteArray) (w : World) (h : Lib.IsBuilderF 84 5 B b bs w) (hlen : bs.length + s.size ≤ 140737488355328) (hBw : B ≤ w.heap.size) :
    Calls Tryz.prog 41 #[.pointer (some ⟨b, 0, none⟩), .string s] w fun e w' => e = .returned (.tuple #[.int .i64 s.size, .nilIface]) ∧ (Lib.IsBuilderF 84 5 B b (bs ++ Lib.strCells s) w' ∧ Below B w w' ∧ Lib.OthersKept 5 (some b) w w') := by
  have c := Any.Builder_WriteString_k { Tryz.lays156 with } Tryz.Builder_Extra_156 B b bs s w h hlen hBw
  refine (show Calls Tryz.prog 41 #[.pointer (some ⟨b, 0, none⟩), .string s] w _ from c).mono ?_
  rintro e w' ⟨h1, h2, h3, h4⟩
  exact ⟨h1, .inr h2, h3, h4⟩

end Go.Proofs.YtkkhgdkgbhdfaakGreatDoor.Bld
