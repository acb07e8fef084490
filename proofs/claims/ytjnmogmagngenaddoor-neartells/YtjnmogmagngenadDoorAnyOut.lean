/-
  Whether any number of a row is beyond a bound, one by one.
-/
import Derived.Test.YtjnmogmagngenadDoorTreeMath
import Derived.Test.YtjnmogmagngenadDoorBase
import Derived.Deep.QuietTactic
import Derived.BigQuiet
namespace Go.Proofs.YtjnmogmagngenadDoor.Tre
open Go.RowKit
set_option linter.unusedVariables false

theorem any_of (c : Int) (l : List Int) (k : Nat) (hk : k < l.length) (h : out c l[k] = true) : l.any (out c) = true :=
  List.any_eq_true.2 ⟨l[k], List.getElem_mem hk, h⟩
theorem any_step (c : Int) (l : List Int) (k : Nat) (hk : k < l.length) (h0 : (l.take k).any (out c) = false) (h : out c l[k] = false) : (l.take (k + 1)).any (out c) = false := by
  rw [List.take_succ_eq_append_getElem hk, List.any_append, h0]
  simp [h]

end Go.Proofs.YtjnmogmagngenadDoor.Tre
