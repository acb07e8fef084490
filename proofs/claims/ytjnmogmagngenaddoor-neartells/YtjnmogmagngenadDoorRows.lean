/-
  NARROWER THAN 'FOR EVERY INPUT', by the rows' own cells (each row's printed sentence says how): PulseEnds: laid · NearTells: laid · NearWhole: laid · GainTells: laid.
  DERIVED. THE GIVEN ROWS OF THIS SEAT. 4 by the template 'for every input the law returns true; each argument reads behind the call as it read before'; 0 by the template 'total and deterministic' (their statements: YtjnmogmagngenadDoorTotals.lean).
  GIVEN WITH THE SEED: the statements are not yours to turn. If you find one false, say at which input.
  Laid BY PROGRAM, IN A SANDBOX (cutbox-rows.mjs): the forced cells as the released guide's own fill.sh prints them over the translation 9894621d5bb0e1c2… (all of the seat's roots in one cut). By AI agents, Wed Nov 11 2026. No macro, syntax, notation, axiom, sorry.
-/
import Derived.Test.YtjnmogmagngenadDoorChecked
import GoSem.Claim
import GoSem.ClaimJoined
import GoSem.ClaimMapViews
import Derived.JoinedTies
import Derived.KernelRfl
namespace Go.Proofs.YtjnmogmagngenadDoor
/- THE CELL 'sum', in the pinned program and in every row, IS THE sha256 OF THE DUMP (.gsa) THAT YtjnmogmagngenadDoorProg.lean LOADS. Nothing in Lean hashes anything: it is a label: what it is worth is what the hold of that sum in a sandbox is worth. -/
noncomputable def Tryd.pinned : Pinned := { name := "ytjnmogmagngenaddoor", sum := "9894621d5bb0e1c2710ce613a7a794b889e1ad53f62e5b4833cbc884105af370", checked := Tryd.checked }
namespace Rows
def none {H : Type} : Left H := { results := [], args := [] }

/- WHAT THE LISTED PACKAGE-LEVEL VARIABLES READ AS WHEN THE CALL BEGINS. Each datum BY PROGRAM (the guide's laid-datum.mjs) off the statement by which the dump's own 'gosem.cut.vars' lays the variable. In a bare row this is a premise. The card (YtjnmogmagngenadDoorCards.lean) ties it to the program's text. -/
def laid_errors_errorType {H : Type} : DataW H := .iface "internal/reflectlite.rtype" (.agg [.ptr (.lit (.string [101, 114, 114, 111, 114]))])

/-- 'hornlaw4.PulseEnds': WHATEVER THE INPUT: true; the input reads as it did. -/
def pulseEndsSpec : ChangeSpec := { name := "pulseEnds", fn := fun _ => fun
  | [d1, d2] => { results := [.lit (.bool true)], args := [d1, d2] }
  | _ => none }
def pulseEndsRow : OpenClaim := { program := "ytjnmogmagngenaddoor", sum := "9894621d5bb0e1c2710ce613a7a794b889e1ad53f62e5b4833cbc884105af370", func := "pulsehorn/hornlaw4.PulseEnds", spec := "pulseEnds", inPlace := ["internal/reflectlite.ValueOf", "(internal/reflectlite.Value).Type", "(internal/reflectlite.Value).IsNil", "internal/reflectlite.TypeOf", "(internal/reflectlite.Value).Elem", "(internal/reflectlite.Value).Set"], unfollowed := true, recurses := true, named := ["errors.errorType"], apart := false, laid := [("errors.errorType", laid_errors_errorType)] }
def PulseEndsSaid : Prop := pulseEndsRow.holds Tryd.pinned (OpenSpec.ofChange pulseEndsSpec)

/-- ITS FALSE NEIGHBOUR: 'it returns false'. Refute it at one input. -/
def pulseEndsWrong : ChangeSpec := { name := "pulseEnds", fn := fun _ => fun
  | [d1, d2] => { results := [.lit (.bool false)], args := [d1, d2] }
  | _ => none }
def PulseEndsWrongFalsely : Prop := pulseEndsRow.holds Tryd.pinned (OpenSpec.ofChange pulseEndsWrong)

/-- 'hornlaw1.NearTells': WHATEVER THE INPUT: true; the input reads as it did. -/
def nearTellsSpec : ChangeSpec := { name := "nearTells", fn := fun _ => fun
  | [d1, d2, d3] => { results := [.lit (.bool true)], args := [d1, d2, d3] }
  | _ => none }
def nearTellsRow : OpenClaim := { program := "ytjnmogmagngenaddoor", sum := "9894621d5bb0e1c2710ce613a7a794b889e1ad53f62e5b4833cbc884105af370", func := "pulsehorn/hornlaw1.NearTells", spec := "nearTells", inPlace := ["internal/reflectlite.ValueOf", "(internal/reflectlite.Value).Type", "(internal/reflectlite.Value).IsNil", "internal/reflectlite.TypeOf", "(internal/reflectlite.Value).Elem", "(internal/reflectlite.Value).Set"], unfollowed := true, recurses := true, named := ["errors.errorType"], apart := false, laid := [("errors.errorType", laid_errors_errorType)] }
def NearTellsSaid : Prop := nearTellsRow.holds Tryd.pinned (OpenSpec.ofChange nearTellsSpec)

/-- ITS FALSE NEIGHBOUR: 'it returns false'. Refute it at one input. -/
def nearTellsWrong : ChangeSpec := { name := "nearTells", fn := fun _ => fun
  | [d1, d2, d3] => { results := [.lit (.bool false)], args := [d1, d2, d3] }
  | _ => none }
def NearTellsWrongFalsely : Prop := nearTellsRow.holds Tryd.pinned (OpenSpec.ofChange nearTellsWrong)

/-- 'hornlaw4.NearWhole': WHATEVER THE INPUT: true; the input reads as it did. -/
def nearWholeSpec : ChangeSpec := { name := "nearWhole", fn := fun _ => fun
  | [d1, d2] => { results := [.lit (.bool true)], args := [d1, d2] }
  | _ => none }
def nearWholeRow : OpenClaim := { program := "ytjnmogmagngenaddoor", sum := "9894621d5bb0e1c2710ce613a7a794b889e1ad53f62e5b4833cbc884105af370", func := "pulsehorn/hornlaw4.NearWhole", spec := "nearWhole", inPlace := ["internal/reflectlite.ValueOf", "(internal/reflectlite.Value).Type", "(internal/reflectlite.Value).IsNil", "internal/reflectlite.TypeOf", "(internal/reflectlite.Value).Elem", "(internal/reflectlite.Value).Set"], unfollowed := true, recurses := true, named := ["errors.errorType"], apart := false, laid := [("errors.errorType", laid_errors_errorType)] }
def NearWholeSaid : Prop := nearWholeRow.holds Tryd.pinned (OpenSpec.ofChange nearWholeSpec)

/-- ITS FALSE NEIGHBOUR: 'it returns false'. Refute it at one input. -/
def nearWholeWrong : ChangeSpec := { name := "nearWhole", fn := fun _ => fun
  | [d1, d2] => { results := [.lit (.bool false)], args := [d1, d2] }
  | _ => none }
def NearWholeWrongFalsely : Prop := nearWholeRow.holds Tryd.pinned (OpenSpec.ofChange nearWholeWrong)

/-- 'hornlaw1.GainTells': WHATEVER THE INPUT: true; the input reads as it did. -/
def gainTellsSpec : ChangeSpec := { name := "gainTells", fn := fun _ => fun
  | [d1, d2] => { results := [.lit (.bool true)], args := [d1, d2] }
  | _ => none }
def gainTellsRow : OpenClaim := { program := "ytjnmogmagngenaddoor", sum := "9894621d5bb0e1c2710ce613a7a794b889e1ad53f62e5b4833cbc884105af370", func := "pulsehorn/hornlaw1.GainTells", spec := "gainTells", inPlace := ["internal/reflectlite.ValueOf", "(internal/reflectlite.Value).Type", "(internal/reflectlite.Value).IsNil", "internal/reflectlite.TypeOf", "(internal/reflectlite.Value).Elem", "(internal/reflectlite.Value).Set"], unfollowed := true, recurses := true, named := ["errors.errorType"], apart := false, laid := [("errors.errorType", laid_errors_errorType)] }
def GainTellsSaid : Prop := gainTellsRow.holds Tryd.pinned (OpenSpec.ofChange gainTellsSpec)

/-- ITS FALSE NEIGHBOUR: 'it returns false'. Refute it at one input. -/
def gainTellsWrong : ChangeSpec := { name := "gainTells", fn := fun _ => fun
  | [d1, d2] => { results := [.lit (.bool false)], args := [d1, d2] }
  | _ => none }
def GainTellsWrongFalsely : Prop := gainTellsRow.holds Tryd.pinned (OpenSpec.ofChange gainTellsWrong)

/- THE SECOND FORM. 'bulk': how many values and letters a reading holds, each counted each time it is reached (what is shared counts as often as it is met; a slice's spare places count too). A statement '..UptoSaid' is the law's where the arguments, and the package variables that the reading takes, are together of bulk at most 1048576: NARROWER than '..Said'. Prove '..Said' where nothing that the law and all that it calls make is longer than what came in: it says more and counts as full. Else prove '..UptoSaid'. A law counts once. -/
mutual
def uptoBulk {H : Type} : DataW H → Nat
  | .lit (.string bytes) => bytes.length + 1
  | .lit _ => 1
  | .nil => 1
  | .ptr d => uptoBulk d + 1
  | .slice elems spare => uptoBulkAll elems + uptoBulkAll spare + 1
  | .agg parts => uptoBulkAll parts + 1
  | .iface _ d => uptoBulk d + 1
  | .map entries => uptoBulkEntries entries + 1
  | .held _ => 1
def uptoBulkAll {H : Type} : List (DataW H) → Nat
  | [] => 0
  | d :: r => uptoBulk d + uptoBulkAll r
def uptoBulkEntries {H : Type} : List (Lit × DataW H) → Nat
  | [] => 0
  | x :: r => uptoBulkEntry x + uptoBulkEntries r
def uptoBulkEntry {H : Type} : Lit × DataW H → Nat
  | (.string bytes, d) => bytes.length + uptoBulk d + 1
  | (_, d) => uptoBulk d + 1
 end
def uptoSmall : (H : Type) → List (DataW H) → Bool := fun _ ds => decide (uptoBulkAll ds ≤ 1048576)
def OpenSpec.upto (s : _root_.Go.ChangeSpec) : _root_.Go.OpenSpec := { _root_.Go.OpenSpec.ofChange s with cond := some uptoSmall }

/-- 'hornlaw4.PulseEnds', WHERE WHAT IT READS IS OF BULK AT MOST 1048576: true; the input reads as it did. -/
def pulseEndsUptoRow : OpenClaim := { program := "ytjnmogmagngenaddoor", sum := "9894621d5bb0e1c2710ce613a7a794b889e1ad53f62e5b4833cbc884105af370", func := "pulsehorn/hornlaw4.PulseEnds", spec := "pulseEnds", inPlace := ["internal/reflectlite.ValueOf", "(internal/reflectlite.Value).Type", "(internal/reflectlite.Value).IsNil", "internal/reflectlite.TypeOf", "(internal/reflectlite.Value).Elem", "(internal/reflectlite.Value).Set"], unfollowed := true, recurses := true, named := ["errors.errorType"], apart := false, laid := [("errors.errorType", laid_errors_errorType)], narrowed := true }
def PulseEndsUptoSaid : Prop := pulseEndsUptoRow.holds Tryd.pinned (OpenSpec.upto pulseEndsSpec)

/-- 'hornlaw1.NearTells', WHERE WHAT IT READS IS OF BULK AT MOST 1048576: true; the input reads as it did. -/
def nearTellsUptoRow : OpenClaim := { program := "ytjnmogmagngenaddoor", sum := "9894621d5bb0e1c2710ce613a7a794b889e1ad53f62e5b4833cbc884105af370", func := "pulsehorn/hornlaw1.NearTells", spec := "nearTells", inPlace := ["internal/reflectlite.ValueOf", "(internal/reflectlite.Value).Type", "(internal/reflectlite.Value).IsNil", "internal/reflectlite.TypeOf", "(internal/reflectlite.Value).Elem", "(internal/reflectlite.Value).Set"], unfollowed := true, recurses := true, named := ["errors.errorType"], apart := false, laid := [("errors.errorType", laid_errors_errorType)], narrowed := true }
def NearTellsUptoSaid : Prop := nearTellsUptoRow.holds Tryd.pinned (OpenSpec.upto nearTellsSpec)

/-- 'hornlaw4.NearWhole', WHERE WHAT IT READS IS OF BULK AT MOST 1048576: true; the input reads as it did. -/
def nearWholeUptoRow : OpenClaim := { program := "ytjnmogmagngenaddoor", sum := "9894621d5bb0e1c2710ce613a7a794b889e1ad53f62e5b4833cbc884105af370", func := "pulsehorn/hornlaw4.NearWhole", spec := "nearWhole", inPlace := ["internal/reflectlite.ValueOf", "(internal/reflectlite.Value).Type", "(internal/reflectlite.Value).IsNil", "internal/reflectlite.TypeOf", "(internal/reflectlite.Value).Elem", "(internal/reflectlite.Value).Set"], unfollowed := true, recurses := true, named := ["errors.errorType"], apart := false, laid := [("errors.errorType", laid_errors_errorType)], narrowed := true }
def NearWholeUptoSaid : Prop := nearWholeUptoRow.holds Tryd.pinned (OpenSpec.upto nearWholeSpec)

/-- 'hornlaw1.GainTells', WHERE WHAT IT READS IS OF BULK AT MOST 1048576: true; the input reads as it did. -/
def gainTellsUptoRow : OpenClaim := { program := "ytjnmogmagngenaddoor", sum := "9894621d5bb0e1c2710ce613a7a794b889e1ad53f62e5b4833cbc884105af370", func := "pulsehorn/hornlaw1.GainTells", spec := "gainTells", inPlace := ["internal/reflectlite.ValueOf", "(internal/reflectlite.Value).Type", "(internal/reflectlite.Value).IsNil", "internal/reflectlite.TypeOf", "(internal/reflectlite.Value).Elem", "(internal/reflectlite.Value).Set"], unfollowed := true, recurses := true, named := ["errors.errorType"], apart := false, laid := [("errors.errorType", laid_errors_errorType)], narrowed := true }
def GainTellsUptoSaid : Prop := gainTellsUptoRow.holds Tryd.pinned (OpenSpec.upto gainTellsSpec)

end Rows
end Go.Proofs.YtjnmogmagngenadDoor
