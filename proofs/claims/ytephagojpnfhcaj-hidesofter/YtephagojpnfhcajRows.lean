/-
  No cell of these rows narrows 'for every input' (looked for: loops, veiled, ifaces, maps, wideKeys, modest, calm, conditions, laid).
  DERIVED. THE GIVEN ROWS OF THIS SEAT. 2 by the template 'for every input the law returns true; each argument reads behind the call as it read before'; 0 by the template 'total and deterministic' (their statements: YtephagojpnfhcajTotals.lean).
  GIVEN WITH THE SEED: the statements are not yours to turn. If you find one false, say at which input.
  Laid BY PROGRAM, IN A SANDBOX (cutbox-rows.mjs): the forced cells as the released guide's own fill.sh prints them over the translation 97854640ddd49cd1… (all of the seat's roots in one cut). By AI agents, Wed Nov 11 2026. No macro, syntax, notation, axiom, sorry.
-/
import Derived.Test.YtephagojpnfhcajChecked
import GoSem.Claim
import GoSem.ClaimJoined
import GoSem.ClaimMapViews
import Derived.JoinedTies
import Derived.KernelRfl
namespace Go.Proofs.Ytephagojpnfhcaj
/- THE CELL 'sum', in the pinned program and in every row, IS THE sha256 OF THE DUMP (.gsa) THAT YtephagojpnfhcajProg.lean LOADS. Nothing in Lean hashes anything: it is a label: what it is worth is what the hold of that sum in a sandbox is worth. -/
noncomputable def Try.pinned : Pinned := { name := "ytephagojpnfhcaj", sum := "97854640ddd49cd180d9889f291a53d3ac18491391f394072d7d87f924af0c59", checked := Try.checked }
namespace Rows
def none {H : Type} : Left H := { results := [], args := [] }

/-- 'hornlaw3.HideSofter': WHATEVER THE INPUT: true; the input reads as it did. -/
def hideSofterSpec : ChangeSpec := { name := "hideSofter", fn := fun _ => fun
  | [d1, d2, d3, d4] => { results := [.lit (.bool true)], args := [d1, d2, d3, d4] }
  | _ => none }
def hideSofterRow : OpenClaim := { program := "ytephagojpnfhcaj", sum := "97854640ddd49cd180d9889f291a53d3ac18491391f394072d7d87f924af0c59", func := "pulsehorn/hornlaw3.HideSofter", spec := "hideSofter", unfollowed := true, recurses := true, apart := false }
def HideSofterSaid : Prop := hideSofterRow.holds Try.pinned (OpenSpec.ofChange hideSofterSpec)

/-- ITS FALSE NEIGHBOUR: 'it returns false'. Refute it at one input. -/
def hideSofterWrong : ChangeSpec := { name := "hideSofter", fn := fun _ => fun
  | [d1, d2, d3, d4] => { results := [.lit (.bool false)], args := [d1, d2, d3, d4] }
  | _ => none }
def HideSofterWrongFalsely : Prop := hideSofterRow.holds Try.pinned (OpenSpec.ofChange hideSofterWrong)

/-- 'hornlaw4.HideFirst': WHATEVER THE INPUT: true; the input reads as it did. -/
def hideFirstSpec : ChangeSpec := { name := "hideFirst", fn := fun _ => fun
  | [d1, d2, d3] => { results := [.lit (.bool true)], args := [d1, d2, d3] }
  | _ => none }
def hideFirstRow : OpenClaim := { program := "ytephagojpnfhcaj", sum := "97854640ddd49cd180d9889f291a53d3ac18491391f394072d7d87f924af0c59", func := "pulsehorn/hornlaw4.HideFirst", spec := "hideFirst", unfollowed := true, recurses := true, apart := false }
def HideFirstSaid : Prop := hideFirstRow.holds Try.pinned (OpenSpec.ofChange hideFirstSpec)

/-- ITS FALSE NEIGHBOUR: 'it returns false'. Refute it at one input. -/
def hideFirstWrong : ChangeSpec := { name := "hideFirst", fn := fun _ => fun
  | [d1, d2, d3] => { results := [.lit (.bool false)], args := [d1, d2, d3] }
  | _ => none }
def HideFirstWrongFalsely : Prop := hideFirstRow.holds Try.pinned (OpenSpec.ofChange hideFirstWrong)

/- THE SECOND FORM. 'bulk': how many values and letters a reading holds, each counted each time it is reached (what is shared counts as often as it is met; a slice's spare places count too). A statement '..UptoSaid' is the law's where the arguments, and the package variables that the reading takes, are together of bulk at most 1048576: NARROWER than '..Said'. Prove '..Said' where nothing that the law and all that it calls make is longer than what came in: it says more and counts as full. Else prove '..UptoSaid'. A law counts once. -/
mutual
def uptoBulk {H : Type} : DataW H → Nat
  | .lit (.string bytes) => bytes.length + 1
  | .lit _ => 1
  | .nil => 1
  | .ptr d => uptoBulk d + 1
  | .slice elems spare => uptoBulkAll elems + uptoBulkAll spare + 1
  | .agg parts => uptoBulkAll parts + 1
  | .iface _ d => uptoBulk d + 1
  | .map entries => uptoBulkEntries entries + 1
  | .held _ => 1
def uptoBulkAll {H : Type} : List (DataW H) → Nat
  | [] => 0
  | d :: r => uptoBulk d + uptoBulkAll r
def uptoBulkEntries {H : Type} : List (Lit × DataW H) → Nat
  | [] => 0
  | x :: r => uptoBulkEntry x + uptoBulkEntries r
def uptoBulkEntry {H : Type} : Lit × DataW H → Nat
  | (.string bytes, d) => bytes.length + uptoBulk d + 1
  | (_, d) => uptoBulk d + 1
 end
def uptoSmall : (H : Type) → List (DataW H) → Bool := fun _ ds => decide (uptoBulkAll ds ≤ 1048576)
def OpenSpec.upto (s : _root_.Go.ChangeSpec) : _root_.Go.OpenSpec := { _root_.Go.OpenSpec.ofChange s with cond := some uptoSmall }

/-- 'hornlaw3.HideSofter', WHERE WHAT IT READS IS OF BULK AT MOST 1048576: true; the input reads as it did. -/
def hideSofterUptoRow : OpenClaim := { program := "ytephagojpnfhcaj", sum := "97854640ddd49cd180d9889f291a53d3ac18491391f394072d7d87f924af0c59", func := "pulsehorn/hornlaw3.HideSofter", spec := "hideSofter", unfollowed := true, recurses := true, apart := false, narrowed := true }
def HideSofterUptoSaid : Prop := hideSofterUptoRow.holds Try.pinned (OpenSpec.upto hideSofterSpec)

/-- 'hornlaw4.HideFirst', WHERE WHAT IT READS IS OF BULK AT MOST 1048576: true; the input reads as it did. -/
def hideFirstUptoRow : OpenClaim := { program := "ytephagojpnfhcaj", sum := "97854640ddd49cd180d9889f291a53d3ac18491391f394072d7d87f924af0c59", func := "pulsehorn/hornlaw4.HideFirst", spec := "hideFirst", unfollowed := true, recurses := true, apart := false, narrowed := true }
def HideFirstUptoSaid : Prop := hideFirstUptoRow.holds Try.pinned (OpenSpec.upto hideFirstSpec)

end Rows
end Go.Proofs.Ytephagojpnfhcaj
