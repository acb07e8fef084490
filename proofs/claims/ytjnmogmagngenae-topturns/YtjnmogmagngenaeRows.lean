/-
  No cell of these rows narrows 'for every input' (looked for: loops, veiled, ifaces, maps, wideKeys, modest, calm, conditions, laid).
  DERIVED. THE GIVEN ROWS OF THIS SEAT. 5 by the template 'for every input the law returns true; each argument reads behind the call as it read before'; 0 by the template 'total and deterministic' (their statements: YtjnmogmagngenaeTotals.lean).
  GIVEN WITH THE SEED: the statements are not yours to turn. If you find one false, say at which input.
  Laid BY PROGRAM, IN A SANDBOX (cutbox-rows.mjs): the forced cells as the released guide's own fill.sh prints them over the translation 8df7d0bde48fb33e… (all of the seat's roots in one cut). By AI agents, Wed Nov 11 2026. No macro, syntax, notation, axiom, sorry.
-/
import Derived.Test.YtjnmogmagngenaeChecked
import GoSem.Claim
import GoSem.ClaimJoined
import GoSem.ClaimMapViews
import Derived.JoinedTies
import Derived.KernelRfl
namespace Go.Proofs.Ytjnmogmagngenae
/- THE CELL 'sum', in the pinned program and in every row, IS THE sha256 OF THE DUMP (.gsa) THAT YtjnmogmagngenaeProg.lean LOADS. Nothing in Lean hashes anything: it is a label: what it is worth is what the hold of that sum in a sandbox is worth. -/
noncomputable def Try.pinned : Pinned := { name := "ytjnmogmagngenae", sum := "8df7d0bde48fb33e3f578317187fa9d2d1234440b1a1f302b0298ce383b72735", checked := Try.checked }
namespace Rows
def none {H : Type} : Left H := { results := [], args := [] }

/-- 'hornlaw4.GainTwice': WHATEVER THE INPUT: true; the input reads as it did. -/
def gainTwiceSpec : ChangeSpec := { name := "gainTwice", fn := fun _ => fun
  | [d] => { results := [.lit (.bool true)], args := [d] }
  | _ => none }
def gainTwiceRow : OpenClaim := { program := "ytjnmogmagngenae", sum := "8df7d0bde48fb33e3f578317187fa9d2d1234440b1a1f302b0298ce383b72735", func := "pulsehorn/hornlaw4.GainTwice", spec := "gainTwice", apart := false }
def GainTwiceSaid : Prop := gainTwiceRow.holds Try.pinned (OpenSpec.ofChange gainTwiceSpec)

/-- ITS FALSE NEIGHBOUR: 'it returns false'. Refute it at one input. -/
def gainTwiceWrong : ChangeSpec := { name := "gainTwice", fn := fun _ => fun
  | [d] => { results := [.lit (.bool false)], args := [d] }
  | _ => none }
def GainTwiceWrongFalsely : Prop := gainTwiceRow.holds Try.pinned (OpenSpec.ofChange gainTwiceWrong)

/-- 'horntop.TopShape': WHATEVER THE INPUT: true; the input reads as it did. -/
def topShapeSpec : ChangeSpec := { name := "topShape", fn := fun _ => fun
  | [d1, d2, d3] => { results := [.lit (.bool true)], args := [d1, d2, d3] }
  | _ => none }
def topShapeRow : OpenClaim := { program := "ytjnmogmagngenae", sum := "8df7d0bde48fb33e3f578317187fa9d2d1234440b1a1f302b0298ce383b72735", func := "pulsehorn/horntop.TopShape", spec := "topShape", unfollowed := true, recurses := true, apart := false }
def TopShapeSaid : Prop := topShapeRow.holds Try.pinned (OpenSpec.ofChange topShapeSpec)

/-- ITS FALSE NEIGHBOUR: 'it returns false'. Refute it at one input. -/
def topShapeWrong : ChangeSpec := { name := "topShape", fn := fun _ => fun
  | [d1, d2, d3] => { results := [.lit (.bool false)], args := [d1, d2, d3] }
  | _ => none }
def TopShapeWrongFalsely : Prop := topShapeRow.holds Try.pinned (OpenSpec.ofChange topShapeWrong)

/-- 'hornlaw1.BandBack': WHATEVER THE INPUT: true; the input reads as it did. -/
def bandBackSpec : ChangeSpec := { name := "bandBack", fn := fun _ => fun
  | [d1, d2, d3] => { results := [.lit (.bool true)], args := [d1, d2, d3] }
  | _ => none }
def bandBackRow : OpenClaim := { program := "ytjnmogmagngenae", sum := "8df7d0bde48fb33e3f578317187fa9d2d1234440b1a1f302b0298ce383b72735", func := "pulsehorn/hornlaw1.BandBack", spec := "bandBack", unfollowed := true, recurses := true, apart := false }
def BandBackSaid : Prop := bandBackRow.holds Try.pinned (OpenSpec.ofChange bandBackSpec)

/-- ITS FALSE NEIGHBOUR: 'it returns false'. Refute it at one input. -/
def bandBackWrong : ChangeSpec := { name := "bandBack", fn := fun _ => fun
  | [d1, d2, d3] => { results := [.lit (.bool false)], args := [d1, d2, d3] }
  | _ => none }
def BandBackWrongFalsely : Prop := bandBackRow.holds Try.pinned (OpenSpec.ofChange bandBackWrong)

/-- 'hornlaw4.BandOne': WHATEVER THE INPUT: true; the input reads as it did. -/
def bandOneSpec : ChangeSpec := { name := "bandOne", fn := fun _ => fun
  | [d] => { results := [.lit (.bool true)], args := [d] }
  | _ => none }
def bandOneRow : OpenClaim := { program := "ytjnmogmagngenae", sum := "8df7d0bde48fb33e3f578317187fa9d2d1234440b1a1f302b0298ce383b72735", func := "pulsehorn/hornlaw4.BandOne", spec := "bandOne", unfollowed := true, recurses := true, apart := false }
def BandOneSaid : Prop := bandOneRow.holds Try.pinned (OpenSpec.ofChange bandOneSpec)

/-- ITS FALSE NEIGHBOUR: 'it returns false'. Refute it at one input. -/
def bandOneWrong : ChangeSpec := { name := "bandOne", fn := fun _ => fun
  | [d] => { results := [.lit (.bool false)], args := [d] }
  | _ => none }
def BandOneWrongFalsely : Prop := bandOneRow.holds Try.pinned (OpenSpec.ofChange bandOneWrong)

/-- 'horntop.TopTurns': WHATEVER THE INPUT: true; the input reads as it did. -/
def topTurnsSpec : ChangeSpec := { name := "topTurns", fn := fun _ => fun
  | [d1, d2, d3] => { results := [.lit (.bool true)], args := [d1, d2, d3] }
  | _ => none }
def topTurnsRow : OpenClaim := { program := "ytjnmogmagngenae", sum := "8df7d0bde48fb33e3f578317187fa9d2d1234440b1a1f302b0298ce383b72735", func := "pulsehorn/horntop.TopTurns", spec := "topTurns", unfollowed := true, recurses := true, apart := false }
def TopTurnsSaid : Prop := topTurnsRow.holds Try.pinned (OpenSpec.ofChange topTurnsSpec)

/-- ITS FALSE NEIGHBOUR: 'it returns false'. Refute it at one input. -/
def topTurnsWrong : ChangeSpec := { name := "topTurns", fn := fun _ => fun
  | [d1, d2, d3] => { results := [.lit (.bool false)], args := [d1, d2, d3] }
  | _ => none }
def TopTurnsWrongFalsely : Prop := topTurnsRow.holds Try.pinned (OpenSpec.ofChange topTurnsWrong)

/- THE SECOND FORM. 'bulk': how many values and letters a reading holds, each counted each time it is reached (what is shared counts as often as it is met; a slice's spare places count too). A statement '..UptoSaid' is the law's where the arguments, and the package variables that the reading takes, are together of bulk at most 1048576: NARROWER than '..Said'. Prove '..Said' where nothing that the law and all that it calls make is longer than what came in: it says more and counts as full. Else prove '..UptoSaid'. A law counts once. -/
mutual
def uptoBulk {H : Type} : DataW H → Nat
  | .lit (.string bytes) => bytes.length + 1
  | .lit _ => 1
  | .nil => 1
  | .ptr d => uptoBulk d + 1
  | .slice elems spare => uptoBulkAll elems + uptoBulkAll spare + 1
  | .agg parts => uptoBulkAll parts + 1
  | .iface _ d => uptoBulk d + 1
  | .map entries => uptoBulkEntries entries + 1
  | .held _ => 1
def uptoBulkAll {H : Type} : List (DataW H) → Nat
  | [] => 0
  | d :: r => uptoBulk d + uptoBulkAll r
def uptoBulkEntries {H : Type} : List (Lit × DataW H) → Nat
  | [] => 0
  | x :: r => uptoBulkEntry x + uptoBulkEntries r
def uptoBulkEntry {H : Type} : Lit × DataW H → Nat
  | (.string bytes, d) => bytes.length + uptoBulk d + 1
  | (_, d) => uptoBulk d + 1
 end
def uptoSmall : (H : Type) → List (DataW H) → Bool := fun _ ds => decide (uptoBulkAll ds ≤ 1048576)
def OpenSpec.upto (s : _root_.Go.ChangeSpec) : _root_.Go.OpenSpec := { _root_.Go.OpenSpec.ofChange s with cond := some uptoSmall }

/-- 'hornlaw4.GainTwice', WHERE WHAT IT READS IS OF BULK AT MOST 1048576: true; the input reads as it did. -/
def gainTwiceUptoRow : OpenClaim := { program := "ytjnmogmagngenae", sum := "8df7d0bde48fb33e3f578317187fa9d2d1234440b1a1f302b0298ce383b72735", func := "pulsehorn/hornlaw4.GainTwice", spec := "gainTwice", apart := false, narrowed := true }
def GainTwiceUptoSaid : Prop := gainTwiceUptoRow.holds Try.pinned (OpenSpec.upto gainTwiceSpec)

/-- 'horntop.TopShape', WHERE WHAT IT READS IS OF BULK AT MOST 1048576: true; the input reads as it did. -/
def topShapeUptoRow : OpenClaim := { program := "ytjnmogmagngenae", sum := "8df7d0bde48fb33e3f578317187fa9d2d1234440b1a1f302b0298ce383b72735", func := "pulsehorn/horntop.TopShape", spec := "topShape", unfollowed := true, recurses := true, apart := false, narrowed := true }
def TopShapeUptoSaid : Prop := topShapeUptoRow.holds Try.pinned (OpenSpec.upto topShapeSpec)

/-- 'hornlaw1.BandBack', WHERE WHAT IT READS IS OF BULK AT MOST 1048576: true; the input reads as it did. -/
def bandBackUptoRow : OpenClaim := { program := "ytjnmogmagngenae", sum := "8df7d0bde48fb33e3f578317187fa9d2d1234440b1a1f302b0298ce383b72735", func := "pulsehorn/hornlaw1.BandBack", spec := "bandBack", unfollowed := true, recurses := true, apart := false, narrowed := true }
def BandBackUptoSaid : Prop := bandBackUptoRow.holds Try.pinned (OpenSpec.upto bandBackSpec)

/-- 'hornlaw4.BandOne', WHERE WHAT IT READS IS OF BULK AT MOST 1048576: true; the input reads as it did. -/
def bandOneUptoRow : OpenClaim := { program := "ytjnmogmagngenae", sum := "8df7d0bde48fb33e3f578317187fa9d2d1234440b1a1f302b0298ce383b72735", func := "pulsehorn/hornlaw4.BandOne", spec := "bandOne", unfollowed := true, recurses := true, apart := false, narrowed := true }
def BandOneUptoSaid : Prop := bandOneUptoRow.holds Try.pinned (OpenSpec.upto bandOneSpec)

/-- 'horntop.TopTurns', WHERE WHAT IT READS IS OF BULK AT MOST 1048576: true; the input reads as it did. -/
def topTurnsUptoRow : OpenClaim := { program := "ytjnmogmagngenae", sum := "8df7d0bde48fb33e3f578317187fa9d2d1234440b1a1f302b0298ce383b72735", func := "pulsehorn/horntop.TopTurns", spec := "topTurns", unfollowed := true, recurses := true, apart := false, narrowed := true }
def TopTurnsUptoSaid : Prop := topTurnsUptoRow.holds Try.pinned (OpenSpec.upto topTurnsSpec)

end Rows
end Go.Proofs.Ytjnmogmagngenae
