/-
  No cell of these rows narrows 'for every input' (looked for: loops, veiled, ifaces, maps, wideKeys, modest, calm, conditions, laid).
  DERIVED. THE GIVEN ROWS OF THIS SEAT. 3 by the template 'for every input the law returns true; each argument reads behind the call as it read before'; 0 by the template 'total and deterministic' (their statements: YtjnmogmagngenacTotals.lean).
  GIVEN WITH THE SEED: the statements are not yours to turn. If you find one false, say at which input.
  Laid BY PROGRAM, IN A SANDBOX (cutbox-rows.mjs): the forced cells as the released guide's own fill.sh prints them over the translation 11781a07b6674ff4… (all of the seat's roots in one cut). By AI agents, Wed Nov 11 2026. No macro, syntax, notation, axiom, sorry.
-/
import Derived.Test.YtjnmogmagngenacChecked
import GoSem.Claim
import GoSem.ClaimJoined
import GoSem.ClaimMapViews
import Derived.JoinedTies
import Derived.KernelRfl
namespace Go.Proofs.Ytjnmogmagngenac
/- THE CELL 'sum', in the pinned program and in every row, IS THE sha256 OF THE DUMP (.gsa) THAT YtjnmogmagngenacProg.lean LOADS. Nothing in Lean hashes anything: it is a label: what it is worth is what the hold of that sum in a sandbox is worth. -/
noncomputable def Try.pinned : Pinned := { name := "ytjnmogmagngenac", sum := "11781a07b6674ff4e3e818e7361de9de52c5d1a7802f77b38426759ef562c757", checked := Try.checked }
namespace Rows
def none {H : Type} : Left H := { results := [], args := [] }

/-- 'hornlaw1.CountTurns': WHATEVER THE INPUT: true; the input reads as it did. -/
def countTurnsSpec : ChangeSpec := { name := "countTurns", fn := fun _ => fun
  | [d1, d2] => { results := [.lit (.bool true)], args := [d1, d2] }
  | _ => none }
def countTurnsRow : OpenClaim := { program := "ytjnmogmagngenac", sum := "11781a07b6674ff4e3e818e7361de9de52c5d1a7802f77b38426759ef562c757", func := "pulsehorn/hornlaw1.CountTurns", spec := "countTurns", apart := false }
def CountTurnsSaid : Prop := countTurnsRow.holds Try.pinned (OpenSpec.ofChange countTurnsSpec)

/-- ITS FALSE NEIGHBOUR: 'it returns false'. Refute it at one input. -/
def countTurnsWrong : ChangeSpec := { name := "countTurns", fn := fun _ => fun
  | [d1, d2] => { results := [.lit (.bool false)], args := [d1, d2] }
  | _ => none }
def CountTurnsWrongFalsely : Prop := countTurnsRow.holds Try.pinned (OpenSpec.ofChange countTurnsWrong)

/-- 'hornlaw4.CountOne': WHATEVER THE INPUT: true; the input reads as it did. -/
def countOneSpec : ChangeSpec := { name := "countOne", fn := fun _ => fun
  | [d1, d2] => { results := [.lit (.bool true)], args := [d1, d2] }
  | _ => none }
def countOneRow : OpenClaim := { program := "ytjnmogmagngenac", sum := "11781a07b6674ff4e3e818e7361de9de52c5d1a7802f77b38426759ef562c757", func := "pulsehorn/hornlaw4.CountOne", spec := "countOne", apart := false }
def CountOneSaid : Prop := countOneRow.holds Try.pinned (OpenSpec.ofChange countOneSpec)

/-- ITS FALSE NEIGHBOUR: 'it returns false'. Refute it at one input. -/
def countOneWrong : ChangeSpec := { name := "countOne", fn := fun _ => fun
  | [d1, d2] => { results := [.lit (.bool false)], args := [d1, d2] }
  | _ => none }
def CountOneWrongFalsely : Prop := countOneRow.holds Try.pinned (OpenSpec.ofChange countOneWrong)

/-- 'hornlaw1.PulseOnce': WHATEVER THE INPUT: true; the input reads as it did. -/
def pulseOnceSpec : ChangeSpec := { name := "pulseOnce", fn := fun _ => fun
  | [d1, d2, d3, d4, d5] => { results := [.lit (.bool true)], args := [d1, d2, d3, d4, d5] }
  | _ => none }
def pulseOnceRow : OpenClaim := { program := "ytjnmogmagngenac", sum := "11781a07b6674ff4e3e818e7361de9de52c5d1a7802f77b38426759ef562c757", func := "pulsehorn/hornlaw1.PulseOnce", spec := "pulseOnce", unfollowed := true, recurses := true, apart := false }
def PulseOnceSaid : Prop := pulseOnceRow.holds Try.pinned (OpenSpec.ofChange pulseOnceSpec)

/-- ITS FALSE NEIGHBOUR: 'it returns false'. Refute it at one input. -/
def pulseOnceWrong : ChangeSpec := { name := "pulseOnce", fn := fun _ => fun
  | [d1, d2, d3, d4, d5] => { results := [.lit (.bool false)], args := [d1, d2, d3, d4, d5] }
  | _ => none }
def PulseOnceWrongFalsely : Prop := pulseOnceRow.holds Try.pinned (OpenSpec.ofChange pulseOnceWrong)

/- THE SECOND FORM. 'bulk': how many values and letters a reading holds, each counted each time it is reached (what is shared counts as often as it is met; a slice's spare places count too). A statement '..UptoSaid' is the law's where the arguments, and the package variables that the reading takes, are together of bulk at most 1048576: NARROWER than '..Said'. Prove '..Said' where nothing that the law and all that it calls make is longer than what came in: it says more and counts as full. Else prove '..UptoSaid'. A law counts once. -/
mutual
def uptoBulk {H : Type} : DataW H → Nat
  | .lit (.string bytes) => bytes.length + 1
  | .lit _ => 1
  | .nil => 1
  | .ptr d => uptoBulk d + 1
  | .slice elems spare => uptoBulkAll elems + uptoBulkAll spare + 1
  | .agg parts => uptoBulkAll parts + 1
  | .iface _ d => uptoBulk d + 1
  | .map entries => uptoBulkEntries entries + 1
  | .held _ => 1
def uptoBulkAll {H : Type} : List (DataW H) → Nat
  | [] => 0
  | d :: r => uptoBulk d + uptoBulkAll r
def uptoBulkEntries {H : Type} : List (Lit × DataW H) → Nat
  | [] => 0
  | x :: r => uptoBulkEntry x + uptoBulkEntries r
def uptoBulkEntry {H : Type} : Lit × DataW H → Nat
  | (.string bytes, d) => bytes.length + uptoBulk d + 1
  | (_, d) => uptoBulk d + 1
 end
def uptoSmall : (H : Type) → List (DataW H) → Bool := fun _ ds => decide (uptoBulkAll ds ≤ 1048576)
def OpenSpec.upto (s : _root_.Go.ChangeSpec) : _root_.Go.OpenSpec := { _root_.Go.OpenSpec.ofChange s with cond := some uptoSmall }

/-- 'hornlaw1.CountTurns', WHERE WHAT IT READS IS OF BULK AT MOST 1048576: true; the input reads as it did. -/
def countTurnsUptoRow : OpenClaim := { program := "ytjnmogmagngenac", sum := "11781a07b6674ff4e3e818e7361de9de52c5d1a7802f77b38426759ef562c757", func := "pulsehorn/hornlaw1.CountTurns", spec := "countTurns", apart := false, narrowed := true }
def CountTurnsUptoSaid : Prop := countTurnsUptoRow.holds Try.pinned (OpenSpec.upto countTurnsSpec)

/-- 'hornlaw4.CountOne', WHERE WHAT IT READS IS OF BULK AT MOST 1048576: true; the input reads as it did. -/
def countOneUptoRow : OpenClaim := { program := "ytjnmogmagngenac", sum := "11781a07b6674ff4e3e818e7361de9de52c5d1a7802f77b38426759ef562c757", func := "pulsehorn/hornlaw4.CountOne", spec := "countOne", apart := false, narrowed := true }
def CountOneUptoSaid : Prop := countOneUptoRow.holds Try.pinned (OpenSpec.upto countOneSpec)

/-- 'hornlaw1.PulseOnce', WHERE WHAT IT READS IS OF BULK AT MOST 1048576: true; the input reads as it did. -/
def pulseOnceUptoRow : OpenClaim := { program := "ytjnmogmagngenac", sum := "11781a07b6674ff4e3e818e7361de9de52c5d1a7802f77b38426759ef562c757", func := "pulsehorn/hornlaw1.PulseOnce", spec := "pulseOnce", unfollowed := true, recurses := true, apart := false, narrowed := true }
def PulseOnceUptoSaid : Prop := pulseOnceUptoRow.holds Try.pinned (OpenSpec.upto pulseOnceSpec)

end Rows
end Go.Proofs.Ytjnmogmagngenac
