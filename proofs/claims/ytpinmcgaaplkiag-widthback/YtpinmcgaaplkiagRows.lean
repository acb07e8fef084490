/-
  No cell of these rows narrows 'for every input' (looked for: loops, veiled, ifaces, maps, wideKeys, modest, calm, conditions, laid).
  DERIVED. THE GIVEN ROWS OF THIS SEAT. 3 by the template 'for every input the law returns true; each argument reads behind the call as it read before'; 0 by the template 'total and deterministic' (their statements: YtpinmcgaaplkiagTotals.lean).
  GIVEN WITH THE SEED: the statements are not yours to turn. If you find one false, say at which input.
  Laid BY PROGRAM, IN A SANDBOX (cutbox-rows.mjs): the forced cells as the released guide's own fill.sh prints them over the translation e94e2b1efe99d085… (all of the seat's roots in one cut). By AI agents, Wed Nov 11 2026. No macro, syntax, notation, axiom, sorry.
-/
import Derived.Test.YtpinmcgaaplkiagChecked
import GoSem.Claim
import GoSem.ClaimJoined
import GoSem.ClaimMapViews
import Derived.JoinedTies
import Derived.KernelRfl
namespace Go.Proofs.Ytpinmcgaaplkiag
/- THE CELL 'sum', in the pinned program and in every row, IS THE sha256 OF THE DUMP (.gsa) THAT YtpinmcgaaplkiagProg.lean LOADS. Nothing in Lean hashes anything: it is a label: what it is worth is what the hold of that sum in a sandbox is worth. -/
noncomputable def Try.pinned : Pinned := { name := "ytpinmcgaaplkiag", sum := "e94e2b1efe99d08578bfaa7dfc2ed1a15627b0838ecb673b0f6a735484b90bc7", checked := Try.checked }
namespace Rows
def none {H : Type} : Left H := { results := [], args := [] }

/-- 'hornlaw2.LearnAll': WHATEVER THE INPUT: true; the input reads as it did. -/
def learnAllSpec : ChangeSpec := { name := "learnAll", fn := fun _ => fun
  | [d1, d2, d3, d4] => { results := [.lit (.bool true)], args := [d1, d2, d3, d4] }
  | _ => none }
def learnAllRow : OpenClaim := { program := "ytpinmcgaaplkiag", sum := "e94e2b1efe99d08578bfaa7dfc2ed1a15627b0838ecb673b0f6a735484b90bc7", func := "pulsehorn/hornlaw2.LearnAll", spec := "learnAll", unfollowed := true, recurses := true, apart := false }
def LearnAllSaid : Prop := learnAllRow.holds Try.pinned (OpenSpec.ofChange learnAllSpec)

/-- ITS FALSE NEIGHBOUR: 'it returns false'. Refute it at one input. -/
def learnAllWrong : ChangeSpec := { name := "learnAll", fn := fun _ => fun
  | [d1, d2, d3, d4] => { results := [.lit (.bool false)], args := [d1, d2, d3, d4] }
  | _ => none }
def LearnAllWrongFalsely : Prop := learnAllRow.holds Try.pinned (OpenSpec.ofChange learnAllWrong)

/-- 'hornlaw4.LearnNone': WHATEVER THE INPUT: true; the input reads as it did. -/
def learnNoneSpec : ChangeSpec := { name := "learnNone", fn := fun _ => fun
  | [d] => { results := [.lit (.bool true)], args := [d] }
  | _ => none }
def learnNoneRow : OpenClaim := { program := "ytpinmcgaaplkiag", sum := "e94e2b1efe99d08578bfaa7dfc2ed1a15627b0838ecb673b0f6a735484b90bc7", func := "pulsehorn/hornlaw4.LearnNone", spec := "learnNone", unfollowed := true, recurses := true, apart := false }
def LearnNoneSaid : Prop := learnNoneRow.holds Try.pinned (OpenSpec.ofChange learnNoneSpec)

/-- ITS FALSE NEIGHBOUR: 'it returns false'. Refute it at one input. -/
def learnNoneWrong : ChangeSpec := { name := "learnNone", fn := fun _ => fun
  | [d] => { results := [.lit (.bool false)], args := [d] }
  | _ => none }
def LearnNoneWrongFalsely : Prop := learnNoneRow.holds Try.pinned (OpenSpec.ofChange learnNoneWrong)

/-- 'hornlaw2.WidthBack': WHATEVER THE INPUT: true; the input reads as it did. -/
def widthBackSpec : ChangeSpec := { name := "widthBack", fn := fun _ => fun
  | [d1, d2, d3, d4, d5] => { results := [.lit (.bool true)], args := [d1, d2, d3, d4, d5] }
  | _ => none }
def widthBackRow : OpenClaim := { program := "ytpinmcgaaplkiag", sum := "e94e2b1efe99d08578bfaa7dfc2ed1a15627b0838ecb673b0f6a735484b90bc7", func := "pulsehorn/hornlaw2.WidthBack", spec := "widthBack", unfollowed := true, recurses := true, apart := false }
def WidthBackSaid : Prop := widthBackRow.holds Try.pinned (OpenSpec.ofChange widthBackSpec)

/-- ITS FALSE NEIGHBOUR: 'it returns false'. Refute it at one input. -/
def widthBackWrong : ChangeSpec := { name := "widthBack", fn := fun _ => fun
  | [d1, d2, d3, d4, d5] => { results := [.lit (.bool false)], args := [d1, d2, d3, d4, d5] }
  | _ => none }
def WidthBackWrongFalsely : Prop := widthBackRow.holds Try.pinned (OpenSpec.ofChange widthBackWrong)

/- THE SECOND FORM. 'bulk': how many values and letters a reading holds, each counted each time it is reached (what is shared counts as often as it is met; a slice's spare places count too). A statement '..UptoSaid' is the law's where the arguments, and the package variables that the reading takes, are together of bulk at most 1048576: NARROWER than '..Said'. Prove '..Said' where nothing that the law and all that it calls make is longer than what came in: it says more and counts as full. Else prove '..UptoSaid'. A law counts once. -/
mutual
def uptoBulk {H : Type} : DataW H → Nat
  | .lit (.string bytes) => bytes.length + 1
  | .lit _ => 1
  | .nil => 1
  | .ptr d => uptoBulk d + 1
  | .slice elems spare => uptoBulkAll elems + uptoBulkAll spare + 1
  | .agg parts => uptoBulkAll parts + 1
  | .iface _ d => uptoBulk d + 1
  | .map entries => uptoBulkEntries entries + 1
  | .held _ => 1
def uptoBulkAll {H : Type} : List (DataW H) → Nat
  | [] => 0
  | d :: r => uptoBulk d + uptoBulkAll r
def uptoBulkEntries {H : Type} : List (Lit × DataW H) → Nat
  | [] => 0
  | x :: r => uptoBulkEntry x + uptoBulkEntries r
def uptoBulkEntry {H : Type} : Lit × DataW H → Nat
  | (.string bytes, d) => bytes.length + uptoBulk d + 1
  | (_, d) => uptoBulk d + 1
 end
def uptoSmall : (H : Type) → List (DataW H) → Bool := fun _ ds => decide (uptoBulkAll ds ≤ 1048576)
def OpenSpec.upto (s : _root_.Go.ChangeSpec) : _root_.Go.OpenSpec := { _root_.Go.OpenSpec.ofChange s with cond := some uptoSmall }

/-- 'hornlaw2.LearnAll', WHERE WHAT IT READS IS OF BULK AT MOST 1048576: true; the input reads as it did. -/
def learnAllUptoRow : OpenClaim := { program := "ytpinmcgaaplkiag", sum := "e94e2b1efe99d08578bfaa7dfc2ed1a15627b0838ecb673b0f6a735484b90bc7", func := "pulsehorn/hornlaw2.LearnAll", spec := "learnAll", unfollowed := true, recurses := true, apart := false, narrowed := true }
def LearnAllUptoSaid : Prop := learnAllUptoRow.holds Try.pinned (OpenSpec.upto learnAllSpec)

/-- 'hornlaw4.LearnNone', WHERE WHAT IT READS IS OF BULK AT MOST 1048576: true; the input reads as it did. -/
def learnNoneUptoRow : OpenClaim := { program := "ytpinmcgaaplkiag", sum := "e94e2b1efe99d08578bfaa7dfc2ed1a15627b0838ecb673b0f6a735484b90bc7", func := "pulsehorn/hornlaw4.LearnNone", spec := "learnNone", unfollowed := true, recurses := true, apart := false, narrowed := true }
def LearnNoneUptoSaid : Prop := learnNoneUptoRow.holds Try.pinned (OpenSpec.upto learnNoneSpec)

/-- 'hornlaw2.WidthBack', WHERE WHAT IT READS IS OF BULK AT MOST 1048576: true; the input reads as it did. -/
def widthBackUptoRow : OpenClaim := { program := "ytpinmcgaaplkiag", sum := "e94e2b1efe99d08578bfaa7dfc2ed1a15627b0838ecb673b0f6a735484b90bc7", func := "pulsehorn/hornlaw2.WidthBack", spec := "widthBack", unfollowed := true, recurses := true, apart := false, narrowed := true }
def WidthBackUptoSaid : Prop := widthBackUptoRow.holds Try.pinned (OpenSpec.upto widthBackSpec)

end Rows
end Go.Proofs.Ytpinmcgaaplkiag
