/-
  No cell of these rows narrows 'for every input' (looked for: loops, veiled, ifaces, maps, wideKeys, modest, calm, conditions, laid).
  DERIVED. THE GIVEN ROWS OF THIS SEAT. 2 by the template 'for every input the law returns true; each argument reads behind the call as it read before'; 0 by the template 'total and deterministic' (their statements: YtjnmogmagngenadTotals.lean).
  GIVEN WITH THE SEED: the statements are not yours to turn. If you find one false, say at which input.
  Laid BY PROGRAM, IN A SANDBOX (cutbox-rows.mjs): the forced cells as the released guide's own fill.sh prints them over the translation cd6a5d9adb66de54… (all of the seat's roots in one cut). By AI agents, Wed Nov 11 2026. No macro, syntax, notation, axiom, sorry.
-/
import Derived.Test.YtjnmogmagngenadChecked
import GoSem.Claim
import GoSem.ClaimJoined
import GoSem.ClaimMapViews
import Derived.JoinedTies
import Derived.KernelRfl
namespace Go.Proofs.Ytjnmogmagngenad
/- THE CELL 'sum', in the pinned program and in every row, IS THE sha256 OF THE DUMP (.gsa) THAT YtjnmogmagngenadProg.lean LOADS. Nothing in Lean hashes anything: it is a label: what it is worth is what the hold of that sum in a sandbox is worth. -/
noncomputable def Try.pinned : Pinned := { name := "ytjnmogmagngenad", sum := "cd6a5d9adb66de540cd7f7ff2cd0d5719e93e30ee3f1b008471cf1da96339956", checked := Try.checked }
namespace Rows
def none {H : Type} : Left H := { results := [], args := [] }

/-- 'hornlaw1.NearBest': WHATEVER THE INPUT: true; the input reads as it did. -/
def nearBestSpec : ChangeSpec := { name := "nearBest", fn := fun _ => fun
  | [d1, d2, d3] => { results := [.lit (.bool true)], args := [d1, d2, d3] }
  | _ => none }
def nearBestRow : OpenClaim := { program := "ytjnmogmagngenad", sum := "cd6a5d9adb66de540cd7f7ff2cd0d5719e93e30ee3f1b008471cf1da96339956", func := "pulsehorn/hornlaw1.NearBest", spec := "nearBest", unfollowed := true, recurses := true, apart := false }
def NearBestSaid : Prop := nearBestRow.holds Try.pinned (OpenSpec.ofChange nearBestSpec)

/-- ITS FALSE NEIGHBOUR: 'it returns false'. Refute it at one input. -/
def nearBestWrong : ChangeSpec := { name := "nearBest", fn := fun _ => fun
  | [d1, d2, d3] => { results := [.lit (.bool false)], args := [d1, d2, d3] }
  | _ => none }
def NearBestWrongFalsely : Prop := nearBestRow.holds Try.pinned (OpenSpec.ofChange nearBestWrong)

/-- 'hornlaw1.GainNear': WHATEVER THE INPUT: true; the input reads as it did. -/
def gainNearSpec : ChangeSpec := { name := "gainNear", fn := fun _ => fun
  | [d1, d2] => { results := [.lit (.bool true)], args := [d1, d2] }
  | _ => none }
def gainNearRow : OpenClaim := { program := "ytjnmogmagngenad", sum := "cd6a5d9adb66de540cd7f7ff2cd0d5719e93e30ee3f1b008471cf1da96339956", func := "pulsehorn/hornlaw1.GainNear", spec := "gainNear", apart := false }
def GainNearSaid : Prop := gainNearRow.holds Try.pinned (OpenSpec.ofChange gainNearSpec)

/-- ITS FALSE NEIGHBOUR: 'it returns false'. Refute it at one input. -/
def gainNearWrong : ChangeSpec := { name := "gainNear", fn := fun _ => fun
  | [d1, d2] => { results := [.lit (.bool false)], args := [d1, d2] }
  | _ => none }
def GainNearWrongFalsely : Prop := gainNearRow.holds Try.pinned (OpenSpec.ofChange gainNearWrong)

/- THE SECOND FORM. 'bulk': how many values and letters a reading holds, each counted each time it is reached (what is shared counts as often as it is met; a slice's spare places count too). A statement '..UptoSaid' is the law's where the arguments, and the package variables that the reading takes, are together of bulk at most 1048576: NARROWER than '..Said'. Prove '..Said' where nothing that the law and all that it calls make is longer than what came in: it says more and counts as full. Else prove '..UptoSaid'. A law counts once. -/
mutual
def uptoBulk {H : Type} : DataW H → Nat
  | .lit (.string bytes) => bytes.length + 1
  | .lit _ => 1
  | .nil => 1
  | .ptr d => uptoBulk d + 1
  | .slice elems spare => uptoBulkAll elems + uptoBulkAll spare + 1
  | .agg parts => uptoBulkAll parts + 1
  | .iface _ d => uptoBulk d + 1
  | .map entries => uptoBulkEntries entries + 1
  | .held _ => 1
def uptoBulkAll {H : Type} : List (DataW H) → Nat
  | [] => 0
  | d :: r => uptoBulk d + uptoBulkAll r
def uptoBulkEntries {H : Type} : List (Lit × DataW H) → Nat
  | [] => 0
  | x :: r => uptoBulkEntry x + uptoBulkEntries r
def uptoBulkEntry {H : Type} : Lit × DataW H → Nat
  | (.string bytes, d) => bytes.length + uptoBulk d + 1
  | (_, d) => uptoBulk d + 1
 end
def uptoSmall : (H : Type) → List (DataW H) → Bool := fun _ ds => decide (uptoBulkAll ds ≤ 1048576)
def OpenSpec.upto (s : _root_.Go.ChangeSpec) : _root_.Go.OpenSpec := { _root_.Go.OpenSpec.ofChange s with cond := some uptoSmall }

/-- 'hornlaw1.NearBest', WHERE WHAT IT READS IS OF BULK AT MOST 1048576: true; the input reads as it did. -/
def nearBestUptoRow : OpenClaim := { program := "ytjnmogmagngenad", sum := "cd6a5d9adb66de540cd7f7ff2cd0d5719e93e30ee3f1b008471cf1da96339956", func := "pulsehorn/hornlaw1.NearBest", spec := "nearBest", unfollowed := true, recurses := true, apart := false, narrowed := true }
def NearBestUptoSaid : Prop := nearBestUptoRow.holds Try.pinned (OpenSpec.upto nearBestSpec)

/-- 'hornlaw1.GainNear', WHERE WHAT IT READS IS OF BULK AT MOST 1048576: true; the input reads as it did. -/
def gainNearUptoRow : OpenClaim := { program := "ytjnmogmagngenad", sum := "cd6a5d9adb66de540cd7f7ff2cd0d5719e93e30ee3f1b008471cf1da96339956", func := "pulsehorn/hornlaw1.GainNear", spec := "gainNear", apart := false, narrowed := true }
def GainNearUptoSaid : Prop := gainNearUptoRow.holds Try.pinned (OpenSpec.upto gainNearSpec)

end Rows
end Go.Proofs.Ytjnmogmagngenad
