/-
  No cell of these rows narrows 'for every input' (looked for: loops, veiled, ifaces, maps, wideKeys, modest, calm, conditions, laid).
  DERIVED. THE GIVEN ROWS OF THIS SEAT. 4 by the template 'for every input the law returns true; each argument reads behind the call as it read before'; 0 by the template 'total and deterministic' (their statements: YtjnmogmagngenaaTotals.lean).
  GIVEN WITH THE SEED: the statements are not yours to turn. If you find one false, say at which input.
  Laid BY PROGRAM, IN A SANDBOX (cutbox-rows.mjs): the forced cells as the released guide's own fill.sh prints them over the translation bff07181ef63954e… (all of the seat's roots in one cut). By AI agents, Wed Nov 11 2026. No macro, syntax, notation, axiom, sorry.
-/
import Derived.Test.YtjnmogmagngenaaChecked
import GoSem.Claim
import GoSem.ClaimJoined
import GoSem.ClaimMapViews
import Derived.JoinedTies
import Derived.KernelRfl
namespace Go.Proofs.Ytjnmogmagngenaa
/- THE CELL 'sum', in the pinned program and in every row, IS THE sha256 OF THE DUMP (.gsa) THAT YtjnmogmagngenaaProg.lean LOADS. Nothing in Lean hashes anything: it is a label: what it is worth is what the hold of that sum in a sandbox is worth. -/
noncomputable def Try.pinned : Pinned := { name := "ytjnmogmagngenaa", sum := "bff07181ef63954ee1b471af5188eb3495edf77ecd69363a2779bb9c91f9e9b8", checked := Try.checked }
namespace Rows
def none {H : Type} : Left H := { results := [], args := [] }

/-- 'hornlaw1.Names': WHATEVER THE INPUT: true; the input reads as it did. -/
def namesSpec : ChangeSpec := { name := "names", fn := fun _ => fun
  | [] => { results := [.lit (.bool true)], args := [] }
  | _ => none }
def namesRow : OpenClaim := { program := "ytjnmogmagngenaa", sum := "bff07181ef63954ee1b471af5188eb3495edf77ecd69363a2779bb9c91f9e9b8", func := "pulsehorn/hornlaw1.Names", spec := "names", apart := false }
def NamesSaid : Prop := namesRow.holds Try.pinned (OpenSpec.ofChange namesSpec)

/-- ITS FALSE NEIGHBOUR: 'it returns false'. Refute it at one input. -/
def namesWrong : ChangeSpec := { name := "names", fn := fun _ => fun
  | [] => { results := [.lit (.bool false)], args := [] }
  | _ => none }
def NamesWrongFalsely : Prop := namesRow.holds Try.pinned (OpenSpec.ofChange namesWrong)

/-- 'hornlaw1.SoundWay': WHATEVER THE INPUT: true; the input reads as it did. -/
def soundWaySpec : ChangeSpec := { name := "soundWay", fn := fun _ => fun
  | [d1, d2, d3] => { results := [.lit (.bool true)], args := [d1, d2, d3] }
  | _ => none }
def soundWayRow : OpenClaim := { program := "ytjnmogmagngenaa", sum := "bff07181ef63954ee1b471af5188eb3495edf77ecd69363a2779bb9c91f9e9b8", func := "pulsehorn/hornlaw1.SoundWay", spec := "soundWay", unfollowed := true, recurses := true, apart := false }
def SoundWaySaid : Prop := soundWayRow.holds Try.pinned (OpenSpec.ofChange soundWaySpec)

/-- ITS FALSE NEIGHBOUR: 'it returns false'. Refute it at one input. -/
def soundWayWrong : ChangeSpec := { name := "soundWay", fn := fun _ => fun
  | [d1, d2, d3] => { results := [.lit (.bool false)], args := [d1, d2, d3] }
  | _ => none }
def SoundWayWrongFalsely : Prop := soundWayRow.holds Try.pinned (OpenSpec.ofChange soundWayWrong)

/-- 'hornlaw4.SoundStill': WHATEVER THE INPUT: true; the input reads as it did. -/
def soundStillSpec : ChangeSpec := { name := "soundStill", fn := fun _ => fun
  | [d] => { results := [.lit (.bool true)], args := [d] }
  | _ => none }
def soundStillRow : OpenClaim := { program := "ytjnmogmagngenaa", sum := "bff07181ef63954ee1b471af5188eb3495edf77ecd69363a2779bb9c91f9e9b8", func := "pulsehorn/hornlaw4.SoundStill", spec := "soundStill", unfollowed := true, recurses := true, apart := false }
def SoundStillSaid : Prop := soundStillRow.holds Try.pinned (OpenSpec.ofChange soundStillSpec)

/-- ITS FALSE NEIGHBOUR: 'it returns false'. Refute it at one input. -/
def soundStillWrong : ChangeSpec := { name := "soundStill", fn := fun _ => fun
  | [d] => { results := [.lit (.bool false)], args := [d] }
  | _ => none }
def SoundStillWrongFalsely : Prop := soundStillRow.holds Try.pinned (OpenSpec.ofChange soundStillWrong)

/-- 'hornlaw1.PairBack': WHATEVER THE INPUT: true; the input reads as it did. -/
def pairBackSpec : ChangeSpec := { name := "pairBack", fn := fun _ => fun
  | [d1, d2] => { results := [.lit (.bool true)], args := [d1, d2] }
  | _ => none }
def pairBackRow : OpenClaim := { program := "ytjnmogmagngenaa", sum := "bff07181ef63954ee1b471af5188eb3495edf77ecd69363a2779bb9c91f9e9b8", func := "pulsehorn/hornlaw1.PairBack", spec := "pairBack", apart := false }
def PairBackSaid : Prop := pairBackRow.holds Try.pinned (OpenSpec.ofChange pairBackSpec)

/-- ITS FALSE NEIGHBOUR: 'it returns false'. Refute it at one input. -/
def pairBackWrong : ChangeSpec := { name := "pairBack", fn := fun _ => fun
  | [d1, d2] => { results := [.lit (.bool false)], args := [d1, d2] }
  | _ => none }
def PairBackWrongFalsely : Prop := pairBackRow.holds Try.pinned (OpenSpec.ofChange pairBackWrong)

/- THE SECOND FORM. 'bulk': how many values and letters a reading holds, each counted each time it is reached (what is shared counts as often as it is met; a slice's spare places count too). A statement '..UptoSaid' is the law's where the arguments, and the package variables that the reading takes, are together of bulk at most 1048576: NARROWER than '..Said'. Prove '..Said' where nothing that the law and all that it calls make is longer than what came in: it says more and counts as full. Else prove '..UptoSaid'. A law counts once. -/
mutual
def uptoBulk {H : Type} : DataW H → Nat
  | .lit (.string bytes) => bytes.length + 1
  | .lit _ => 1
  | .nil => 1
  | .ptr d => uptoBulk d + 1
  | .slice elems spare => uptoBulkAll elems + uptoBulkAll spare + 1
  | .agg parts => uptoBulkAll parts + 1
  | .iface _ d => uptoBulk d + 1
  | .map entries => uptoBulkEntries entries + 1
  | .held _ => 1
def uptoBulkAll {H : Type} : List (DataW H) → Nat
  | [] => 0
  | d :: r => uptoBulk d + uptoBulkAll r
def uptoBulkEntries {H : Type} : List (Lit × DataW H) → Nat
  | [] => 0
  | x :: r => uptoBulkEntry x + uptoBulkEntries r
def uptoBulkEntry {H : Type} : Lit × DataW H → Nat
  | (.string bytes, d) => bytes.length + uptoBulk d + 1
  | (_, d) => uptoBulk d + 1
 end
def uptoSmall : (H : Type) → List (DataW H) → Bool := fun _ ds => decide (uptoBulkAll ds ≤ 1048576)
def OpenSpec.upto (s : _root_.Go.ChangeSpec) : _root_.Go.OpenSpec := { _root_.Go.OpenSpec.ofChange s with cond := some uptoSmall }

/-- 'hornlaw1.Names', WHERE WHAT IT READS IS OF BULK AT MOST 1048576: true; the input reads as it did. -/
def namesUptoRow : OpenClaim := { program := "ytjnmogmagngenaa", sum := "bff07181ef63954ee1b471af5188eb3495edf77ecd69363a2779bb9c91f9e9b8", func := "pulsehorn/hornlaw1.Names", spec := "names", apart := false, narrowed := true }
def NamesUptoSaid : Prop := namesUptoRow.holds Try.pinned (OpenSpec.upto namesSpec)

/-- 'hornlaw1.SoundWay', WHERE WHAT IT READS IS OF BULK AT MOST 1048576: true; the input reads as it did. -/
def soundWayUptoRow : OpenClaim := { program := "ytjnmogmagngenaa", sum := "bff07181ef63954ee1b471af5188eb3495edf77ecd69363a2779bb9c91f9e9b8", func := "pulsehorn/hornlaw1.SoundWay", spec := "soundWay", unfollowed := true, recurses := true, apart := false, narrowed := true }
def SoundWayUptoSaid : Prop := soundWayUptoRow.holds Try.pinned (OpenSpec.upto soundWaySpec)

/-- 'hornlaw4.SoundStill', WHERE WHAT IT READS IS OF BULK AT MOST 1048576: true; the input reads as it did. -/
def soundStillUptoRow : OpenClaim := { program := "ytjnmogmagngenaa", sum := "bff07181ef63954ee1b471af5188eb3495edf77ecd69363a2779bb9c91f9e9b8", func := "pulsehorn/hornlaw4.SoundStill", spec := "soundStill", unfollowed := true, recurses := true, apart := false, narrowed := true }
def SoundStillUptoSaid : Prop := soundStillUptoRow.holds Try.pinned (OpenSpec.upto soundStillSpec)

/-- 'hornlaw1.PairBack', WHERE WHAT IT READS IS OF BULK AT MOST 1048576: true; the input reads as it did. -/
def pairBackUptoRow : OpenClaim := { program := "ytjnmogmagngenaa", sum := "bff07181ef63954ee1b471af5188eb3495edf77ecd69363a2779bb9c91f9e9b8", func := "pulsehorn/hornlaw1.PairBack", spec := "pairBack", apart := false, narrowed := true }
def PairBackUptoSaid : Prop := pairBackUptoRow.holds Try.pinned (OpenSpec.upto pairBackSpec)

end Rows
end Go.Proofs.Ytjnmogmagngenaa
