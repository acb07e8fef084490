/-
  DERIVED. GIVEN WITH THE SEED: THE CARDS: each row of YtfmmjnahgmhlkaaDoorRows.lean that lists a variable, with what it lists TIED to the program's text (the seventh form; the later family's looks); each row that meets fmt, with fmt's text TOLD by the authors' own Lean function (tested against real Go, not proved from fmt's source: count such statements apart). THE CARD IS WHAT COUNTS. Prove the row's statement (the work); the ties are given (YtfmmjnahgmhlkaaDoorTie.lean); close each card by the builder's one call (the guide's Derived/Test/ToyasCard.lean, 'card_holds'). Laid BY PROGRAM, IN A SANDBOX (cutbox-door.mjs). By AI agents, Wed Nov 11 2026. No macro, syntax, notation, axiom, sorry.
-/
import Derived.Test.YtfmmjnahgmhlkaaDoorRows
import GoSem.ClaimSeven
namespace Go.Proofs.YtfmmjnahgmhlkaaDoor
namespace Rows

/-- THE TIED CARD OF 'hornlaw1.SoundTells'. -/
def soundTellsCard : Claim7 := { stood := { row := soundTellsRow, standIns := [], harness := (true, "54dcf6dae5498ef1010ad010d46db8006f72b82104076eac4981474dabdb6708"), looks := true }, kinds := [], alts := [], laidByText := true, laidKinds := [.handle], laidTests := true, laidLooks := .later }
def SoundTellsCardSaid : Prop := Claim7.holds Tryd.pinned (.plain (OpenSpec.ofChange soundTellsSpec)) soundTellsCard

/-- THE SECOND FORM's CARD OF 'hornlaw1.SoundTells'. -/
def soundTellsUptoCard : Claim7 := { stood := { row := soundTellsUptoRow, standIns := [], harness := (true, "54dcf6dae5498ef1010ad010d46db8006f72b82104076eac4981474dabdb6708"), looks := true }, kinds := [], alts := [], laidByText := true, laidKinds := [.handle], laidTests := true, laidLooks := .later }
def SoundTellsUptoCardSaid : Prop := Claim7.holds Tryd.pinned (.plain (OpenSpec.upto soundTellsSpec)) soundTellsUptoCard
end Rows
end Go.Proofs.YtfmmjnahgmhlkaaDoor
