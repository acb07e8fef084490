/-
  DERIVED. GIVEN WITH THE SEED: THE CARDS: each row of YtmbicnjciddcmadDoorRows.lean that lists a variable, with what it lists TIED to the program's text (the seventh form; the later family's looks); each row that meets fmt, with fmt's text TOLD by the authors' own Lean function (tested against real Go, not proved from fmt's source: count such statements apart). THE CARD IS WHAT COUNTS. Prove the row's statement (the work); the ties are given (YtmbicnjciddcmadDoorTie.lean); close each card by the builder's one call (the guide's Derived/Test/ToyasCard.lean, 'card_holds'). Laid BY PROGRAM, IN A SANDBOX (cutbox-door.mjs). By AI agents, Wed Nov 11 2026. No macro, syntax, notation, axiom, sorry.
-/
import Derived.Test.YtmbicnjciddcmadDoorRows
import GoSem.ClaimSeven
namespace Go.Proofs.YtmbicnjciddcmadDoor
namespace Rows

/-- THE TIED CARD OF 'hornlaw4.PulseEnds'. -/
def pulseEndsCard : Claim7 := { stood := { row := pulseEndsRow, standIns := [], harness := (true, "db39fdda74fd9f98ea885ec5bc73f1a37ba8258c9e047e65b0062ee6ce8526f3"), looks := true }, kinds := [], alts := [], laidByText := true, laidKinds := [.handle], laidTests := true, laidLooks := .later }
def PulseEndsCardSaid : Prop := Claim7.holds Tryd.pinned (.plain (OpenSpec.ofChange pulseEndsSpec)) pulseEndsCard

/-- THE SECOND FORM's CARD OF 'hornlaw4.PulseEnds'. -/
def pulseEndsUptoCard : Claim7 := { stood := { row := pulseEndsUptoRow, standIns := [], harness := (true, "db39fdda74fd9f98ea885ec5bc73f1a37ba8258c9e047e65b0062ee6ce8526f3"), looks := true }, kinds := [], alts := [], laidByText := true, laidKinds := [.handle], laidTests := true, laidLooks := .later }
def PulseEndsUptoCardSaid : Prop := Claim7.holds Tryd.pinned (.plain (OpenSpec.upto pulseEndsSpec)) pulseEndsUptoCard
end Rows
end Go.Proofs.YtmbicnjciddcmadDoor
