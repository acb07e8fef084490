/-
  DERIVED. GIVEN WITH THE SEED: THE CARDS: each row of YtephagojpnfhcajGreatDoorRows.lean that lists a variable, with what it lists TIED to the program's text (the seventh form; the later family's looks); each row that meets fmt, with fmt's text TOLD by the authors' own Lean function (tested against real Go, not proved from fmt's source: count such statements apart). THE CARD IS WHAT COUNTS. Prove the row's statement (the work); the ties are given (YtephagojpnfhcajGreatDoorTie.lean); close each card by the builder's one call (the guide's Derived/Test/ToyasCard.lean, 'card_holds'). Laid BY PROGRAM, IN A SANDBOX (cutbox-door.mjs). By AI agents, Wed Nov 11 2026. No macro, syntax, notation, axiom, sorry.
-/
import Derived.Test.YtephagojpnfhcajGreatDoorRows
import GoSem.ClaimSeven
namespace Go.Proofs.YtephagojpnfhcajGreatDoor
namespace Rows

/-- THE TIED CARD OF 'hornlaw3.PackBack'. -/
def packBackCard : Claim7 := { stood := { row := packBackRow, standIns := [], harness := (true, "1b8f73dcb34844228d47b72c74aced6c6e0f35515b991c9347622922b2d5bbf2"), looks := true }, kinds := [], alts := [], laidByText := true, laidKinds := [.handle], laidTests := true, laidLooks := .later }
def PackBackCardSaid : Prop := Claim7.holds Tryz.pinned (.plain (OpenSpec.ofChange packBackSpec)) packBackCard

/-- THE TIED CARD OF 'hornlaw4.PackSilent'. -/
def packSilentCard : Claim7 := { stood := { row := packSilentRow, standIns := [], harness := (true, "1b8f73dcb34844228d47b72c74aced6c6e0f35515b991c9347622922b2d5bbf2"), looks := true }, kinds := [], alts := [], laidByText := true, laidKinds := [.handle], laidTests := true, laidLooks := .later }
def PackSilentCardSaid : Prop := Claim7.holds Tryz.pinned (.plain (OpenSpec.ofChange packSilentSpec)) packSilentCard

/-- THE TIED CARD OF 'hornlaw3.HidePlays'. -/
def hidePlaysCard : Claim7 := { stood := { row := hidePlaysRow, standIns := [], harness := (true, "1b8f73dcb34844228d47b72c74aced6c6e0f35515b991c9347622922b2d5bbf2"), looks := true }, kinds := [], alts := [], laidByText := true, laidKinds := [.handle], laidTests := true, laidLooks := .later }
def HidePlaysCardSaid : Prop := Claim7.holds Tryz.pinned (.plain (OpenSpec.ofChange hidePlaysSpec)) hidePlaysCard

/-- THE SECOND FORM's CARD OF 'hornlaw3.PackBack'. -/
def packBackUptoCard : Claim7 := { stood := { row := packBackUptoRow, standIns := [], harness := (true, "1b8f73dcb34844228d47b72c74aced6c6e0f35515b991c9347622922b2d5bbf2"), looks := true }, kinds := [], alts := [], laidByText := true, laidKinds := [.handle], laidTests := true, laidLooks := .later }
def PackBackUptoCardSaid : Prop := Claim7.holds Tryz.pinned (.plain (OpenSpec.upto packBackSpec)) packBackUptoCard

/-- THE SECOND FORM's CARD OF 'hornlaw4.PackSilent'. -/
def packSilentUptoCard : Claim7 := { stood := { row := packSilentUptoRow, standIns := [], harness := (true, "1b8f73dcb34844228d47b72c74aced6c6e0f35515b991c9347622922b2d5bbf2"), looks := true }, kinds := [], alts := [], laidByText := true, laidKinds := [.handle], laidTests := true, laidLooks := .later }
def PackSilentUptoCardSaid : Prop := Claim7.holds Tryz.pinned (.plain (OpenSpec.upto packSilentSpec)) packSilentUptoCard

/-- THE SECOND FORM's CARD OF 'hornlaw3.HidePlays'. -/
def hidePlaysUptoCard : Claim7 := { stood := { row := hidePlaysUptoRow, standIns := [], harness := (true, "1b8f73dcb34844228d47b72c74aced6c6e0f35515b991c9347622922b2d5bbf2"), looks := true }, kinds := [], alts := [], laidByText := true, laidKinds := [.handle], laidTests := true, laidLooks := .later }
def HidePlaysUptoCardSaid : Prop := Claim7.holds Tryz.pinned (.plain (OpenSpec.upto hidePlaysSpec)) hidePlaysUptoCard
end Rows
end Go.Proofs.YtephagojpnfhcajGreatDoor
