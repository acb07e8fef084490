/-
  DERIVED. GIVEN WITH THE SEED: THE CARDS: each row of YtogeaaccgjngoadDoorRows.lean that lists a variable, with what it lists TIED to the program's text (the seventh form; the later family's looks); each row that meets fmt, with fmt's text TOLD by the authors' own Lean function (tested against real Go, not proved from fmt's source: count such statements apart). THE CARD IS WHAT COUNTS. Prove the row's statement (the work); the ties are given (YtogeaaccgjngoadDoorTie.lean); close each card by the builder's one call (the guide's Derived/Test/ToyasCard.lean, 'card_holds'). Laid BY PROGRAM, IN A SANDBOX (cutbox-door.mjs). By AI agents, Wed Nov 11 2026. No macro, syntax, notation, axiom, sorry.
-/
import Derived.Test.YtogeaaccgjngoadDoorRows
import GoSem.ClaimSeven
namespace Go.Proofs.YtogeaaccgjngoadDoor
namespace Rows

/-- THE TIED CARD OF 'hornlaw4.PulseEnds'. -/
def pulseEndsCard : Claim7 := { stood := { row := pulseEndsRow, standIns := [], harness := (true, "55df49b0683a2b1f7820c6fe99b1f9cb8d8209506560ab02c56f9f1318c877fb"), looks := true }, kinds := [], alts := [], laidByText := true, laidKinds := [.handle], laidTests := true, laidLooks := .later }
def PulseEndsCardSaid : Prop := Claim7.holds Tryd.pinned (.plain (OpenSpec.ofChange pulseEndsSpec)) pulseEndsCard

/-- THE TIED CARD OF 'hornlaw1.NearTells'. -/
def nearTellsCard : Claim7 := { stood := { row := nearTellsRow, standIns := [], harness := (true, "55df49b0683a2b1f7820c6fe99b1f9cb8d8209506560ab02c56f9f1318c877fb"), looks := true }, kinds := [], alts := [], laidByText := true, laidKinds := [.handle], laidTests := true, laidLooks := .later }
def NearTellsCardSaid : Prop := Claim7.holds Tryd.pinned (.plain (OpenSpec.ofChange nearTellsSpec)) nearTellsCard

/-- THE TIED CARD OF 'hornlaw4.NearWhole'. -/
def nearWholeCard : Claim7 := { stood := { row := nearWholeRow, standIns := [], harness := (true, "55df49b0683a2b1f7820c6fe99b1f9cb8d8209506560ab02c56f9f1318c877fb"), looks := true }, kinds := [], alts := [], laidByText := true, laidKinds := [.handle], laidTests := true, laidLooks := .later }
def NearWholeCardSaid : Prop := Claim7.holds Tryd.pinned (.plain (OpenSpec.ofChange nearWholeSpec)) nearWholeCard

/-- THE SECOND FORM's CARD OF 'hornlaw4.PulseEnds'. -/
def pulseEndsUptoCard : Claim7 := { stood := { row := pulseEndsUptoRow, standIns := [], harness := (true, "55df49b0683a2b1f7820c6fe99b1f9cb8d8209506560ab02c56f9f1318c877fb"), looks := true }, kinds := [], alts := [], laidByText := true, laidKinds := [.handle], laidTests := true, laidLooks := .later }
def PulseEndsUptoCardSaid : Prop := Claim7.holds Tryd.pinned (.plain (OpenSpec.upto pulseEndsSpec)) pulseEndsUptoCard

/-- THE SECOND FORM's CARD OF 'hornlaw1.NearTells'. -/
def nearTellsUptoCard : Claim7 := { stood := { row := nearTellsUptoRow, standIns := [], harness := (true, "55df49b0683a2b1f7820c6fe99b1f9cb8d8209506560ab02c56f9f1318c877fb"), looks := true }, kinds := [], alts := [], laidByText := true, laidKinds := [.handle], laidTests := true, laidLooks := .later }
def NearTellsUptoCardSaid : Prop := Claim7.holds Tryd.pinned (.plain (OpenSpec.upto nearTellsSpec)) nearTellsUptoCard

/-- THE SECOND FORM's CARD OF 'hornlaw4.NearWhole'. -/
def nearWholeUptoCard : Claim7 := { stood := { row := nearWholeUptoRow, standIns := [], harness := (true, "55df49b0683a2b1f7820c6fe99b1f9cb8d8209506560ab02c56f9f1318c877fb"), looks := true }, kinds := [], alts := [], laidByText := true, laidKinds := [.handle], laidTests := true, laidLooks := .later }
def NearWholeUptoCardSaid : Prop := Claim7.holds Tryd.pinned (.plain (OpenSpec.upto nearWholeSpec)) nearWholeUptoCard
end Rows
end Go.Proofs.YtogeaaccgjngoadDoor
