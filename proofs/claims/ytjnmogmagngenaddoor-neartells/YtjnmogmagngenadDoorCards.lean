/-
  DERIVED. GIVEN WITH THE SEED: THE CARDS: each row of YtjnmogmagngenadDoorRows.lean that lists a variable, with what it lists TIED to the program's text (the seventh form; the later family's looks); each row that meets fmt, with fmt's text TOLD by the authors' own Lean function (tested against real Go, not proved from fmt's source: count such statements apart). THE CARD IS WHAT COUNTS. Prove the row's statement (the work); the ties are given (YtjnmogmagngenadDoorTie.lean); close each card by the builder's one call (the guide's Derived/Test/ToyasCard.lean, 'card_holds'). Laid BY PROGRAM, IN A SANDBOX (cutbox-door.mjs). By AI agents, Wed Nov 11 2026. No macro, syntax, notation, axiom, sorry.
-/
import Derived.Test.YtjnmogmagngenadDoorRows
import GoSem.ClaimSeven
namespace Go.Proofs.YtjnmogmagngenadDoor
namespace Rows

/-- THE TIED CARD OF 'hornlaw4.PulseEnds'. -/
def pulseEndsCard : Claim7 := { stood := { row := pulseEndsRow, standIns := [], harness := (true, "ef5111ac4d9856b916747469ccde401b03b7beca302fc2a15841a021865e775f"), looks := true }, kinds := [], alts := [], laidByText := true, laidKinds := [.handle], laidTests := true, laidLooks := .later }
def PulseEndsCardSaid : Prop := Claim7.holds Tryd.pinned (.plain (OpenSpec.ofChange pulseEndsSpec)) pulseEndsCard

/-- THE TIED CARD OF 'hornlaw1.NearTells'. -/
def nearTellsCard : Claim7 := { stood := { row := nearTellsRow, standIns := [], harness := (true, "ef5111ac4d9856b916747469ccde401b03b7beca302fc2a15841a021865e775f"), looks := true }, kinds := [], alts := [], laidByText := true, laidKinds := [.handle], laidTests := true, laidLooks := .later }
def NearTellsCardSaid : Prop := Claim7.holds Tryd.pinned (.plain (OpenSpec.ofChange nearTellsSpec)) nearTellsCard

/-- THE TIED CARD OF 'hornlaw4.NearWhole'. -/
def nearWholeCard : Claim7 := { stood := { row := nearWholeRow, standIns := [], harness := (true, "ef5111ac4d9856b916747469ccde401b03b7beca302fc2a15841a021865e775f"), looks := true }, kinds := [], alts := [], laidByText := true, laidKinds := [.handle], laidTests := true, laidLooks := .later }
def NearWholeCardSaid : Prop := Claim7.holds Tryd.pinned (.plain (OpenSpec.ofChange nearWholeSpec)) nearWholeCard

/-- THE TIED CARD OF 'hornlaw1.GainTells'. -/
def gainTellsCard : Claim7 := { stood := { row := gainTellsRow, standIns := [], harness := (true, "ef5111ac4d9856b916747469ccde401b03b7beca302fc2a15841a021865e775f"), looks := true }, kinds := [], alts := [], laidByText := true, laidKinds := [.handle], laidTests := true, laidLooks := .later }
def GainTellsCardSaid : Prop := Claim7.holds Tryd.pinned (.plain (OpenSpec.ofChange gainTellsSpec)) gainTellsCard

/-- THE SECOND FORM's CARD OF 'hornlaw4.PulseEnds'. -/
def pulseEndsUptoCard : Claim7 := { stood := { row := pulseEndsUptoRow, standIns := [], harness := (true, "ef5111ac4d9856b916747469ccde401b03b7beca302fc2a15841a021865e775f"), looks := true }, kinds := [], alts := [], laidByText := true, laidKinds := [.handle], laidTests := true, laidLooks := .later }
def PulseEndsUptoCardSaid : Prop := Claim7.holds Tryd.pinned (.plain (OpenSpec.upto pulseEndsSpec)) pulseEndsUptoCard

/-- THE SECOND FORM's CARD OF 'hornlaw1.NearTells'. -/
def nearTellsUptoCard : Claim7 := { stood := { row := nearTellsUptoRow, standIns := [], harness := (true, "ef5111ac4d9856b916747469ccde401b03b7beca302fc2a15841a021865e775f"), looks := true }, kinds := [], alts := [], laidByText := true, laidKinds := [.handle], laidTests := true, laidLooks := .later }
def NearTellsUptoCardSaid : Prop := Claim7.holds Tryd.pinned (.plain (OpenSpec.upto nearTellsSpec)) nearTellsUptoCard

/-- THE SECOND FORM's CARD OF 'hornlaw4.NearWhole'. -/
def nearWholeUptoCard : Claim7 := { stood := { row := nearWholeUptoRow, standIns := [], harness := (true, "ef5111ac4d9856b916747469ccde401b03b7beca302fc2a15841a021865e775f"), looks := true }, kinds := [], alts := [], laidByText := true, laidKinds := [.handle], laidTests := true, laidLooks := .later }
def NearWholeUptoCardSaid : Prop := Claim7.holds Tryd.pinned (.plain (OpenSpec.upto nearWholeSpec)) nearWholeUptoCard

/-- THE SECOND FORM's CARD OF 'hornlaw1.GainTells'. -/
def gainTellsUptoCard : Claim7 := { stood := { row := gainTellsUptoRow, standIns := [], harness := (true, "ef5111ac4d9856b916747469ccde401b03b7beca302fc2a15841a021865e775f"), looks := true }, kinds := [], alts := [], laidByText := true, laidKinds := [.handle], laidTests := true, laidLooks := .later }
def GainTellsUptoCardSaid : Prop := Claim7.holds Tryd.pinned (.plain (OpenSpec.upto gainTellsSpec)) gainTellsUptoCard
end Rows
end Go.Proofs.YtjnmogmagngenadDoor
