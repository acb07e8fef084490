/-
  hornref2.Put, with a fault and without: one contract.
-/
import Derived.Test.YtpinmcgaaplkiagDoorWidthSay
import Derived.Test.YtpinmcgaaplkiagDoorRefPut
import Derived.Test.YtpinmcgaaplkiagDoorErrTold
namespace Go.Proofs.YtpinmcgaaplkiagDoor.Wid
open Go.RowKit
open Go.Proofs.YtpinmcgaaplkiagDoor.Tre Go.Proofs.YtpinmcgaaplkiagDoor.Bnd Go.Proofs.YtpinmcgaaplkiagDoor.Hrn Go.Proofs.YtpinmcgaaplkiagDoor.Ev Go.Proofs.YtpinmcgaaplkiagDoor.Aser
set_option linter.unusedVariables false

theorem ref_put (a : Option Addr) (cap : Nat) (l : List Int) (b : Option Addr) (capb : Nat) (ws : List Int) (w : World) (hr : Row w a l) (hs : Row w b ws) (zl : l.length ≤ 1048576) (zs : ws.length ≤ 9223372036854775807) :
    Calls Tryd.prog 15 #[.slice a l.length cap, .slice b ws.length capb] w fun e w' => ∃ p q, e = .returned (.tuple #[.slice p (putL l ws).length q, .int .i64 (putF l ws)]) ∧ Row w' p (putL l ws) ∧ Below w.heap.size w w' := by
  refine (refPut a cap l b capb ws w hr hs zl zs).mono ?_
  rintro e w' ⟨⟨h1, h2⟩ | ⟨h1, v, h2, h3⟩, hb⟩
  · unfold putL
    rw [if_neg h1]
    exact ⟨none, 0, h2, Or.inl rfl, hb⟩
  · unfold putL
    rw [if_pos h1]
    obtain ⟨p, q, rfl, hrow⟩ := h3.row
    exact ⟨p, q, by rw [h2, h1], hrow, hb⟩

end Go.Proofs.YtpinmcgaaplkiagDoor.Wid
