/-
  (*run.desk).answer, by its contract.
-/
import Derived.Test.YtkkhgdkgbhdfaakGreatDoorRa32
import Derived.Test.YtkkhgdkgbhdfaakGreatDoorRa34
import Derived.Test.YtkkhgdkgbhdfaakGreatDoorRa35
namespace Go.Proofs.YtkkhgdkgbhdfaakGreatDoor.Lb
open Go.RowKit
open Go.Proofs.YtkkhgdkgbhdfaakGreatDoor.Tre Go.Proofs.YtkkhgdkgbhdfaakGreatDoor.Hrn Go.Proofs.YtkkhgdkgbhdfaakGreatDoor.Txt Go.Proofs.YtkkhgdkgbhdfaakGreatDoor.Ses Go.Proofs.YtkkhgdkgbhdfaakGreatDoor.Tnk Go.Proofs.YtkkhgdkgbhdfaakGreatDoor.Ev
set_option linter.unusedVariables false

set_option maxRecDepth 100000 in
theorem ansK0 {l : List Int} (hb : Byts l) (hl : l.length ≤ 3000) (D M : Nat) (H : Int) (w : World) (hL : Lib20 w) (hg : 9 ≤ w.heap.size) (hD : Desk w D M H) (hk : kind (hd l) = 0) :
    Calls Tryz.prog 42 #[.pointer (some ⟨D, 0, none⟩), .string (str l)] w fun e w' => AnsSays D M H l w e w' := by
  have HPO : Hid (∀ o H' w', Line H l o H' → Desk w' D M H' → But D w w' → AnsSays D M H l w (.returned (.string (str o))) w') := hide (fun o H' w' h1 h2 h3 => ⟨o, H', rfl, h1, h2, h3⟩)
  have HNO := hide (none_kind hk)
  have cR := read20 hb hl D M H w hL hg hD
  clear hk
  go_enter Tryz.func42, Tryz.ntmps42
  go_wp2_with fail
  refine cR.mono ?_
  rintro e w1 ⟨hsay, hb1⟩
  have hD1 := hD.below hb1
  have hL1 := hL.on hb1 hg
  rcases hsay with ⟨n, v, hR, rfl, hv⟩ | ⟨hR, rfl⟩
  · exact absurd hR (unhide HNO n)
  · have cT := told_bad (.slice none 0 0) w1 hL1
    clear hR cR
    unfold badV at cT ⊢
    go_wp2_with fail
    refine cT.mono ?_
    rintro e w2 ⟨rfl, hb2⟩
    go_wp2
    go_ret
    exact unhide HPO bad H _ (Or.inl ⟨unhide HNO, rfl, rfl⟩) (hD1.below hb2) ((But.of_below hb1).trans (But.of_below hb2))

theorem answer20 {l : List Int} (hb : Byts l) (hl : l.length ≤ 3000) (D M : Nat) (H : Int) (w : World) (hL : Lib20 w) (hg : 9 ≤ w.heap.size) (hgD : 9 ≤ D) (hD : Desk w D M H) (hO : Ok 100 20 H) :
    Calls Tryz.prog 42 #[.pointer (some ⟨D, 0, none⟩), .string (str l)] w fun e w' => AnsSays D M H l w e w' := by
  have h7 := kind_in (hd l)
  have hk : kind (hd l) = 0 ∨ kind (hd l) = 1 ∨ kind (hd l) = 2 ∨ kind (hd l) = 3 ∨ kind (hd l) = 4 ∨ kind (hd l) = 5 ∨ kind (hd l) = 6 ∨ kind (hd l) = 7 := by omega
  rcases hk with h | h | h | h | h | h | h | h
  · exact ansK0 hb hl D M H w hL hg hD h
  · exact ansK1 hb hl D M H w hL hg hgD hD hO h
  · exact ansK2 hb hl D M H w hL hg hgD hD hO h
  · exact ansK3 hb hl D M H w hL hg hgD hD hO h
  · exact ansK4 hb hl D M H w hL hg hgD hD hO h
  · exact ansK5 hb hl D M H w hL hg hgD hD hO h
  · exact ansK6 hb hl D M H w hL hg hgD hD hO h
  · exact ansK7 hb hl D M H w hL hg hgD hD hO h

end Go.Proofs.YtkkhgdkgbhdfaakGreatDoor.Lb
