/-
  hornref2.Line: what stands ahead of its contract.
-/
import Derived.Test.YtkkhgdkgbhdfaakGreatDoorRa15
import Derived.Test.YtkkhgdkgbhdfaakGreatDoorRa14
import Derived.Test.YtkkhgdkgbhdfaakGreatDoorRa11
import Derived.Test.YtkkhgdkgbhdfaakGreatDoorRa06
import Derived.Test.YtkkhgdkgbhdfaakGreatDoorRa03
import Derived.Test.YtkkhgdkgbhdfaakGreatDoorRa10
import Derived.Test.YtkkhgdkgbhdfaakGreatDoorRa24
import Derived.Deep.CutBlock
import Derived.Deep.DeepCutAuto
import Derived.Test.YtkkhgdkgbhdfaakGreatDoorRa29
import Derived.Deep.RegionWith
import Derived.Deep.RegionHeld3
namespace Go.Proofs.YtkkhgdkgbhdfaakGreatDoor.Ses
open Go.RowKit
open Go.Proofs.YtkkhgdkgbhdfaakGreatDoor.Tre Go.Proofs.YtkkhgdkgbhdfaakGreatDoor.Hrn Go.Proofs.YtkkhgdkgbhdfaakGreatDoor.Txt Go.Proofs.YtkkhgdkgbhdfaakGreatDoor.Tnk Go.Proofs.YtkkhgdkgbhdfaakGreatDoor.Scl
set_option linter.unusedVariables false

/-- What a function answers that has a text in a slot and a tank in a box. -/
theorem results_line {fn : Func} {p u : Tmp} (h : fn.results = #[.tmp u, .cell p 44]) (tmps : Array Value) (w : World) (B : Nat) (S E H : Int) (hp : tmps.getD p undef = .pointer (some ⟨B, 0, none⟩)) (hk : Tk w B S E H) :
    (results fn tmps).run Tryz.prog w = .ok (.tuple #[tmps.getD u undef, .agg #[.int .i64 S, .int .i64 E, .int .i64 H]]) w := by
  have hp' : tmps[p]?.getD undef = .pointer (some ⟨B, 0, none⟩) := by simpa using hp
  simp [results, h, hp', asAddr, load_tank hk]

theorem refSnd_no (a : Option Addr) (cap : Nat) (l : List Int) (w : World) (h6 : l.length ≤ 6) (hr : Row w a l) (h : Hid (l.any (out 1000) = true)) :
    Calls Tryz.prog 49 #[.slice a l.length cap] w fun e w' => e = .returned (.int .i64 1) ∧ w = w' := by
  go_enter Tryz.func49, Tryz.ntmps49
  go_wp2_with fail
  refine (Tre.refAll 1000 a cap l w (by omega) (by omega) (by omega) hr).mono ?_
  rw [unhide h]
  rintro e w1 ⟨rfl, rfl⟩
  go_wp2
  go_ret
  exact ⟨rfl, rfl⟩
theorem refSnd_ok (a : Option Addr) (cap : Nat) (l : List Int) (w : World) (h6 : l.length ≤ 6) (hr : Row w a l) (h : Hid (l.any (out 1000) = false)) :
    Calls Tryz.prog 49 #[.slice a l.length cap] w fun e w' => e = .returned (.int .i64 0) ∧ w = w' := by
  go_enter Tryz.func49, Tryz.ntmps49
  go_wp2_with fail
  refine (Tre.refAll 1000 a cap l w (by omega) (by omega) (by omega) hr).mono ?_
  rw [unhide h]
  rintro e w1 ⟨rfl, rfl⟩
  go_wp2
  go_ret
  exact ⟨rfl, rfl⟩

/-- Three cells of another block are set. -/
theorem aside3 {W : World} {B g j : Nat} (h : g ≠ B) (u v x : Value) : (((W.setCell ⟨B, 0, none⟩ u).setCell ⟨B, 1, none⟩ v).setCell ⟨B, 2, none⟩ x).cell? ⟨g, j, none⟩ = W.cell? ⟨g, j, none⟩ :=
  World.cell?_of_block (a := ⟨g, j, none⟩) (by rw [Below.heap_setCell _ _ _ _ h, Below.heap_setCell _ _ _ _ h, Below.heap_setCell _ _ _ _ h])
/-- .. as a slice and a row, with its room. -/
theorem room_of {w : World} {base : Nat} {v : Value} {l : List Int} (h : Has w base v l) : ∃ a cap, v = .slice a l.length cap ∧ Row w a l ∧ l.length ≤ cap ∧ cap ≤ 9223372036854775807 := by
  obtain ⟨a, cap, e, hr⟩ := h.row
  rcases h.2 with ⟨h1, h2⟩ | ⟨g, c, cur, hv, hb, hg, hn, hm, _⟩
  · rw [h1] at e
    obtain ⟨e1, e2, e3⟩ := Value.slice.inj e
    exact ⟨a, cap, by rw [h1]; exact e, hr, by omega, by omega⟩
  · rw [hv] at e
    obtain ⟨e1, e2, e3⟩ := Value.slice.inj e
    subst e3
    exact ⟨a, c, by rw [hv]; exact e, hr, hn, by simpa [maxLen] using hm⟩

end Go.Proofs.YtkkhgdkgbhdfaakGreatDoor.Ses
