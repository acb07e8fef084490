/-
  gain.Value at any gain: by its contract.
-/
import Derived.Test.YtjojeifoddonnakGreatDoorLd03
import Derived.Test.YtjojeifoddonnakGreatDoorLd30
import Derived.Test.YtjojeifoddonnakGreatDoorLd08
namespace Go.Proofs.YtjojeifoddonnakGreatDoor.Frm
open Go.RowKit
open Go.Proofs.YtjojeifoddonnakGreatDoor.Tre Go.Proofs.YtjojeifoddonnakGreatDoor.Gai Go.Proofs.YtjojeifoddonnakGreatDoor.Ev
set_option linter.unusedVariables false

theorem valueOk (g : Int) (w : World) (h : Hid (gok g = true)) :
    Calls Tryz.prog 62 #[.int .i64 g] w fun e w' => e = .returned (.tuple #[.int .i64 (vlN g), .nilIface]) ∧ w' = w := by
  obtain ⟨h1, h2, h3⟩ := gok_in (unhide h)
  rw [vlN_ok (unhide h)]
  obtain ⟨m, rfl⟩ : ∃ m : Nat, g = m := ⟨g.toNat, by omega⟩
  rw [Int.toNat_natCast] at h3 ⊢
  exact value_ok m (by omega) (hide h3) w
theorem valueNo (g : Int) (w : World) (h : Hid (gok g = false)) :
    Calls Tryz.prog 62 #[.int .i64 g] w fun e w' => e = .returned (.tuple #[.int .i64 0, .iface 48 (.int .i64 1)]) ∧ w' = w := by
  by_cases h1 : g < 0 ∨ (0 ≤ g ∧ 53 < g)
  · exact value_far g w h1
  · obtain ⟨m, rfl⟩ : ∃ m : Nat, g = m := ⟨g.toNat, by omega⟩
    have h2 : decide (0 ≤ (m : Int)) = true := by simp
    have h3 : decide ((m : Int) ≤ 53) = true := by simp; omega
    have e : gok (m : Int) = vo m := by unfold gok; rw [h2, h3, Int.toNat_natCast]; rfl
    exact value_no m (by omega) (hide (by rw [← e]; exact unhide h)) w

end Go.Proofs.YtjojeifoddonnakGreatDoor.Frm
