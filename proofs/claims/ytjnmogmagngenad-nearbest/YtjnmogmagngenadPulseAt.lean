/-
  Package pulse: numberAt: by its contract.
-/
import Derived.Test.YtjnmogmagngenadPulseAfter
namespace Go.Proofs.Ytjnmogmagngenad.Pls
open Go.RowKit
open Go.Proofs.Ytjnmogmagngenad.Tre Go.Proofs.Ytjnmogmagngenad.Lap Go.Proofs.Ytjnmogmagngenad.Cnt Go.Proofs.Ytjnmogmagngenad.Mid
set_option linter.unusedVariables false

set_option maxHeartbeats 4000000 in
theorem numberAt (r : Int) (b L : Nat) (hb : b ≤ 5) (hL : L ≤ 8) (h0 : 0 ≤ r) (h9 : r ≤ 20256) (h1 : Hid (r < V L (b + 1))) (w : World) :
    Calls Try.prog 19 #[.int .i64 r, .int .i64 b, .int .i64 L] w fun e w' => ∃ s : Nat, e = .returned (.tuple #[.int .i64 ((s : Int) - (L : Int)), .int .i64 (ahead b L s)]) ∧ s ≤ 2 * L ∧ Hid (ahead b L s ≤ r ∧ r < ahead b L (s + 1)) ∧ Below w.heap.size w w' := by
  go_enter Try.func19, Try.ntmps19
  go_wp2
  go_loopw [7, 12] (fun v i wr => ∃ (s : Nat) (A : Int), s ≤ 2 * L ∧ i = .int .i64 s ∧ v = .int .i64 A ∧ Hid (A = ahead b L s) ∧ A ≤ r ∧ Below w.heap.size w wr) (fun _ i _ => 2 * L - (intOf i).toNat)
  case atStart => exact ⟨0, 0, Nat.zero_le _, rfl, rfl, rfl, h0, Below.refl _ _⟩
  case round =>
    obtain ⟨s, A, hs, rfl, rfl, HA, hA, hB⟩ := hrel
    have hin := ahead_in (m := b) (L := L) (s := s) (by omega) (by omega) (by omega)
    rw [← unhide HA] at hin
    obtain ⟨a0, a1⟩ := hin
    by_cases hlt : s < 2 * L
    · obtain ⟨X, hX⟩ : ∃ X, (s : Int) - (L : Int) = X := ⟨_, rfl⟩
      have hx0 : -(L : Int) ≤ X := by omega
      have hx1 : X ≤ L := by omega
      have hR := hide (rowsAfter b L X (by omega) hL hx0 hx1 wr)
      obtain ⟨r0, r1⟩ := rows_in (m := b) (L := L) (s := s) (by omega) (by omega)
      have HR : Hid (V (L - X.natAbs) b = rows b L s) := hide (by rw [← hX]; rfl)
      rw [unhide HR] at hR
      have HS := hide (ahead_succ b L s)
      obtain ⟨Q, hQ⟩ : ∃ Q, rows b L s = Q := ⟨_, rfl⟩
      rw [hQ] at r0 r1 hR HS
      rw [← unhide HA] at HS
      clear hQ HR
      have HX := hide hX
      by_cases hlt2 : r < A + Q
      · have hsub : IntKind.i64.wrap ((s : Int) - (L : Int)) = X := by rw [IntWalk.i64_in _ (by omega)]; exact hX
        clear hX
        go_wp2_with fail
        refine (unhide hR).mono ?_
        rintro e w1 ⟨rfl, hb1⟩
        go_wp2
        go_ret2
        refine ⟨s, ?_, hs, ?_, hB.trans (hb1.mono hB.size)⟩
        · rw [unhide HX, unhide HA]; rfl
        · show _ ∧ _
          rw [unhide HS, ← unhide HA]
          exact ⟨hA, hlt2⟩
      · have hle : A + Q ≤ r := by omega
        have hsub : IntKind.i64.wrap ((s : Int) - (L : Int)) = X := by rw [IntWalk.i64_in _ (by omega)]; exact hX
        clear hX
        go_wp2_with fail
        refine (unhide hR).mono ?_
        rintro e w1 ⟨rfl, hb1⟩
        go_wp2
        go_roundw
        case rel => exact ⟨s + 1, A + Q, by omega, by go_num, by go_num, (unhide HS).symm, hle, hB.trans (hb1.mono hB.size)⟩
        case measure => simp [intOf]; omega
    · obtain rfl : s = 2 * L := by omega
      have hsub : ((2 * L : Nat) : Int) - (L : Int) = (L : Int) := by omega
      have HE : Hid (ahead b L (2 * L) ≤ r ∧ r < ahead b L (2 * L + 1)) := hide ⟨by rw [← unhide HA]; exact hA, by rw [ahead_all (by omega) (by omega)]; exact unhide h1⟩
      have HU := hide hsub
      clear hsub
      go_wp2
      go_ret2
      refine ⟨2 * L, ?_, Nat.le_refl _, HE, hB⟩
      rw [unhide HU, unhide HA]; rfl

end Go.Proofs.Ytjnmogmagngenad.Pls
