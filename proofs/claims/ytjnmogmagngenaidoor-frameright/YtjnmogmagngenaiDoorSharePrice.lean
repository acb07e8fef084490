/-
  share.price: by its contract.
-/
import Derived.Test.YtjnmogmagngenaiDoorShareBit
namespace Go.Proofs.YtjnmogmagngenaiDoor.Shr
open Go.RowKit
open Go.Proofs.YtjnmogmagngenaiDoor.Tre Go.Proofs.YtjnmogmagngenaiDoor.Cnt Go.Proofs.YtjnmogmagngenaiDoor.Bnd
set_option linter.unusedVariables false

set_option maxHeartbeats 1000000 in
theorem price (n k : Nat) (hn : n ≤ 6) (hk : k < 8) (w : World) :
    Calls Tryd.prog 60 #[.int .i64 n, .int .i64 k] w fun e w' => e = .returned (.int .i64 (pr n k)) ∧ Below w.heap.size w w' := by
  have h1 := Bt_le (k := k) (n := n) (by omega) hn
  have h2 := Bt_le (k := k + 1) (n := n) (by omega) hn
  have HP : Hid (pr n k = (Bt (k + 1) n : Int) - (Bt k n : Int)) := hide rfl
  have b1 := bits_is n k hn (by omega) w
  have b2 := hide (fun W => bits_is n (k + 1) hn (by omega) W)
  obtain ⟨X, hX⟩ : ∃ X, Bt k n = X := ⟨_, rfl⟩
  obtain ⟨Y, hY⟩ : ∃ Y, Bt (k + 1) n = Y := ⟨_, rfl⟩
  obtain ⟨P, hP⟩ : ∃ P, pr n k = P := ⟨_, rfl⟩
  rw [hX] at h1 HP b1
  rw [hY] at h2 HP b2
  rw [hP] at HP ⊢
  have wP : IntKind.i64.wrap ((Y : Int) - (X : Int)) = P := by rw [← unhide HP]; exact IntWalk.i64_in _ (by rw [unhide HP]; omega)
  have wK : IntKind.i64.wrap ((k : Int) + 1) = ((k + 1 : Nat) : Int) := by rw [Int.natCast_add]; exact IntWalk.i64_in _ (by omega)
  obtain ⟨K, hK⟩ : ∃ K, k + 1 = K := ⟨_, rfl⟩
  rw [hK] at wK b2
  clear hX hY hP hK
  go_enter Tryd.func60, Tryd.ntmps60
  go_wp2_with fail
  refine b1.mono ?_
  clear b1
  rintro e w1 ⟨rfl, hb1⟩
  go_wp2_with fail
  refine (unhide b2 w1).mono ?_
  clear b2
  rintro e w2 ⟨rfl, hb2⟩
  go_wp2
  go_ret
  exact ⟨rfl, Below.chain hb1 hb2⟩

end Go.Proofs.YtjnmogmagngenaiDoor.Shr
