/-
  Package pulse: rowsAfter: by its contract.
-/
import Derived.Test.YtjnmogmagngenacPulseDist
import Derived.Test.YtjnmogmagngenacCount
namespace Go.Proofs.Ytjnmogmagngenac.Pls
open Go.RowKit
open Go.Proofs.Ytjnmogmagngenac.Tre Go.Proofs.Ytjnmogmagngenac.Lap Go.Proofs.Ytjnmogmagngenac.Cnt Go.Proofs.Ytjnmogmagngenac.Mid
set_option linter.unusedVariables false

theorem rowsAfter (b L : Nat) (X : Int) (hb : b ≤ 6) (hL : L ≤ 8) (h0 : -(L : Int) ≤ X) (h1 : X ≤ L) (w : World) :
    Calls Try.prog 15 #[.int .i64 X, .int .i64 b, .int .i64 L] w fun e w' => e = .returned (.int .i64 (V (L - X.natAbs) b)) ∧ Below w.heap.size w w' := by
  have hD := hide (dist X w (by omega) (by omega))
  obtain ⟨K, hK⟩ : ∃ K, L - X.natAbs = K := ⟨_, rfl⟩
  obtain ⟨d, hd⟩ : ∃ d, X.natAbs = d := ⟨_, rfl⟩
  have hsub : (L : Int) - (d : Int) = (K : Int) := by omega
  have hK8 : K ≤ 8 := by omega
  rw [hK]
  rw [hd] at hD
  clear hK hd h0 h1
  go_enter Try.func15, Try.ntmps15
  go_wp2_with fail
  refine (unhide hD).mono ?_
  rintro e w1 ⟨rfl, rfl⟩
  go_wp2_with fail
  refine (of_ok b K hb hK8 w).mono ?_
  rintro e w2 ⟨rfl, hb2⟩
  go_wp2
  go_ret
  exact ⟨rfl, hb2⟩

end Go.Proofs.Ytjnmogmagngenac.Pls
