/-
  Package pulse: rowsAfter: by its contract.
-/
import Derived.Test.YtjnmogmagngenaePulseDist
import Derived.Test.YtjnmogmagngenaeCount
namespace Go.Proofs.Ytjnmogmagngenae.Pls
open Go.RowKit
open Go.Proofs.Ytjnmogmagngenae.Tre Go.Proofs.Ytjnmogmagngenae.Lap Go.Proofs.Ytjnmogmagngenae.Cnt Go.Proofs.Ytjnmogmagngenae.Mid
set_option linter.unusedVariables false

theorem rowsAfter (b L : Nat) (X : Int) (hb : b ≤ 6) (hL : L ≤ 8) (h0 : -(L : Int) ≤ X) (h1 : X ≤ L) (w : World) :
    Calls Try.prog 28 #[.int .i64 X, .int .i64 b, .int .i64 L] w fun e w' => e = .returned (.int .i64 (V (L - X.natAbs) b)) ∧ Below w.heap.size w w' := by
  have hD := hide (dist X w (by omega) (by omega))
  obtain ⟨K, hK⟩ : ∃ K, L - X.natAbs = K := ⟨_, rfl⟩
  obtain ⟨d, hd⟩ : ∃ d, X.natAbs = d := ⟨_, rfl⟩
  have hsub : (L : Int) - (d : Int) = (K : Int) := by omega
  have hK8 : K ≤ 8 := by omega
  rw [hK]
  rw [hd] at hD
  clear hK hd h0 h1
  go_enter Try.func28, Try.ntmps28
  go_wp2_with fail
  refine (unhide hD).mono ?_
  rintro e w1 ⟨rfl, rfl⟩
  go_wp2_with fail
  refine (of_ok b K hb hK8 w).mono ?_
  rintro e w2 ⟨rfl, hb2⟩
  go_wp2
  go_ret
  exact ⟨rfl, hb2⟩

end Go.Proofs.Ytjnmogmagngenae.Pls
