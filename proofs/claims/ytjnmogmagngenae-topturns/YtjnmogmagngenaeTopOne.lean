/-
  horntop.one, which the statements of the whole ask first: by its contract.
-/
import Derived.Test.YtjnmogmagngenaePulseTwo
namespace Go.Proofs.Ytjnmogmagngenae.Top
open Go.RowKit
open Go.Proofs.Ytjnmogmagngenae.Tre Go.Proofs.Ytjnmogmagngenae.Pls
set_option linter.unusedVariables false

theorem fact (w : World) : Calls Try.prog 11 #[.slice (some ⟨w.heap.size, 0, none⟩) 2 2] (w.alloc (.cells #[.int .i64 1, .int .i64 0] 3)) fun e w' => e = .returned (.tuple #[.int .i64 3, .nilIface]) ∧ Below w.heap.size w w' := by
  have hb : Below w.heap.size w (w.alloc (.cells #[.int .i64 1, .int .i64 0] 3)) := (Below.refl _ _).alloc (Nat.le_refl _) _
  have h := rank_ok (some ⟨w.heap.size, 0, none⟩) 2 [1, 0] (w.alloc (.cells #[.int .i64 1, .int .i64 0] 3)) (row_two w 1 0 3) (hide (by decide +kernel))
  have e : rk [1, 0] (loud [1, 0]) = 3 := by decide +kernel
  rw [e] at h
  exact h.mono fun e w' ⟨he, hb'⟩ => ⟨he, Below.chain hb hb'⟩
theorem one_ok (w : World) : Calls Try.prog 9 #[] w fun e w' => e = .returned (.bool true) ∧ Below w.heap.size w w' := by
  go_enter Try.func9, Try.ntmps9
  go_wp2_with fail
  refine (fact w).mono ?_
  rintro e w1 ⟨rfl, hb1⟩
  go_wp2
  go_ret
  exact ⟨rfl, hb1⟩

end Go.Proofs.Ytjnmogmagngenae.Top
