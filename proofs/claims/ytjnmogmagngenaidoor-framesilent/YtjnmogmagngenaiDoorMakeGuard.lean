/-
  make of integers behind '&&' or '||': zeros of this call's own.
-/
import Derived.Test.YtjnmogmagngenaiDoorMake
namespace Go.Proofs.YtjnmogmagngenaiDoor
open Go.RowKit
open Go.Proofs.YtjnmogmagngenaiDoor.Tre
set_option linter.unusedVariables false

theorem wpList_mkG {ops : Array Oper} {rest : List Oper} {o : Oper} {a : Act} {Q : Exit → Act → World → Prop} (w : World) (hgw : Region.wanted o (yielded ops a.tmps) = true) (s : Operand)
    (ho : o.op = .makeSlice 22 s s) (n : Nat) (hs : a.eval s = .int .i64 n) (hn : n ≤ 1000000)
    (h : ∀ w', Has w' w.heap.size (.slice (some ⟨w.heap.size, 0, none⟩) n n) (upto (fun _ => 0) n) → Below w.heap.size w w' → wpList Tryd.prog ops Q rest (a.put o.dst (.slice (some ⟨w.heap.size, 0, none⟩) n n)) w') :
    wpList Tryd.prog ops Q (o :: rest) a w := by
  obtain ⟨i0, hi, hz0, hz1, hz2⟩ := info_parts info_int
  refine wpList_step fun K hK => ?_
  rw [if_pos hgw]
  obtain ⟨w', hrun, r1, r2⟩ := run_make_full (P := Tryd.prog) w w.heap.size 22 3 i0 (.int .i64 0) 1 Tryd.underlying22 hi hz0 hz1 .i64 .i64 n (by rw [hz2]; omega) (by unfold maxLen; omega) (Nat.le_refl _)
  unfold Oper.wp
  simp [execOp, ho, hs, hrun, Result.andThen]
  refine hK _ _ (h w' ?_ ((Below.refl _ _).grown r2 (Nat.le_refl _) (by intro k hk; cases hk)))
  rw [Nat.mul_one] at r1
  unfold Has
  rw [upto_zeros, List.map_replicate, List.length_replicate, ← toList_madeCells_one]
  exact r1

end Go.Proofs.YtjnmogmagngenaiDoor
