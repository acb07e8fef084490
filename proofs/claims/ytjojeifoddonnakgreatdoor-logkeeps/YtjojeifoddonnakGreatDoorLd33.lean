/-
  slices.Clone of integers: by its contract.
-/
import Derived.Test.YtjojeifoddonnakGreatDoorLd08
import Derived.Lib.SliceRun
namespace Go.Proofs.YtjojeifoddonnakGreatDoor.Bnd
open Go.RowKit
open Go.Proofs.YtjojeifoddonnakGreatDoor.Tre
set_option linter.unusedVariables false

theorem not_nil (w : World) (a : Addr) (n c : Nat) : (binOp .eql 22 (.slice (some a) n c) (.slice none 0 0)).run Tryz.prog w = .ok (.bool false) w :=
  Lib.run_eql_slice_nil w 22 3 (some a) n c 0 0 Tryz.underlying22
/-- An empty slice that was just made. -/
theorem has_empty (w : World) (base : Nat) (hb : base ≤ w.heap.size) : Has (w.alloc (.cells #[] 3)) base (.slice (some ⟨w.heap.size, 0, none⟩) 0 0) [] :=
  ⟨rfl, .inr ⟨w.heap.size, 0, #[], rfl, hb, heap_alloc_new w _, Nat.le_refl _, Nat.zero_le _, rfl, rfl⟩⟩

theorem clone (b off cap : Nat) (n : Nat) (l : List Int) (w : World) (hn : Hid (n = l.length)) (hl : n ≤ 1000) (hr : Row w (some ⟨b, off, none⟩) l) :
    Calls Tryz.prog 17 #[.slice (some ⟨b, off, none⟩) n cap] w fun e w' => ∃ v, e = .returned v ∧ Has w' w.heap.size v l ∧ Below w.heap.size w w' := by
  have hb1 : Below w.heap.size w (w.alloc (.cells #[] 3)) := (Below.refl _ _).alloc (Nat.le_refl _) _
  have hnn := not_nil w ⟨b, off, none⟩ n cap
  have H0 := has_empty w w.heap.size (Nat.le_refl _)
  have hr1 := hr.below hb1
  go_enter Tryz.func17, Tryz.ntmps17
  go_wp2_with (at_builtin; refine wpList_app _ rfl _ _ rfl w.heap.size _ [] l (some ⟨b, off, none⟩) cap rfl H0 (congrArg (fun n => Value.slice (some ⟨b, off, none⟩) n cap) (unhide hn)) hr1 (by rw [← unhide hn]; simp; omega) (by simp) ?_; intro s1 w1 k1 g1 at1; rw [List.nil_append] at k1)
  go_ret
  exact ⟨_, rfl, k1, hb1.grown g1 (by simp) (fun k e => (H0.lt k e).1)⟩

end Go.Proofs.YtjojeifoddonnakGreatDoor.Bnd
