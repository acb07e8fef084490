/-
  What keeps all blocks but one.
-/
import Derived.Test.YtjojeifoddonnakGreatDoorLd11
import Derived.RangeFuncBox
import Derived.Deep.WholeRow
import Derived.Laws.CopyOwn
namespace Go.Proofs.YtjojeifoddonnakGreatDoor.Hid18
open Go.RowKit
open Go.Proofs.YtjojeifoddonnakGreatDoor.Tre Go.Proofs.YtjojeifoddonnakGreatDoor.Frm
set_option linter.unusedVariables false

/-- All but one block is as it was. -/
def But (b : Nat) (W W' : World) : Prop := W.grownBy W' (some b)
theorem But.refl (b : Nat) (W : World) : But b W W := World.grownBy.refl _ _
theorem But.trans {b : Nat} {A C D : World} (h : But b A C) (k : But b C D) : But b A D :=
  ⟨k.os.trans h.os, k.tape.trans h.tape, k.output.trans h.output, Nat.le_trans h.size k.size, fun j hj hne => (k.block j (Nat.lt_of_lt_of_le hj h.size) hne).trans (h.block j hj hne)⟩
theorem But.of_below {b : Nat} {W W' : World} (h : Below W.heap.size W W') : But b W W' := ⟨h.os, h.tape, h.output, h.size, fun j hj _ => h.block j hj⟩
theorem But.set {b j : Nat} (W : World) (v : Value) : But b W (W.setCell ⟨b, j, none⟩ v) :=
  ⟨rfl, rfl, rfl, (KeepsWalks.setCell W _ v).size, fun k _ hk => Below.heap_setCell _ _ _ k (fun e => hk (by rw [e]))⟩
theorem But.cell {b c j : Nat} {W W' : World} (h : But b W W') (hc : c < W.heap.size) (hne : c ≠ b) : W'.cell? ⟨c, j, none⟩ = W.cell? ⟨c, j, none⟩ := World.cell?_of_block (a := ⟨c, j, none⟩) (h.block c hc (fun e => hne (Option.some.inj e)))
/-- A row that does not lie in that block. -/
def Away (b : Nat) (a : Option Addr) : Prop := ∀ p, a = some p → p.block ≠ b
theorem But.row {b : Nat} {W W' : World} {a : Option Addr} {l : List Int} (h : But b W W') (hr : Row W a l) (ha : Away b a) : Row W' a l := by
  rcases hr with e | ⟨c, off, e, hc, hcs⟩
  · exact Or.inl e
  · refine Or.inr ⟨c, off, e, Nat.lt_of_lt_of_le hc h.size, fun j hj => ?_⟩
    rw [h.cell hc (ha _ e)]
    exact hcs j hj
theorem But.below {b n : Nat} {W W' : World} (h : But b W W') (hb : n ≤ b) (hn : n ≤ W.heap.size) : Below n W W' := ⟨h.os, h.tape, h.output, h.size, fun j hj => h.block j (by omega) (fun e => by cases e; omega)⟩

end Go.Proofs.YtjojeifoddonnakGreatDoor.Hid18
