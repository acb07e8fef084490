/-
  What keeps all blocks but one.
-/
import Derived.Test.YtephagojpnfhcajGreatDoorhp06
import Derived.RangeFuncBox
import Derived.Deep.WholeRow
import Derived.Laws.CopyOwn
import Derived.Test.YtephagojpnfhcajGreatDoorhp02
namespace Go.Proofs.YtephagojpnfhcajGreatDoor.Hid18
open Go.RowKit
open Go.Proofs.YtephagojpnfhcajGreatDoor.Tre Go.Proofs.YtephagojpnfhcajGreatDoor.Frm
set_option linter.unusedVariables false

/-- All but one block is as it was. -/
def But (b : Nat) (W W' : World) : Prop := W.grownBy W' (some b)
theorem But.refl (b : Nat) (W : World) : But b W W := World.grownBy.refl _ _
theorem But.trans {b : Nat} {A C D : World} (h : But b A C) (k : But b C D) : But b A D :=
  ⟨k.os.trans h.os, k.tape.trans h.tape, k.output.trans h.output, Nat.le_trans h.size k.size, fun j hj hne => (k.block j (Nat.lt_of_lt_of_le hj h.size) hne).trans (h.block j hj hne)⟩
theorem But.of_below {b : Nat} {W W' : World} (h : Below W.heap.size W W') : But b W W' := ⟨h.os, h.tape, h.output, h.size, fun j hj _ => h.block j hj⟩
theorem But.set {b j : Nat} (W : World) (v : Value) : But b W (W.setCell ⟨b, j, none⟩ v) :=
  ⟨rfl, rfl, rfl, (KeepsWalks.setCell W _ v).size, fun k _ hk => Below.heap_setCell _ _ _ k (fun e => hk (by rw [e]))⟩
theorem But.cell {b c j : Nat} {W W' : World} (h : But b W W') (hc : c < W.heap.size) (hne : c ≠ b) : W'.cell? ⟨c, j, none⟩ = W.cell? ⟨c, j, none⟩ := World.cell?_of_block (a := ⟨c, j, none⟩) (h.block c hc (fun e => hne (Option.some.inj e)))
/-- A row that does not lie in that block. -/
def Away (b : Nat) (a : Option Addr) : Prop := ∀ p, a = some p → p.block ≠ b
theorem But.row {b : Nat} {W W' : World} {a : Option Addr} {l : List Int} (h : But b W W') (hr : Row W a l) (ha : Away b a) : Row W' a l := by
  rcases hr with e | ⟨c, off, e, hc, hcs⟩
  · exact Or.inl e
  · refine Or.inr ⟨c, off, e, Nat.lt_of_lt_of_le hc h.size, fun j hj => ?_⟩
    rw [h.cell hc (ha _ e)]
    exact hcs j hj
theorem But.below {b n : Nat} {W W' : World} (h : But b W W') (hb : n ≤ b) (hn : n ≤ W.heap.size) : Below n W W' := ⟨h.os, h.tape, h.output, h.size, fun j hj => h.block j (by omega) (fun e => by cases e; omega)⟩

end Go.Proofs.YtephagojpnfhcajGreatDoor.Hid18

/-
  hornref2's Player in memory: one block of four cells.
-/
namespace Go.Proofs.YtephagojpnfhcajGreatDoor.Hid18
open Go.RowKit
open Go.Proofs.YtephagojpnfhcajGreatDoor.Tre Go.Proofs.YtephagojpnfhcajGreatDoor.Frm
set_option linter.unusedVariables false

/-- The block of a player: sizes, bits, what was played last, how many were lost. -/
def Ply (W : World) (b : Nat) (sv : Value) (B : Int) (lv : Value) (k : Int) : Prop := W.heap[b]? = some (.cells #[sv, .int .i64 B, lv, .int .i64 k] 49 (0, 0))
section
variable {W W' : World} {b : Nat} {sv lv : Value} {B k : Int}
theorem Ply.lt (h : Ply W b sv B lv k) : b < W.heap.size := (Array.getElem?_eq_some_iff.1 h).1
theorem Ply.c0 (h : Ply W b sv B lv k) : W.cell? ⟨b, 0, none⟩ = some sv := by simp [World.cell?, show W.heap[b]? = _ from h]
theorem Ply.c1 (h : Ply W b sv B lv k) : W.cell? ⟨b, 1, none⟩ = some (.int .i64 B) := by simp [World.cell?, show W.heap[b]? = _ from h]
theorem Ply.c2 (h : Ply W b sv B lv k) : W.cell? ⟨b, 2, none⟩ = some lv := by simp [World.cell?, show W.heap[b]? = _ from h]
theorem Ply.c3 (h : Ply W b sv B lv k) : W.cell? ⟨b, 3, none⟩ = some (.int .i64 k) := by simp [World.cell?, show W.heap[b]? = _ from h]
theorem Ply.fz (h : Ply W b sv B lv k) (j : Nat) : W.frozen? ⟨b, j, none⟩ = false := by simp [World.frozen?, show W.heap[b]? = _ from h]
theorem Ply.below {n : Nat} (h : Ply W b sv B lv k) (hb : Below n W W') (hn : b < n) : Ply W' b sv B lv k := (hb.block b hn).trans h
theorem Ply.other {b' j : Nat} (h : Ply W b sv B lv k) (hne : b' ≠ b) (v : Value) : Ply (W.setCell ⟨b', j, none⟩ v) b sv B lv k := by
  unfold Ply
  rw [Below.heap_setCell _ _ _ _ (fun e => hne e.symm)]
  exact h
theorem Ply.last (h : Ply W b sv B lv k) (v : Value) : Ply (W.setCell ⟨b, 2, none⟩ v) b sv B v k := by
  unfold Ply
  rw [setCell_eq_setRow W b 2 _ _ _ _ h, setRow_heap W b _ _ _ _ h]
  rfl
theorem Ply.lost (h : Ply W b sv B lv k) (x : Int) : Ply (W.setCell ⟨b, 3, none⟩ (.int .i64 x)) b sv B lv x := by
  unfold Ply
  rw [setCell_eq_setRow W b 3 _ _ _ _ h, setRow_heap W b _ _ _ _ h]
  rfl
end

end Go.Proofs.YtephagojpnfhcajGreatDoor.Hid18
