/-
  A tank in memory: one block of three numbers.
-/
import Derived.Test.YtjojeifoddonnakGreatLc00
import Derived.RangeFuncBox
import Derived.Deep.WholeRow
import Derived.Laws.CopyOwn
import Derived.Deep.QuietTactic
import Derived.BigQuiet
namespace Go.Proofs.YtjojeifoddonnakGreat.Tnk
open Go.RowKit
open Go.Proofs.YtjojeifoddonnakGreat.Tre
set_option linter.unusedVariables false

def Tk (W : World) (B : Nat) (S E H : Int) : Prop := W.heap[B]? = some (.cells #[.int .i64 S, .int .i64 E, .int .i64 H] 36 (0, 0))
section
variable {W W' : World} {B : Nat} {S E H : Int}
theorem Tk.lt (h : Tk W B S E H) : B < W.heap.size := (Array.getElem?_eq_some_iff.1 h).1
theorem Tk.c0 (h : Tk W B S E H) : W.cell? ⟨B, 0, none⟩ = some (.int .i64 S) := by simp [World.cell?, show W.heap[B]? = _ from h]
theorem Tk.c1 (h : Tk W B S E H) : W.cell? ⟨B, 1, none⟩ = some (.int .i64 E) := by simp [World.cell?, show W.heap[B]? = _ from h]
theorem Tk.c2 (h : Tk W B S E H) : W.cell? ⟨B, 2, none⟩ = some (.int .i64 H) := by simp [World.cell?, show W.heap[B]? = _ from h]
theorem Tk.fz (h : Tk W B S E H) (j : Nat) : W.frozen? ⟨B, j, none⟩ = false := by simp [World.frozen?, show W.heap[B]? = _ from h]
theorem Tk.new (W : World) (S E H : Int) : Tk (W.alloc (.cells #[.int .i64 S, .int .i64 E, .int .i64 H] 36)) W.heap.size S E H := World.alloc_heap_new W _
theorem Tk.kept {row : Option Nat} (h : Tk W B S E H) (hg : W.grownBy W' row) (hne : some B ≠ row) : Tk W' B S E H := (hg.block B h.lt hne).trans h
theorem Tk.alloc (h : Tk W B S E H) (o : Obj) : Tk (W.alloc o) B S E H := h.kept (World.grownBy_alloc W o none) (by simp)
theorem Tk.below {n : Nat} (h : Tk W B S E H) (hb : Below n W W') (hn : B < n) : Tk W' B S E H := (hb.block B hn).trans h
theorem Tk.other {B' j : Nat} (h : Tk W B S E H) (hne : B' ≠ B) (v : Value) : Tk (W.setCell ⟨B', j, none⟩ v) B S E H := by
  unfold Tk
  rw [Below.heap_setCell _ _ _ _ (fun e => hne e.symm)]
  exact h
theorem Tk.has (h : Tk W B S E H) (x : Int) : Tk (W.setCell ⟨B, 2, none⟩ (.int .i64 x)) B S E x := by
  unfold Tk
  rw [setCell_eq_setRow W B 2 _ _ _ _ h, setRow_heap W B _ _ _ _ h]
  rfl
theorem Tk.each (h : Tk W B S E H) (x : Int) : Tk (W.setCell ⟨B, 1, none⟩ (.int .i64 x)) B S x H := by
  unfold Tk
  rw [setCell_eq_setRow W B 1 _ _ _ _ h, setRow_heap W B _ _ _ _ h]
  rfl
theorem Tk.size (h : Tk W B S E H) (x : Int) : Tk (W.setCell ⟨B, 0, none⟩ (.int .i64 x)) B x E H := by
  unfold Tk
  rw [setCell_eq_setRow W B 0 _ _ _ _ h, setRow_heap W B _ _ _ _ h]
  rfl
theorem Tk.drew (h : Tk W B S E H) (n : Nat) : Tk (W.drewN n) B S E H := h
end

theorem info_tank : (Tryz.prog.info? 36).map (·.size) = some 3 := by kernel_rfl
theorem load_tank {W : World} {B : Nat} {S E H : Int} (h : Tk W B S E H) : (loadVar 36 ⟨B, 0, none⟩).run Tryz.prog W = .ok (.agg #[.int .i64 S, .int .i64 E, .int .i64 H]) W :=
  run_loadVar_row W B 36 36 #[.int .i64 S, .int .i64 E, .int .i64 H] (0, 0) _ h Tryz.underlying36 rfl info_tank
/-- What a function answers that has a tank in a box, and another thing. -/
theorem results_tank {fn : Func} {p u : Tmp} (h : fn.results = #[.cell p 36, .tmp u]) (tmps : Array Value) (w : World) (B : Nat) (S E H : Int) (hp : tmps.getD p undef = .pointer (some ⟨B, 0, none⟩)) (hk : Tk w B S E H) :
    (results fn tmps).run Tryz.prog w = .ok (.tuple #[.agg #[.int .i64 S, .int .i64 E, .int .i64 H], tmps.getD u undef]) w := by
  have hp' : tmps[p]?.getD undef = .pointer (some ⟨B, 0, none⟩) := by simpa using hp
  simp [results, h, hp', asAddr, load_tank hk]
/-- All three are stored. -/
theorem Tk.put {W : World} {B : Nat} {S E H : Int} (h : Tk W B S E H) (x y z : Int) : Tk (((W.setCell ⟨B, 0, none⟩ (.int .i64 x)).setCell ⟨B, 1, none⟩ (.int .i64 y)).setCell ⟨B, 2, none⟩ (.int .i64 z)) B x y z := ((h.size x).each y).has z
theorem below_put {n : Nat} {w W : World} (h : Below n w W) {B : Nat} (hB : n ≤ B) (u v x : Value) : Below n w (((W.setCell ⟨B, 0, none⟩ u).setCell ⟨B, 1, none⟩ v).setCell ⟨B, 2, none⟩ x) :=
  ((h.setCell (p := ⟨B, 0, none⟩) hB u).setCell (p := ⟨B, 1, none⟩) hB v).setCell (p := ⟨B, 2, none⟩) hB x

theorem Tk.aside {W : World} {B B' : Nat} {S E H : Int} (h : Tk W B S E H) (hne : B' ≠ B) (u v x : Value) : Tk (((W.setCell ⟨B', 0, none⟩ u).setCell ⟨B', 1, none⟩ v).setCell ⟨B', 2, none⟩ x) B S E H := ((h.other hne u).other hne v).other hne x

end Go.Proofs.YtjojeifoddonnakGreat.Tnk
