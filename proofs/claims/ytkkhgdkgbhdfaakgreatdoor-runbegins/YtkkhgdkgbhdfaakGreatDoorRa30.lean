/-
  Words for a range over a function: what a round keeps, rows below a mark, boxes beside slices of this call's own.
-/
import Derived.RangeFuncNested
import Derived.RangeFuncBound
import Derived.RangeFuncCalls
import Derived.RangeFuncLeaves
import Derived.Shelf.Abstract
import Derived.Shelf.RegionOpen
import Derived.WalkKit
import Derived.OwnWalkIn
import Derived.TacticsInMore
import Derived.LoopNIn
import Derived.LoopIn
import Derived.Test.YtkkhgdkgbhdfaakGreatDoorRa00
import Derived.Test.YtkkhgdkgbhdfaakGreatDoorRa05
namespace Go.Proofs.YtkkhgdkgbhdfaakGreatDoor.Itr
open Go.RowKit Go.Shelf
open Go.Proofs.YtkkhgdkgbhdfaakGreatDoor.Tre
set_option linter.unusedVariables false

/-- What a round must keep: all below n₀, and the box. -/
def Kp (n₀ Bs : Nat) (W W' : World) : Prop := Below n₀ W W' ∧ W'.heap[Bs]? = W.heap[Bs]?
theorem Kp.refl (n₀ Bs : Nat) (W : World) : Kp n₀ Bs W W := ⟨Below.refl _ _, rfl⟩
theorem Kp.trans {n₀ Bs : Nat} {A B C : World} (h : Kp n₀ Bs A B) (k : Kp n₀ Bs B C) : Kp n₀ Bs A C := ⟨h.1.trans k.1, k.2.trans h.2⟩
theorem Kp.cell {n₀ Bs : Nat} {A B : World} (h : Kp n₀ Bs A B) {v : Value} (hc : A.cell? ⟨Bs, 0, none⟩ = some v) : B.cell? ⟨Bs, 0, none⟩ = some v :=
  (World.cell?_of_block (a := ⟨Bs, 0, none⟩) h.2).trans hc

/-- A row that lies below n₀. -/
def RowB (n₀ : Nat) (w : World) (a : Option Addr) (l : List Int) : Prop :=
  l = [] ∨ ∃ b off, a = some ⟨b, off, none⟩ ∧ b < n₀ ∧ ∀ j, j < l.length → w.cell? ⟨b, off + j, none⟩ = some (.int .i64 (l.getD j 0))
theorem RowB.at {n₀ : Nat} {w : World} {a : Option Addr} {l : List Int} (h : RowB n₀ w a l) (hk : 0 < l.length) :
    ∃ b off, a = some ⟨b, off, none⟩ ∧ b < n₀ ∧ ∀ j, j < l.length → w.cell? ⟨b, off + j, none⟩ = some (.int .i64 (l.getD j 0)) := by
  rcases h with h | h
  · subst h; exact absurd hk (by simp)
  · exact h
theorem RowB.below {n₀ : Nat} {w w' : World} {a : Option Addr} {l : List Int} (h : RowB n₀ w a l) (hb : Below n₀ w w') : RowB n₀ w' a l := by
  rcases h with h | ⟨b, off, ha, hlt, hc⟩
  · exact Or.inl h
  · exact Or.inr ⟨b, off, ha, hlt, fun j hj => (hb.cell (p := ⟨b, off + j, none⟩) hlt).trans (hc j hj)⟩
theorem rowB_of {w : World} {a : Option Addr} {l : List Int} (h : Row w a l) : RowB w.heap.size w a l := h

theorem drew_by (w : World) : w.grownBy w.drew none := ⟨rfl, rfl, rfl, Nat.le_refl _, fun _ _ _ => rfl⟩
theorem drewN_by (w : World) (n : Nat) : w.grownBy (w.drewN n) none := ⟨rfl, rfl, rfl, Nat.le_refl _, fun _ _ _ => rfl⟩

theorem kp_b {w : World} {n₀ Bs : Nat} (hn : n₀ ≤ w.heap.size) (hs : Bs < w.heap.size) : ∀ (W : World) (l : Nat) (o o' : Obj), w.heap.size ≤ l → W.heap[l]? = some o → o.isCells = false → o.isWalk = false → Kp n₀ Bs W (W.putObj l o') :=
  fun W l o o' hl _ _ _ => ⟨⟨rfl, rfl, rfl, by simp, fun k hk => World.putObj_heap_other (by omega)⟩, World.putObj_heap_other (by omega)⟩

theorem boxed_keeps {X Y : World} {row : Option Nat} {B : Nat} {t : TypeId} {v : Value} (h : Boxed X B t v) (hg : X.grownBy Y row) (hrow : ∀ r, row = some r → ∃ o : Obj, X.heap[r]? = some o ∧ o.isCells = false) : Boxed Y B t v := by
  refine h.kept hg fun e' => ?_
  obtain ⟨o, ho, hc⟩ := hrow B e'.symm
  rw [show X.heap[B]? = _ from h] at ho; cases ho; cases hc
theorem row_keeps {e : TypeId} {X Y : World} {row : Option Nat} {n₀ n : Nat} {v : Value} {xs : List Value} (h : X.ownsRow n₀ e 1 v n xs) (hg : X.grownBy Y row) (hrow : ∀ r, row = some r → ∃ o : Obj, X.heap[r]? = some o ∧ o.isCells = false) : Y.ownsRow n₀ e 1 v n xs := by
  refine World.ownsRow.kept h hg ?_
  rcases h.2 with ⟨rfl, _⟩ | ⟨g, cap, cur, rfl, _, hgb, _⟩
  · exact .inl rfl
  · refine .inr fun e' => ?_
    obtain ⟨o, ho, hc⟩ := hrow g (by simpa [Value.ownBlock] using e'.symm)
    rw [hgb] at ho; cases ho; cases hc
theorem row_others {e : TypeId} {W w1 : World} {n₀ n : Nat} {v : Value} {xs : List Value} (h : W.ownsRow n₀ e 1 v n xs) (hg : W.grownBy w1 v.ownBlock) : KeepsOthers W w1 := by
  refine KeepsOthers.of_grownBy hg fun j o ej hj => ?_
  rcases h.2 with ⟨rfl, _⟩ | ⟨g, cap, cur, rfl, _, hgb, _⟩
  · simp [Value.ownBlock] at ej
  · obtain rfl : g = j := by simpa [Value.ownBlock] using ej
    rw [hgb] at hj; cases hj; rfl
theorem row_box {e : TypeId} {W : World} {n₀ n B : Nat} {t : TypeId} {v u : Value} {xs : List Value} (h : W.ownsRow n₀ e 1 v n xs) (hb : Boxed W B t u) (ht : t ≠ e) (u' : Value) : (W.setCell ⟨B, 0, none⟩ u').ownsRow n₀ e 1 v n xs :=
  World.ownsRow.kept h (grownBy_setCell' W B u') (Or.inr (hb.not_row ht h).symm)

end Go.Proofs.YtkkhgdkgbhdfaakGreatDoor.Itr
