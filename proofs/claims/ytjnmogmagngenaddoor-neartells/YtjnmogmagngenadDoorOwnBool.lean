/-
  A slice of bools that this call has made itself.
-/
import Derived.Test.YtjnmogmagngenadDoorMake
namespace Go.Proofs.YtjnmogmagngenadDoor
open Go.RowKit
open Go.Proofs.YtjnmogmagngenadDoor.Tre
set_option linter.unusedVariables false

theorem info_bool : (Tryd.prog.info? 4).map (fun i => (i.zero, i.size, i.bytes)) = some (some (.bool false), 1, 1) := by kernel_rfl

/-- n bools of this call's own, as g says. -/
def HasB (w : World) (base : Nat) (v : Value) (n : Nat) (g : Nat → Bool) : Prop := w.ownsRow base 4 1 v n ((List.range n).map fun i => Value.bool (g i))

theorem HasB.kept {w w' : World} {base n : Nat} {v : Value} {g : Nat → Bool} {row : Option Nat} (h : HasB w base v n g) (hg : w.grownBy w' row) (hne : v.ownBlock = none ∨ v.ownBlock ≠ row) : HasB w' base v n g := World.ownsRow.kept h hg hne
theorem HasB.below {w w' : World} {base n : Nat} {v : Value} {g : Nat → Bool} (h : HasB w base v n g) (hb : Below w.heap.size w w') : HasB w' base v n g := by
  refine ⟨h.1, ?_⟩
  rcases h.2 with hn | ⟨k, cap, cur, rfl, hbg, hgg, rest⟩
  · exact .inl hn
  · exact .inr ⟨k, cap, cur, rfl, hbg, (hb.block k (Array.getElem?_eq_some_iff.1 hgg).1).trans hgg, rest⟩
theorem HasB.lt {w : World} {base n : Nat} {v : Value} {g : Nat → Bool} (h : HasB w base v n g) : ∀ k, v.ownBlock = some k → base ≤ k ∧ k < w.heap.size := World.ownsRow.lt h
theorem HasB.mono {w : World} {base base' n : Nat} {v : Value} {g : Nat → Bool} (h : HasB w base v n g) (hb : base' ≤ base) : HasB w base' v n g := by
  refine ⟨h.1, ?_⟩
  rcases h.2 with hn | ⟨k, cap, cur, rfl, hbg, rest⟩
  · exact .inl hn
  · exact .inr ⟨k, cap, cur, rfl, Nat.le_trans hb hbg, rest⟩
theorem HasB.get {w : World} {base G n c : Nat} {g : Nat → Bool} (h : HasB w base (.slice (some ⟨G, 0, none⟩) n c) n g) {j : Nat} (hj : j < n) : w.cell? ⟨G, j, none⟩ = some (.bool (g j)) := by
  have := World.ownsRow.cellAt h j (by omega)
  rw [this]
  simp [hj]
theorem HasB.frozen {w : World} {base G n c : Nat} {g : Nat → Bool} (h : HasB w base (.slice (some ⟨G, 0, none⟩) n c) n g) (j : Nat) : w.frozen? ⟨G, j, none⟩ = false := World.ownsRow.frozenAt h j
theorem HasB.put {w : World} {base G n c : Nat} {g : Nat → Bool} (h : HasB w base (.slice (some ⟨G, 0, none⟩) n c) n g) (j : Nat) (b : Bool) {g' : Nat → Bool} (hj : j < n) (hg : ∀ i, i < n → g' i = if i = j then b else g i) :
    HasB (w.setCell ⟨G, j, none⟩ (.bool b)) base (.slice (some ⟨G, 0, none⟩) n c) n g' ∧ w.grownBy (w.setCell ⟨G, j, none⟩ (.bool b)) (some G) := by
  have := World.ownsRow.stored h j (.bool b)
  refine ⟨?_, this.2⟩
  unfold HasB
  have e : ((List.range n).map fun i => Value.bool (g' i)) = ((List.range n).map fun i => Value.bool (g i)).set j (.bool b) := by
    apply List.ext_getElem?
    intro i
    rw [List.getElem?_set]
    by_cases hi : i < n
    · by_cases e : j = i
      · subst e
        simp [hi, hg j hi]
      · have e' : ¬ i = j := fun h => e h.symm
        rw [if_neg e]
        simp [hi, hg i hi, e']
    · by_cases e : j = i
      · omega
      · rw [if_neg e]
        simp [hi]
  rw [e]
  exact this.1

theorem wpList_mkb {ops : Array Oper} {rest : List Oper} {o : Oper} {a : Act} {Q : Exit → Act → World → Prop} (w : World) (hgd : o.guard = none) (s : Operand)
    (ho : o.op = .makeSlice 49 s s) (n : Nat) (hs : a.eval s = .int .i64 n) (hn : n ≤ 1000000)
    (h : ∀ w', HasB w' w.heap.size (.slice (some ⟨w.heap.size, 0, none⟩) n n) n (fun _ => false) → Below w.heap.size w w' → wpList Tryd.prog ops Q rest (a.put o.dst (.slice (some ⟨w.heap.size, 0, none⟩) n n)) w') :
    wpList Tryd.prog ops Q (o :: rest) a w := by
  obtain ⟨i0, hi, hz0, hz1, hz2⟩ := info_parts info_bool
  refine wpList_make_full w hgd s s 49 ho w.heap.size 4 i0 (.bool false) 1 Tryd.underlying49 hi hz0 hz1 _ _ _ _ n hs hs rfl rfl (by rw [hz2]; omega) (by unfold maxLen; omega) (Nat.le_refl _) ?_
  intro w2 hown hgrow
  refine h w2 ?_ ((Below.refl _ _).grown hgrow (Nat.le_refl _) (by intro k hk; cases hk))
  rw [Nat.mul_one] at hown
  unfold HasB
  rw [show ((List.range n).map fun _ => Value.bool false) = List.replicate n (.bool false) by simp [List.map_const'], ← toList_madeCells_one]
  exact hown

end Go.Proofs.YtjnmogmagngenadDoor
