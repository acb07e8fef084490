/-
  What horn.Encode, Decode and Most are to tell, for their contracts.
-/
import Derived.Test.YtgffpljnhadigafDoorStr
import Derived.Test.YtgffpljnhadigafDoorRowF
namespace Go.Proofs.YtgffpljnhadigafDoor.Hrn
open Go.RowKit
open Go.Proofs.YtgffpljnhadigafDoor.Tre Go.Proofs.YtgffpljnhadigafDoor.Scl
set_option linter.unusedVariables false

/-- What Decode tells: the row of these bytes, or that they are none. -/
def Tld (f bs : List Int) (n : Nat) (w : World) (e : Ending) (w' : World) : Prop :=
  ((∃ v l, e = .returned (.tuple #[v, .nilIface]) ∧ IsRow f bs n l ∧ Has w' w.heap.size v l) ∨ (e = .returned (.tuple #[.slice none 0 0, .iface 48 (.int .i64 2)]) ∧ ∀ l, ¬ IsRow f bs n l)) ∧ Below w.heap.size w w'
theorem Tld.row {f bs : List Int} {n : Nat} {w w' : World} {e : Ending} (hf : right f) {l : List Int} (h : Tld f bs n w e w') (hl : IsRow f bs n l) : ∃ v, e = .returned (.tuple #[v, .nilIface]) ∧ Has w' w.heap.size v l ∧ Below w.heap.size w w' := by
  obtain ⟨h1 | h1, hb⟩ := h
  · obtain ⟨v, m, he, hm, hh⟩ := h1
    rw [IsRow.one hf hl hm]
    exact ⟨v, he, hh, hb⟩
  · exact absurd hl (h1.2 l)
theorem Tld.none {f bs : List Int} {n : Nat} {w w' : World} {e : Ending} (h : Tld f bs n w e w') (hl : ∀ l, ¬ IsRow f bs n l) : e = .returned (.tuple #[.slice none 0 0, .iface 48 (.int .i64 2)]) ∧ Below w.heap.size w w' := by
  obtain ⟨h1 | h1, hb⟩ := h
  · obtain ⟨v, m, he, hm, hh⟩ := h1
    exact absurd hm (hl m)
  · exact ⟨h1.1, hb⟩

theorem fact_byts : Byts [1, 0, 0] := by intro b hb; simp at hb; omega
theorem fact_same : ((str [1, 0, 0]).toList == [1, 0, 0]) = true := by rw [str_toList]; rfl
theorem code_nil (f : List Int) : code f [] = [1, 0, 0] := rfl
theorem isRow_nil (f : List Int) : IsRow f [1, 0, 0] 0 [] := ⟨rfl, fun s hs => by simp at hs, rfl⟩
theorem isRow_code {f l : List Int} (hl : Signs f l) : IsRow f (code f l) l.length l := ⟨rfl, hl, rfl⟩

end Go.Proofs.YtgffpljnhadigafDoor.Hrn
