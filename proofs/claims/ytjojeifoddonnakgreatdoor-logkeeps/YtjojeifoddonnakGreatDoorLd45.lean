/-
  From what the statement hands over to what the walks take: a slice of texts that was read, as texts in memory; how many there are within the form's own reach.
-/
import Derived.Test.YtjojeifoddonnakGreatDoorLd08
import Derived.Test.YtjojeifoddonnakGreatDoorLd14
import Derived.Deep.Strs
namespace Go.Proofs.YtjojeifoddonnakGreatDoor
open Go.ChangeShapes Go.WideShapes Go.ChangeAt Go.RowKit
set_option linter.unusedVariables false

theorem cells_text : Tryz.prog.cellsOf 9 = 1 := by kernel_rfl
theorem bytes_text : Tryz.prog.bytesOf 9 = 16 := by kernel_rfl

theorem open_texts {H : Type} {enc : TypeId × Value → H} {W : World} {a : Option Addr} {len cap : Nat} {d : DataW H} {p : List MemPlace}
    (h : DataW.Trod enc Tryz.prog W 0 (fun _ => true) true 23 (.slice a len cap) d p)
    (hsz : ∀ elems spare, d = .slice elems spare → (elems.length + spare.length) * Tryz.prog.bytesOf 9 ≤ reachBytes) :
    ∃ l : List ByteArray, len = l.length ∧ RowT W a l ∧ (∀ i, i < l.length → (l.getD i ⟨#[]⟩).size ≤ maxLen) ∧ l.length * 16 ≤ 140737488351232 := by
  obtain ⟨fuel, hf⟩ := h
  rcases Go.Deep.open_strs Tryz.underlying23 Tryz.underlying9 cells_text hf with ⟨hcs, _⟩ | ⟨x, n, c, m, S, hcs, _, hl, hm, hmm, hx, hc⟩
  · simp [Value.cells] at hcs
    obtain ⟨rfl, rfl, rfl⟩ := hcs
    exact ⟨[], rfl, Or.inl rfl, by simp, by simp⟩
  · simp [Value.cells] at hcs
    obtain ⟨rfl, rfl, rfl⟩ := hcs
    simp only [if_true] at hmm
    subst hmm
    have hget : ∀ i, i < len → ((List.range len).map S).getD i ⟨#[]⟩ = S i := fun i hi => by simp [List.getD_eq_getElem?_getD, hi]
    refine ⟨(List.range len).map S, by simp, ?_, fun i hi => ?_, ?_⟩
    · by_cases h0 : len = 0
      · exact Or.inl (by rw [h0]; rfl)
      · obtain ⟨b, off, spot⟩ := x
        have hc0 := (hc 0 (by omega)).1
        have hspot : spot = none := by simpa [Addr.add] using World.cell?_spot hc0
        subst hspot
        refine Or.inr ⟨b, off, rfl, cell_lt (a := Addr.add ⟨b, off, none⟩ 0) hc0, fun j hj => ?_⟩
        have hj' : j < len := by simpa using hj
        rw [hget j hj', ← add_plain]
        exact (hc j (by omega)).1
    · have hi' : i < len := by simpa using hi
      rw [hget i hi']
      exact (hc i (by omega)).2
    · have := hsz _ _ (congrArg Prod.fst hx)
      rw [bytes_text] at this
      simp only [List.length_map, List.length_range, reachBytes] at this ⊢
      omega

end Go.Proofs.YtjojeifoddonnakGreatDoor
