/-
  From what the statement hands over to what the walks take: a slice of slices of integers that was read, as rows in memory; how many there are within the form's own reach.
-/
import Derived.Test.YtjojeifoddonnakGreatLc00
import Derived.Test.YtjojeifoddonnakGreatLc05
import Derived.Deep.Matrix
namespace Go.Proofs.YtjojeifoddonnakGreat
open Go.ChangeShapes Go.WideShapes Go.ChangeAt Go.RowKit
set_option linter.unusedVariables false

theorem cells_row : Tryz.prog.cellsOf 23 = 1 := by kernel_rfl
theorem bytes_row : Tryz.prog.bytesOf 23 = 24 := by kernel_rfl

theorem open_rows {H : Type} {enc : TypeId × Value → H} {W : World} {a : Option Addr} {len cap : Nat} {d : DataW H} {p : List MemPlace}
    (h : DataW.Trod enc Tryz.prog W 0 (fun _ => true) true 22 (.slice a len cap) d p)
    (hsz : ∀ elems spare, d = .slice elems spare → (elems.length + spare.length) * Tryz.prog.bytesOf 23 ≤ reachBytes) :
    ∃ ll : List (List Int), len = ll.length ∧ Rws W a ll ∧ (∀ l ∈ ll, ∀ n ∈ l, (Lit.int .i64 n).wf = true) ∧ ll.length * 24 ≤ 140737488351232 := by
  obtain ⟨fuel, hf⟩ := h
  rcases Go.Deep.open_int_rows Tryz.underlying22 Tryz.underlying23 Tryz.underlying3 cells_row cells_int hf with ⟨hcs, _⟩ | ⟨x, n, c, A, L, C, Z, hcs, _, hl, hm, hx, hr⟩
  · simp [Value.cells] at hcs
    obtain ⟨rfl, rfl, rfl⟩ := hcs
    exact ⟨[], rfl, Or.inl rfl, by simp, by simp⟩
  · simp [Value.cells] at hcs
    obtain ⟨rfl, rfl, rfl⟩ := hcs
    refine ⟨(List.range len).map fun r => (Z r).take (L r), by simp, ?_, ?_, ?_⟩
    · by_cases h0 : len = 0
      · exact Or.inl (by rw [h0]; rfl)
      · obtain ⟨b, off, spot⟩ := x
        have hc := (hr 0 (by omega)).1
        have hspot : spot = none := by simpa [Addr.add] using World.cell?_spot hc
        subst hspot
        refine Or.inr ⟨b, off, rfl, cell_lt (a := Addr.add ⟨b, off, none⟩ 0) hc, fun r hlt => ?_⟩
        have hlt' : r < len := by simpa using hlt
        obtain ⟨c1, c2, c3, c4, c5, c6, c7⟩ := hr r (by omega)
        have e : rowAt ((List.range len).map fun r => (Z r).take (L r)) r = (Z r).take (L r) := by simp [rowAt, hlt']
        have el : ((Z r).take (L r)).length = L r := by rw [List.length_take]; omega
        rw [e]
        refine ⟨A r, C r, ?_, c6, by rw [el]; exact c2, by simpa [maxLen] using c3, ?_⟩
        · rw [el, ← add_plain]; exact c1
        · by_cases h1 : L r = 0
          · exact Or.inl (by rw [h1]; rfl)
          · cases hA : A r with
            | none => have := c6 hA; omega
            | some a' =>
              obtain ⟨_, d2⟩ := c7 a' hA
              obtain ⟨b', off', spot'⟩ := a'
              have hc' := d2 0 (by omega)
              have hspot' : spot' = none := by simpa [Addr.add] using World.cell?_spot hc'
              subst hspot'
              refine Or.inr ⟨b', off', rfl, cell_lt (a := Addr.add ⟨b', off', none⟩ 0) hc', fun j hj => ?_⟩
              have hj' : j < L r := by omega
              have ej : ((Z r).take (L r)).getD j 0 = (Z r).getD j 0 := by simp [List.getD_eq_getElem?_getD, hj']
              rw [ej, ← add_plain]
              exact d2 j (by omega)
    · intro l hl' k hk
      obtain ⟨r, hr', rfl⟩ := List.mem_map.1 hl'
      exact (hr r (by have := List.mem_range.1 hr'; omega)).2.2.2.2.1 k (List.mem_of_mem_take hk)
    · have := hsz _ _ (congrArg Prod.fst hx)
      rw [bytes_row] at this
      simp only [List.length_map, List.length_range, reachBytes] at this ⊢
      omega

end Go.Proofs.YtjojeifoddonnakGreat
