/-
  From what the statement hands over to what the walks take: parts of a frame.
-/
import Derived.Test.YthkibjhhlcfceajGreatDoorBa09
import Derived.Test.YthkibjhhlcfceajGreatDoorBa45
import Derived.Deep.SlicePairs
namespace Go.Proofs.YthkibjhhlcfceajGreatDoor.Frm
open Go.ChangeShapes Go.WideShapes Go.ChangeAt Go.RowKit
open Go.Proofs.YthkibjhhlcfceajGreatDoor.Tre
set_option linter.unusedVariables false

theorem cells_part : Tryz.prog.cellsOf 29 = 2 := by kernel_rfl
theorem bytes_part : Tryz.prog.bytesOf 29 = 32 := by kernel_rfl
theorem cells_pulses : Tryz.prog.cellsOf 22 = 1 := by kernel_rfl

/-- A slice of integers that was read, in a cell. -/
theorem open_cell {H : Type} {enc : TypeId × Value → H} {W : World} {V : Value} {d : DataW H} {p : List MemPlace} {n : Nat} (h : DataW.trod enc Tryz.prog W 0 (fun _ => true) true n 22 [V] = some (d, p)) :
    ∃ l : List Int, Sli W V l ∧ (∀ x ∈ l, (Lit.int .i64 x).wf = true) ∧ ((∀ x ∈ DataW.weights Tryz.prog 22 d, x ≤ reachBytes) → l.length ≤ 17592186044416) := by
  rcases open_ints Tryz.underlying22 Tryz.underlying3 cells_int h with ⟨hcs, _⟩ | ⟨x, len, c, zs, hcs, _, hl, hm, hz, hx, hcell, hwz⟩
  · simp at hcs
    subst hcs
    exact ⟨[], ⟨none, 0, rfl, fun _ => rfl, Nat.le_refl _, by omega, Or.inl rfl⟩, by simp, fun _ => by simp⟩
  · simp at hcs
    subst hcs
    simp only [if_true] at hz
    have hlen : (zs.take len).length = len := by rw [List.length_take]; omega
    refine ⟨zs.take len, ⟨some x, c, by rw [hlen], (fun e => by cases e), by rw [hlen]; exact hl, by simpa [maxLen] using hm, ?_⟩, fun n hn => hwz n (List.mem_of_mem_take hn), fun hw => ?_⟩
    · by_cases h0 : len = 0
      · exact Or.inl (by rw [h0]; rfl)
      · obtain ⟨b, off, spot⟩ := x
        have hc := hcell 0 (by omega)
        have hspot : spot = none := by simpa [Addr.add] using World.cell?_spot hc
        subst hspot
        refine Or.inr ⟨b, off, rfl, cell_lt (a := Addr.add ⟨b, off, none⟩ 0) hc, fun j hj => ?_⟩
        have hj' : j < len := by omega
        have e : (zs.take len).getD j 0 = zs.getD j 0 := by simp [List.getD_eq_getElem?_getD, hj']
        rw [e, ← add_plain]
        exact hcell j (by omega)
    · have hd := congrArg Prod.fst hx
      simp only at hd
      rw [hd] at hw
      have := hw (((lits .i64 (zs.take len)).length + (lits .i64 (zs.drop len)).length) * Tryz.prog.bytesOf 3) (by rw [DataW.weights, Tryz.underlying22]; exact List.mem_cons_self)
      rw [bytes_int] at this
      simp only [lits, List.length_map, List.length_take, List.length_drop, reachBytes] at this
      rw [hlen]
      omega

theorem weights_part {H : Type} {D0 D1 : DataW H} {elems spare : List (DataW H)} {x : Nat} (h : .agg [D0, D1] ∈ elems) (hx : x ∈ DataW.weights Tryz.prog 22 D1) : x ∈ DataW.weights Tryz.prog 23 (.slice elems spare) := by
  have key : ∀ (es : List (DataW H)), .agg [D0, D1] ∈ es → x ∈ DataW.weightsAll Tryz.prog 29 es := by
    intro es
    induction es with
    | nil => intro h; cases h
    | cons d es ih =>
      intro h
      rw [DataW.weightsAll]
      rcases List.mem_cons.1 h with rfl | h
      · refine List.mem_append_left _ ?_
        rw [DataW.weights, Tryz.underlying29]
        simp only [List.map_cons, List.map_nil, DataW.weightsEach, List.append_nil]
        exact List.mem_append_right _ hx
      · exact List.mem_append_right _ (ih h)
  rw [DataW.weights, Tryz.underlying23]
  exact List.mem_cons_of_mem _ (List.mem_append_left _ (key _ h))

theorem open_parts {H : Type} {enc : TypeId × Value → H} {W : World} {a : Option Addr} {len cap : Nat} {d : DataW H} {p : List MemPlace}
    (h : DataW.Trod enc Tryz.prog W 0 (fun _ => true) true 23 (.slice a len cap) d p) (hw : ∀ x ∈ DataW.weights Tryz.prog 23 d, x ≤ reachBytes) :
    ∃ ps : List Prt, len = ps.length ∧ Pts W a ps ∧ ps.length * 32 ≤ 140737488351232 ∧ (∀ i, i < ps.length → (prt ps i).2.length ≤ 17592186044416) := by
  obtain ⟨fuel, hf⟩ := h
  rcases Go.Deep.open_slice_pairs Tryz.underlying23 Tryz.underlying29 cells_part rfl rfl cells_int cells_pulses hf with ⟨hcs, _⟩ | ⟨x, n, c, m, f, V0, V1, D0, D1, P0, P1, hcs, _, hl, hm, hmm, hx, hr⟩
  · simp [Value.cells] at hcs
    obtain ⟨rfl, rfl, rfl⟩ := hcs
    exact ⟨[], rfl, Or.inl rfl, by simp, fun i hi => by simp at hi⟩
  · simp [Value.cells] at hcs
    obtain ⟨rfl, rfl, rfl⟩ := hcs
    simp only [if_true] at hmm
    have hd := congrArg Prod.fst hx
    simp only at hd
    obtain ⟨G, hG⟩ := Go.Deep.choose_lt (α := Int) (n := m) (p := fun i g => V0 i = .int .i64 g) (fun i hi => by
      obtain ⟨g, hg, _⟩ := DataW.trod_int Tryz.underlying3 (hr i hi).2.2.1
      exact ⟨g, by simpa using hg⟩)
    obtain ⟨L, hL⟩ := Go.Deep.choose_lt (α := List Int) (n := m) (p := fun i l => Sli W (V1 i) l ∧ ((∀ x ∈ DataW.weights Tryz.prog 22 (D1 i), x ≤ reachBytes) → l.length ≤ 17592186044416)) (fun i hi => by
      obtain ⟨l, h1, _, h3⟩ := open_cell (hr i hi).2.2.2
      exact ⟨l, h1, h3⟩)
    have hp : ∀ i, i < len → prt ((List.range len).map fun i => (G i, L i)) i = (G i, L i) := fun i hi => by simp [prt, hi]
    refine ⟨(List.range len).map fun i => (G i, L i), by simp, ?_, ?_, ?_⟩
    · by_cases h0 : len = 0
      · exact Or.inl (by rw [h0]; rfl)
      · obtain ⟨b, off, spot⟩ := x
        have hc := (hr 0 (by omega)).1
        have hspot : spot = none := by simpa [Addr.add] using World.cell?_spot hc
        subst hspot
        refine Or.inr ⟨b, off, rfl, cell_lt (a := Addr.add ⟨b, off, none⟩ (0 * 2)) hc, fun r hlt => ?_⟩
        have hlt' : r < len := by simpa using hlt
        obtain ⟨c1, c2, _, _⟩ := hr r (by omega)
        rw [hp r hlt']
        rw [add_plain] at c1 c2
        rw [hG r (by omega)] at c1
        refine ⟨c1, cel_of ?_ (hL r (by omega)).1⟩
        rw [Nat.add_assoc]
        exact c2
    · have h1 := hw _ (by rw [hd, DataW.weights, Tryz.underlying23]; exact List.mem_cons_self)
      rw [bytes_part] at h1
      simp only [List.length_map, List.length_range, reachBytes] at h1 ⊢
      omega
    · intro i hi
      have hi' : i < len := by simpa using hi
      rw [hp i hi']
      refine (hL i (by omega)).2 fun y hy => hw y ?_
      rw [hd]
      exact weights_part (D0 := D0 i) (List.mem_map.2 ⟨i, List.mem_range.2 hi', rfl⟩) hy

end Go.Proofs.YthkibjhhlcfceajGreatDoor.Frm
