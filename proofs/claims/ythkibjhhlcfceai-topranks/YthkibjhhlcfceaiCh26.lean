/-
  More numbers of chapter 16, for the whole: what gains give, halves of gains. No program here.
-/
import Derived.Test.YthkibjhhlcfceaiCh25
namespace Go.Proofs.Ythkibjhhlcfceai.Frm
open Go.Proofs.Ythkibjhhlcfceai.Tre Go.Proofs.Ythkibjhhlcfceai.Bnd Go.Proofs.Ythkibjhhlcfceai.Pls Go.Proofs.Ythkibjhhlcfceai.Gai Go.Proofs.Ythkibjhhlcfceai.Shr
set_option linter.unusedVariables false

theorem gok_is {g : Int} (h : gok g = true) : 0 ≤ g ∧ g ≤ 53 ∧ vo g.toNat = true := by
  unfold gok at h
  simp only [Bool.and_eq_true, decide_eq_true_eq] at h
  exact ⟨h.1.1, h.1.2, h.2⟩
theorem gns_take (ps : List Prt) (j : Nat) : gns (ps.take j) = (gns ps).take j := by simp [gns]
/-- The first j, and one more. -/
theorem lds_step {ps : List Prt} {j : Nat} (h : j < ps.length) : lds (ps.take (j + 1)) = lds (ps.take j) ++ [(loud (prt ps j).2 : Int)] := by
  unfold lds
  rw [List.take_succ_eq_append_getElem h, List.map_append, prt_get h]
  rfl
theorem vals_step {ps : List Prt} {j : Nat} (h : j < ps.length) : vals (gns (ps.take (j + 1))) = vals (gns (ps.take j)) ++ [(vl (prt ps j).1.toNat : Int)] := by
  unfold vals gns
  rw [List.take_succ_eq_append_getElem h, List.map_append, List.map_append, prt_get h]
  rfl
/-- The pulses are just those that the gains give. -/
theorem Right.gives {s : List Int} {B : Int} {ps : List Prt} (h : Right s B ps) (h1 : bf s = 0) (h5 : 0 ≤ B) (h6 : B ≤ 400) : ofF s (vals (gns ps)) B = 0 ∧ share s (vals (gns ps)) B = lds ps := by
  refine ⟨ofF_zero.2 ⟨h1, by rw [vals_length, gns_length, h.len], fun i hi => ?_, h5, h6⟩, (h.costs h1 h5).1.symm⟩
  rw [vals_length, gns_length] at hi
  rw [vals_at _ (by rw [gns_length]; exact hi), gns_at hi]
  have h3 := (vo_is (gok_is (h.ok i hi).1).2.2).1
  omega
/-- Halves of gains. -/
def hvs (ps : List Prt) : List Int := ps.map fun p => p.1 / 2
theorem hvs_length (ps : List Prt) : (hvs ps).length = ps.length := by simp [hvs]
theorem hvs_step {ps : List Prt} {j : Nat} (h : j < ps.length) : hvs (ps.take (j + 1)) = hvs (ps.take j) ++ [(prt ps j).1 / 2] := by
  unfold hvs
  rw [List.take_succ_eq_append_getElem h, List.map_append, prt_get h]
  rfl
theorem hvs_in {ps : List Prt} (h : ∀ i, i < ps.length → gok (prt ps i).1 = true) : ∀ n ∈ hvs ps, 0 ≤ n ∧ n < 27 := by
  intro n hn
  obtain ⟨p, hp, rfl⟩ := List.mem_map.1 hn
  obtain ⟨i, hi, rfl⟩ := List.getElem_of_mem hp
  have h2 := gok_is (h i hi)
  rw [prt_get hi] at h2
  omega

end Go.Proofs.Ythkibjhhlcfceai.Frm
