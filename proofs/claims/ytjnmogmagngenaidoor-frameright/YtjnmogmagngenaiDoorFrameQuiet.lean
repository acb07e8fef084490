/-
  More numbers of chapter 16: what is silent stays so. No program here.
-/
import Derived.Test.YtjnmogmagngenaiDoorFrameBands
namespace Go.Proofs.YtjnmogmagngenaiDoor.Frm
open Go.Proofs.YtjnmogmagngenaiDoor.Tre Go.Proofs.YtjnmogmagngenaiDoor.Bnd Go.Proofs.YtjnmogmagngenaiDoor.Pls Go.Proofs.YtjnmogmagngenaiDoor.Gai Go.Proofs.YtjnmogmagngenaiDoor.Shr
set_option linter.unusedVariables false

theorem quiet_is {l s : List Int} {B : Int} {ps : List Prt} (h : encF l s B = 0) (hm : Made (cuts (Lap.lap l) s) s B ps) (hq : ∀ r, r < l.length → at0 l r = 0) :
    (∀ i, i < ps.length → (prt ps i).1 = 0) ∧ ∀ r, r < l.length → at0 (Lap.unlap (all ps)) r = 0 := by
  obtain ⟨h1, h2, h3, h4, h5, h6, h7⟩ := encF_zero.1 h
  have e : l = List.replicate (total s) 0 := by
    rw [← h2]
    refine eq_of_at (by rw [List.length_replicate]) fun i hi => ?_
    rw [hq i hi]
    simp [at0, hi]
  rw [e] at hm
  obtain ⟨_, k2, _, k4⟩ := silent_made h1 h3 h5 h6 hm
  refine ⟨fun i hi => (k2 i hi).1, fun r hr => ?_⟩
  rw [k4]
  have hr' : r < total s := by omega
  simp [at0, hr']
/-- All that is told has as many numbers as there were. -/
theorem Right.told {l s : List Int} {B : Int} {ps : List Prt} (h : Right s B ps) (h2 : l.length = total s) : (all ps).length = l.length := by rw [all_length, h.long, h2]
theorem Right.pre {s : List Int} {B : Int} {ps : List Prt} (h : Right s B ps) {i : Nat} (hi : i < ps.length) : Bnd.pre s (i + 1) = Bnd.pre s i + (prt ps i).2.length := by
  have := h.fit i hi
  rw [pre_succ]
  omega
theorem Right.inside {s : List Int} {B : Int} {ps : List Prt} (h : Right s B ps) {i : Nat} (hi : i < ps.length) : Bnd.pre s i + (prt ps i).2.length ≤ (all ps).length := by
  rw [← h.pre hi, all_length]
  have h1 := long_pre h.len h.fit (i + 1) (by omega)
  rw [← h1]
  have h3 : ((ps.map fun p => p.2.length)).sum = ((ps.map fun p => p.2.length).take (i + 1)).sum + ((ps.map fun p => p.2.length).drop (i + 1)).sum := by
    conv => lhs; rw [← List.take_append_drop (i + 1) (ps.map fun p => p.2.length)]
    rw [List.sum_append]
  have e1 : Frm.long (ps.take (i + 1)) = ((ps.map fun p => p.2.length).take (i + 1)).sum := by unfold Frm.long; rw [List.map_take]
  have e2 : Frm.long ps = (ps.map fun p => p.2.length).sum := rfl
  rw [e1, e2]
  omega

end Go.Proofs.YtjnmogmagngenaiDoor.Frm
