/-
  How loud the first numbers are; the fault of a row of pulses. No program here.
-/
import Derived.Test.YtjnmogmagngenadDoorPulseMath
namespace Go.Proofs.YtjnmogmagngenadDoor.Pls
open Go.Proofs.YtjnmogmagngenadDoor.Tre Go.Proofs.YtjnmogmagngenadDoor.Cnt
set_option linter.unusedVariables false

theorem loud_step {l : List Int} {k : Nat} (hk : k < l.length) : loud (l.take (k + 1)) = loud (l.take k) + l[k].natAbs := by
  rw [List.take_succ_eq_append_getElem hk, loud_append]
  simp [loud]
theorem loud_in {b : Nat} {l : List Int} (h : In (b : Int) l) : loud l ≤ b * l.length := by
  induction l with
  | nil => simp [loud]
  | cons x r ih =>
    have h1 := h x (by simp)
    have h2 := ih fun n hn => h n (by simp [hn])
    simp only [loud, List.length_cons, Nat.mul_add]
    omega

/-- The fault of a row: 0 where there is none. -/
def fault (l : List Int) : Int := if 6 < l.length then 4 else if l.any (out 8) = true then 1 else if 8 < loud l then 4 else 0
theorem fault_ok {l : List Int} (h : fault l = 0) : l.length ≤ 6 ∧ In 8 l ∧ loud l ≤ 8 := by
  unfold fault at h
  split at h
  · omega
  · split at h
    · omega
    · split at h
      · omega
      · rename_i h1 h2 h3
        exact ⟨by omega, in_of_any (by simpa using h2), by omega⟩
theorem fault_none {l : List Int} (h1 : l.length ≤ 6) (h2 : In 8 l) (h3 : loud l ≤ 8) : fault l = 0 := by
  unfold fault
  rw [if_neg (by omega), if_neg (by rw [any_of_in h2]; simp), if_neg (by omega)]
theorem loud_all {b : Int} {l : List Int} (h : (loud l : Int) ≤ b) : In b l := by
  intro n hn
  induction l with
  | nil => cases hn
  | cons x r ih =>
    simp only [loud] at h
    rcases List.mem_cons.1 hn with rfl | hn'
    · omega
    · exact ih (by omega) hn'
theorem is_right {n k : Nat} {rank : Int} {l : List Int} (hn : n ≤ 6) (hk : k ≤ 8) (h : Is n k rank l) : fault l = 0 := by
  obtain ⟨rfl, rfl, _⟩ := h
  exact fault_none hn (loud_all (by omega)) hk

end Go.Proofs.YtjnmogmagngenadDoor.Pls
