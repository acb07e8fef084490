/-
  slices.Reverse of bytes: by its contract.
-/
import Derived.Test.YtgffpljnhadigafDoorOwnByte
import Derived.Deep.QuietTactic
import Derived.BigQuiet
namespace Go.Proofs.YtgffpljnhadigafDoor
open Go.RowKit
open Go.Proofs.YtgffpljnhadigafDoor.Tre
set_option linter.unusedVariables false

theorem grown_trans {A B C : World} {row : Option Nat} (h : A.grownBy B row) (k : B.grownBy C row) : A.grownBy C row :=
  ⟨k.os.trans h.os, k.tape.trans h.tape, k.output.trans h.output, Nat.le_trans h.size k.size, fun j hj hne => (k.block j (Nat.lt_of_lt_of_le hj h.size) hne).trans (h.block j hj hne)⟩
theorem grown_drew (w : World) (n : Nat) (row : Option Nat) : w.grownBy (w.drewN n) row := ⟨rfl, rfl, rfl, Nat.le_refl _, fun _ _ _ => rfl⟩

/-- The first i and the last i are exchanged. -/
def rvs (l : List Int) (n i : Nat) : List Int := upto (fun t => if t < i ∨ n - i ≤ t then at0 l (n - 1 - t) else at0 l t) n
theorem rvs_at {l : List Int} {n i t : Nat} (h : t < n) : at0 (rvs l n i) t = if t < i ∨ n - i ≤ t then at0 l (n - 1 - t) else at0 l t := upto_at _ h
theorem rvs_length (l : List Int) (n i : Nat) : (rvs l n i).length = n := upto_length _ _
theorem rvs_zero {l : List Int} {n : Nat} (h : l.length = n) : rvs l n 0 = l := by
  refine eq_of_at (by rw [rvs_length, h]) fun t ht => ?_
  rw [rvs_length] at ht
  rw [rvs_at ht, if_neg (by omega)]
theorem rvs_all {l : List Int} {n i : Nat} (h : l.length = n) (hi : n ≤ 2 * i + 1) : rvs l n i = l.reverse := by
  refine eq_of_at (by rw [rvs_length, List.length_reverse, h]) fun t ht => ?_
  rw [rvs_length] at ht
  rw [rvs_at ht]
  have e : at0 l.reverse t = at0 l (n - 1 - t) := by
    unfold at0
    rw [List.getElem?_reverse (by omega), h]
  rw [e]
  split
  · rfl
  · have : n - 1 - t = t := by omega
    rw [this]
theorem rvs_step {l : List Int} {n i j : Nat} (hj : j + i + 1 = n) (h : i < j) : ((rvs l n i).set i (at0 l j)).set j (at0 l i) = rvs l n (i + 1) := by
  refine eq_of_at (by rw [List.length_set, List.length_set, rvs_length, rvs_length]) fun t ht => ?_
  rw [List.length_set, List.length_set, rvs_length] at ht
  have hs : ∀ (m : List Int) (k : Nat) (x : Int), k < m.length → at0 (m.set k x) t = if t = k then x else at0 m t := by
    intro m k x hk
    by_cases e : k = t
    · subst e
      rw [if_pos rfl]
      unfold at0
      rw [List.getElem?_set_self hk]; rfl
    · rw [if_neg (fun h => e h.symm)]
      unfold at0
      rw [List.getElem?_set_ne e]
  rw [hs _ _ _ (by rw [List.length_set, rvs_length]; omega), hs _ _ _ (by rw [rvs_length]; omega), rvs_at ht, rvs_at ht]
  by_cases e1 : t = j
  · rw [if_pos e1, if_pos (by omega)]
    have : n - 1 - t = i := by omega
    rw [this]
  · rw [if_neg e1]
    by_cases e2 : t = i
    · rw [if_pos e2, if_pos (by omega)]
      have : n - 1 - t = j := by omega
      rw [this]
    · rw [if_neg e2]
      by_cases e3 : t < i ∨ n - i ≤ t
      · rw [if_pos e3, if_pos (by omega)]
      · rw [if_neg e3, if_neg (by omega)]

set_option maxRecDepth 100000 in
set_option maxHeartbeats 4000000 in
theorem reverse (g n c base : Nat) (l : List Int) (w : World) (hn : n ≤ 1000) (hv : HasY w base (.slice (some ⟨g, 0, none⟩) n c) l) :
    Calls Tryd.prog 31 #[.slice (some ⟨g, 0, none⟩) n c] w fun e w' => e = .returned (.tuple #[]) ∧ HasY w' base (.slice (some ⟨g, 0, none⟩) n c) l.reverse ∧ w.grownBy w' (some g) := by
  have HL := hide hv.len.symm
  have h0 : HasY w base (.slice (some ⟨g, 0, none⟩) n c) (rvs l n 0) := by rw [rvs_zero (unhide HL)]; exact hv
  have hs1 : IntKind.i64.wrap ((n : Int) - 1) = (n : Int) - 1 := IntWalk.i64_in _ (by omega)
  clear hv
  go_enter Tryd.func31, Tryd.ntmps31
  go_wp2
  go_loopw [2, 3] (fun vi vj wr => ∃ i : Nat, vi = .int .i64 i ∧ vj = .int .i64 ((n : Int) - 1 - i) ∧ i ≤ n ∧ HasY wr base (.slice (some ⟨g, 0, none⟩) n c) (rvs l n i) ∧ w.grownBy wr (some g)) (fun vi _ _ => n - (intOf vi).toNat)
  case atStart => exact ⟨0, rfl, by first | rfl | go_num, Nat.zero_le _, h0, World.grownBy.refl _ _⟩
  case round =>
    obtain ⟨i, rfl, rfl, hi, hv, hg⟩ := hrel
    clear h0
    by_cases hlt : 2 * i + 1 < n
    · obtain ⟨j, hj⟩ : ∃ j, j + i + 1 = n := ⟨n - 1 - i, by omega⟩
      have hij : i < j := by omega
      have ej : (n : Int) - 1 - (i : Int) = (j : Int) := by omega
      have HST := hide (rvs_step (l := l) hj hij)
      have c1 := hv.get (j := i) (by rw [rvs_length]; omega)
      have c2 := hv.get (j := j) (by rw [rvs_length]; omega)
      rw [rvs_at (by omega), if_neg (by omega)] at c1 c2
      have f1 := hv.frozen i
      have f2 := hv.frozen j
      obtain ⟨X, hX⟩ : ∃ X, at0 l i = X := ⟨_, rfl⟩
      obtain ⟨Y, hY⟩ : ∃ Y, at0 l j = Y := ⟨_, rfl⟩
      rw [hX] at c1 HST
      rw [hY] at c2 HST
      have hd : decide ((i : Int) < (j : Int)) = true := by simpa using hij
      have hd' : decide (i < j) = true := by simpa using hij
      have hjn : j < n := by omega
      have hin : i < n := by omega
      have HJ : Hid ((j : Int) - 1 = (n : Int) - 1 - ((i + 1 : Nat) : Int)) := hide (by omega)
      have wj : IntKind.i64.wrap ((j : Int) - 1) = (j : Int) - 1 := IntWalk.i64_in _ (by omega)
      rw [ej]
      clear hX hY ej hj hs1
      go_wp2
      go_region
      have m1 := HasY.put (show HasY wr.drew _ _ _ from hv) i Y
      have m2 := m1.1.put j X
      rw [unhide HST] at m2
      have hg3 := grown_trans hg (grown_trans (grown_drew wr 1 (some g)) (grown_trans m1.2 m2.2))
      go_wp2
      go_roundw
      case rel => exact ⟨i + 1, by go_num, by rw [← unhide HJ], by omega, m2.1, hg3⟩
      case measure => simp [intOf]; omega
    · have hd : decide ((i : Int) < (n : Int) - 1 - (i : Int)) = false := by simp; omega
      have HR := hide (rvs_all (l := l) (i := i) (unhide HL) (by omega))
      rw [unhide HR] at hv
      clear HR
      go_wp2
      go_end0
      exact ⟨rfl, hv, hg⟩

end Go.Proofs.YtgffpljnhadigafDoor
