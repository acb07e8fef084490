/-
  What hornlaw1.TreeBack takes besides: sound.Check; lists all alike; the ways of its first half.
-/
import Derived.Test.YtcodgebchmhobabTreeInv
import Derived.Test.YtcodgebchmhobabInts
namespace Go.Proofs.Ytcodgebchmhobab.Tre
open Go.RowKit
set_option linter.unusedVariables false

theorem snd_ok (a : Option Addr) (cap : Nat) (l : List Int) (w : World) (hl : l.length ≤ 32) (hi : In 1000 l) (hr : Row w a l) :
    Calls Try.prog 9 #[.slice a l.length cap] w fun e w' => e = .returned .nilIface ∧ Below w.heap.size w w' := by
  have hb1 : Below w.heap.size w (w.alloc (.cells #[.int .i64 1000] 3)) := (Below.refl _ _).alloc (Nat.le_refl _) _
  have HA := hide (any_of_in hi)
  go_enter Try.func9, Try.ntmps9
  go_wp2_with fail
  refine (beyond 1000 w).mono ?_
  rintro e w1 ⟨rfl, rfl⟩
  go_wp2_with fail
  refine (containsFunc 1000 a cap l w.heap.size (w.alloc (.cells #[.int .i64 1000] 3)) (by omega) (by omega) (by omega) (hr.below hb1) (boxed_cell w 1000 3)).mono ?_
  rw [unhide HA]
  rintro e w1 ⟨rfl, rfl⟩
  go_wp2
  go_ret
  exact ⟨rfl, hb1⟩
theorem snd_no (a : Option Addr) (cap : Nat) (l : List Int) (w : World) (hl : l.length ≤ 32) (hi : Hid (l.any (out 1000) = true)) (hr : Row w a l) :
    Calls Try.prog 9 #[.slice a l.length cap] w fun e w' => e = .returned (.iface 35 (.int .i64 1)) ∧ Below w.heap.size w w' := by
  have hb1 : Below w.heap.size w (w.alloc (.cells #[.int .i64 1000] 3)) := (Below.refl _ _).alloc (Nat.le_refl _) _
  go_enter Try.func9, Try.ntmps9
  go_wp2_with fail
  refine (beyond 1000 w).mono ?_
  rintro e w1 ⟨rfl, rfl⟩
  go_wp2_with fail
  refine (containsFunc 1000 a cap l w.heap.size (w.alloc (.cells #[.int .i64 1000] 3)) (by omega) (by omega) (by omega) (hr.below hb1) (boxed_cell w 1000 3)).mono ?_
  rw [unhide hi]
  rintro e w1 ⟨rfl, rfl⟩
  go_wp2
  go_ret
  exact ⟨rfl, hb1⟩

/-- Of a list so many back: wrong ahead; wrong on the way; back, but none that may go forward; back, and forward it is what it was. -/
theorem ways (m : List Int) (k : Nat) : Hid (chk m k 2000 ≠ 0) ∨ (Hid (chk m k 2000 = 0) ∧ Hid (back k m = none)) ∨
    (∃ x, Hid (chk m k 2000 = 0) ∧ Hid (back k m = some x) ∧ x.length ≤ 32 ∧ Hid (x.any (out 1000) = true)) ∨
    (∃ x, Hid (chk m k 2000 = 0) ∧ Hid (back k m = some x) ∧ x.length ≤ 32 ∧ In 1000 x ∧ Hid (chk x k 1000 = 0) ∧ Hid (tree k x = m)) := by
  by_cases h : chk m k 2000 = 0
  · obtain ⟨z1, z2, z3, z4, z5⟩ := chk_zero h
    have z4' : 2 ^ k ∣ m.length := by simpa using z4
    cases hb : back k m with
    | none => exact Or.inr (Or.inl ⟨h, rfl⟩)
    | some x =>
      have hx := back_length k m x z4' hb
      cases ha : x.any (out 1000) with
      | true => exact Or.inr (Or.inr (Or.inl ⟨x, h, rfl, by omega, ha⟩))
      | false => exact Or.inr (Or.inr (Or.inr ⟨x, h, rfl, by omega, in_of_any ha, chk_of (by omega) z2 z3 (by rw [hx]; exact z4) (in_of_any ha), tree_back k m x z4' hb⟩))
  · exact Or.inl h

/-- The first j are all the first. -/
def al (l : List Int) (j : Nat) : Bool := decide (0 < l.length) && (l.take j).all fun x => decide (x = at0 l 0)
theorem al_one (l : List Int) : al l 1 = decide (0 < l.length) := by
  cases l with
  | nil => rfl
  | cons x r => simp [al, at0]
theorem al_step {l : List Int} {j : Nat} (hj : j < l.length) : al l (j + 1) = (al l j && decide (at0 l j = at0 l 0)) := by
  have e : at0 l j = l[j] := by simp [at0, hj]
  rw [e]
  unfold al
  rw [List.take_succ_eq_append_getElem hj, List.all_append]
  simp [Bool.and_assoc]
theorem al_alike {l : List Int} {j : Nat} (hj : l.length ≤ j) (h : al l j = true) : 0 < l.length ∧ l = List.replicate l.length (at0 l 0) := by
  unfold al at h
  rw [List.take_of_length_le hj] at h
  simp at h
  refine ⟨h.1, ?_⟩
  exact List.eq_replicate_iff.2 ⟨rfl, h.2⟩
/-- Of a list all alike: what its tree is. -/
theorem alike_at {l : List Int} {k i : Nat} (hd : 2 ^ k ∣ l.length) (h : l = List.replicate l.length (at0 l 0)) (hi : i < l.length) : at0 (tree k l) i = if i < l.length / 2 ^ k then at0 l 0 else 0 := by
  have e : tree k l = List.replicate (l.length / 2 ^ k) (at0 l 0) ++ List.replicate (l.length - l.length / 2 ^ k) 0 := by
    have := tree_alike k l.length (at0 l 0) hd
    rwa [← h] at this
  rw [e]
  by_cases hlt : i < l.length / 2 ^ k
  · rw [at0_left (by simpa using hlt), if_pos hlt]
    simp [at0, hlt]
  · rw [if_neg hlt]
    unfold at0
    rw [List.getElem?_append_right (by simp; omega)]
    simp [List.getElem?_replicate]
    split <;> rfl
theorem half_more (N j : Nat) : Int.tdiv ((N / 2 ^ j : Nat) : Int) 2 = ((N / 2 ^ (j + 1) : Nat) : Int) := by
  have e : N / 2 ^ (j + 1) = N / 2 ^ j / 2 := by rw [Nat.pow_succ, Nat.div_div_eq_div_mul]
  rw [e]; rfl

/-- A row's numbers, each by its place. -/
theorem row_at {w : World} {a : Option Addr} {l : List Int} (h : Row w a l) (h0 : 0 < l.length) : ∃ b off, a = some ⟨b, off, none⟩ ∧ ∀ j, j < l.length → w.cell? ⟨b, off + j, none⟩ = some (.int .i64 (at0 l j)) := by
  obtain ⟨b, off, e, _, hc⟩ := h.at h0
  exact ⟨b, off, e, fun j hj => (hc j hj).trans (by rw [List.getD_eq_getElem?_getD]; rfl)⟩

end Go.Proofs.Ytcodgebchmhobab.Tre
