/-
  Package near: greatestFirst, and what of the library it asks (cmp.Compare, slices.SortStableFunc at a few numbers): by their contracts.
-/
import Derived.Test.YtjnmogmagngenadDoorMake
import Derived.Test.YtjnmogmagngenadDoorNearSort
import Derived.Test.YtjnmogmagngenadDoorMid
import Derived.Shelf.RegionOpen
namespace Go.Proofs.YtjnmogmagngenadDoor.Nea
open Go.RowKit
open Go.Proofs.YtjnmogmagngenadDoor.Tre Go.Proofs.YtjnmogmagngenadDoor.Lap Go.Proofs.YtjnmogmagngenadDoor.Pls Go.Proofs.YtjnmogmagngenadDoor.Mid
set_option linter.unusedVariables false

/-- cmp.Compare. -/
def cf (x y : Int) : Int := if x < y then -1 else if y < x then 1 else 0
theorem cf_sign (n : Int) : cf n 0 = n.sign := by
  unfold cf
  rcases Int.lt_trichotomy n 0 with h | h | h
  · rw [if_pos h, Int.sign_eq_neg_one_of_neg h]
  · subst h; rfl
  · rw [if_neg (by omega), if_pos h, Int.sign_eq_one_of_pos h]

theorem isNaN (x : Int) (w : World) : Calls Tryd.prog 58 #[.int .i64 x] w fun e w' => e = .returned (.bool false) ∧ w' = w := by
  have hx : (x == x) = true := by simp
  go_enter Tryd.func58, Tryd.ntmps58
  go_wp2
  go_ret
  exact ⟨by simp, rfl⟩

theorem compare (x y : Int) (w : World) : Calls Tryd.prog 44 #[.int .i64 x, .int .i64 y] w fun e w' => e = .returned (.int .i64 (cf x y)) ∧ w' = w := by
  unfold cf
  rcases Int.lt_trichotomy x y with h | h | h
  · rw [if_pos h]
    go_enter Tryd.func44, Tryd.ntmps44
    go_wp2_with fail
    refine (isNaN x w).mono ?_
    rintro e w' ⟨rfl, rfl⟩
    go_wp2_with fail
    refine (isNaN y _).mono ?_
    rintro e w' ⟨rfl, rfl⟩
    go_wp2
    go_ret
    exact ⟨rfl, rfl⟩
  · subst h
    have h1 : ¬ x < x := by omega
    rw [if_neg h1, if_neg h1]
    go_enter Tryd.func44, Tryd.ntmps44
    go_wp2_with fail
    refine (isNaN x w).mono ?_
    rintro e w' ⟨rfl, rfl⟩
    go_wp2_with fail
    refine (isNaN x _).mono ?_
    rintro e w' ⟨rfl, rfl⟩
    go_wp2
    go_ret
    exact ⟨rfl, rfl⟩
  · have h1 : ¬ x < y := by omega
    rw [if_neg h1, if_pos h]
    go_enter Tryd.func44, Tryd.ntmps44
    go_wp2_with fail
    refine (isNaN x w).mono ?_
    rintro e w' ⟨rfl, rfl⟩
    go_wp2_with fail
    refine (isNaN y _).mono ?_
    rintro e w' ⟨rfl, rfl⟩
    go_wp2
    go_ret
    exact ⟨rfl, rfl⟩

/-- The function that greatestFirst hands to the sort: its rests lie in a box. -/
def Boxed (W : World) (B : Nat) (r : Nat → Nat) (n : Nat) : Prop := ∃ g off c, W.cell? ⟨B, 0, none⟩ = some (.slice (some ⟨g, off, none⟩) n c) ∧ B < W.heap.size ∧ g < W.heap.size ∧ ∀ i, i < n → W.cell? ⟨g, off + i, none⟩ = some (.int .i64 (r i))
theorem Boxed.below {W w : World} {B : Nat} {r : Nat → Nat} {n : Nat} (h : Boxed W B r n) (hb : Below W.heap.size W w) : Boxed w B r n := by
  obtain ⟨g, off, c, h1, h2, h3, h4⟩ := h
  exact ⟨g, off, c, (hb.cell (p := ⟨B, 0, none⟩) h2).trans h1, Nat.lt_of_lt_of_le h2 hb.size, Nat.lt_of_lt_of_le h3 hb.size, fun i hi => (hb.cell (p := ⟨g, off + i, none⟩) h3).trans (h4 i hi)⟩

set_option maxHeartbeats 2000000 in
theorem order (x y : Nat) (B : Nat) (r : Nat → Nat) (n : Nat) (w : World) (hn : n ≤ 6) (hx : x < n) (hy : y < n) (hbx : Boxed w B r n) :
    Calls Tryd.prog 57 #[.int .i64 x, .int .i64 y, .pointer (some ⟨B, 0, none⟩)] w fun e w' => e = .returned (.int .i64 (cf (r y) (r x))) ∧ ∃ q, w' = w.drewN q := by
  obtain ⟨g, off, c, h1, h2, h3, h4⟩ := hbx
  have c1 := h4 x hx
  have c2 := h4 y hy
  obtain ⟨X, hX⟩ : ∃ X, r x = X := ⟨_, rfl⟩
  obtain ⟨Y, hY⟩ : ∃ Y, r y = Y := ⟨_, rfl⟩
  rw [hX] at c1 ⊢
  rw [hY] at c2 ⊢
  have hc := hide (compare (Y : Int) (X : Int))
  obtain ⟨C, hC⟩ : ∃ C, cf (Y : Int) (X : Int) = C := ⟨_, rfl⟩
  rw [hC] at hc ⊢
  clear h4 hX hY hC
  go_enter Tryd.func57, Tryd.ntmps57
  go_wp2
  go_quiet ((go_at_call 44; exact Calls.quiet_of_same (unhide hc _)))
  go_wp2
  go_ret
  exact ⟨rfl, _, rfl⟩

end Go.Proofs.YtjnmogmagngenadDoor.Nea
