/-
  tank.outside, Check, May: by their contracts.
-/
import Derived.Test.YtonbdongafbcdahDoorTankBox
import Derived.Test.YtonbdongafbcdahDoorErrV
namespace Go.Proofs.YtonbdongafbcdahDoor.Tnk
open Go.RowKit
open Go.Proofs.YtonbdongafbcdahDoor.Tre Go.Proofs.YtonbdongafbcdahDoor.Ev
set_option linter.unusedVariables false

/-- A number is not from 0 to m. -/
def outs (n m : Int) : Bool := decide (n < 0) || decide (m < n)
theorem outs_no {n m : Int} : outs n m = false ↔ 0 ≤ n ∧ n ≤ m := by simp [outs]
theorem outs_yes {n m : Int} : outs n m = true ↔ n < 0 ∨ m < n := by simp [outs]

theorem outside (n m : Int) (w : World) : Calls Tryd.prog 30 #[.int .i64 n, .int .i64 m] w fun e w' => e = .returned (.bool (outs n m)) ∧ w' = w := by
  by_cases h1 : n < 0
  · have h3 : decide (n < 0) = true := by simpa using h1
    go_enter Tryd.func30, Tryd.ntmps30
    go_wp2
    go_ret
    exact ⟨by simp [outs, h3], rfl⟩
  · have h2 : decide (n < 0) = false := by simpa using h1
    go_enter Tryd.func30, Tryd.ntmps30
    go_wp2
    go_ret
    exact ⟨by simp [outs, h2], rfl⟩

set_option maxRecDepth 100000 in
set_option maxHeartbeats 4000000 in
theorem check (S E H : Int) (w : World) :
    Calls Tryd.prog 15 #[.agg #[.int .i64 S, .int .i64 E, .int .i64 H]] w fun e w' => e = .returned (errV (tankF S E H)) ∧ Below w.heap.size w w' := by
  have C1 := hide (fun W => outside S 1000000 W)
  have C2 := hide (fun W => outside E S W)
  have C3 := hide (fun W => outside H S W)
  have HN : Hid (outs S 1000000 = true ∨ outs E S = true ∨ outs H S = true → tankF S E H = 1) := hide (fun h => by
    unfold tankF
    rw [if_neg]
    intro hk
    obtain ⟨h1, h2, h3, h4, h5, h6⟩ := hk
    rw [outs_yes, outs_yes, outs_yes] at h
    omega)
  have HY : Hid (outs S 1000000 = false → outs E S = false → outs H S = false → tankF S E H = 0) := hide (fun h1 h2 h3 => by
    rw [outs_no] at h1 h2 h3
    exact tankF_zero.2 ⟨h1.1, h1.2, h2.1, h2.2, h3.1, h3.2⟩)
  obtain ⟨W0, hW0⟩ : ∃ W0, w.alloc (.cells #[.int .i64 S, .int .i64 E, .int .i64 H] 38) = W0 := ⟨_, rfl⟩
  have hb0 : Below w.heap.size w W0 := by rw [← hW0]; exact (Below.refl _ _).alloc (Nat.le_refl _) _
  have t0 : Tk W0 w.heap.size S E H := by rw [← hW0]; exact Tk.new w S E H
  have a0 := t0.c0
  have a1 := t0.c1
  have a2 := t0.c2
  obtain ⟨F, hF⟩ : ∃ F, tankF S E H = F := ⟨_, rfl⟩
  rw [hF] at HN HY ⊢
  clear hF t0
  cases h1 : outs S 1000000
  · rw [h1] at C1 HN HY
    clear h1
    cases h2 : outs E S
    · rw [h2] at C2 HN HY
      clear h2
      cases h3 : outs H S
      · rw [h3] at C3 HN HY
        clear h3
        have e0 := unhide HY rfl rfl rfl
        subst e0
        clear HN HY
        go_enter Tryd.func15, Tryd.ntmps15
        go_wp2_with fail
        refine (unhide C1 _).mono ?_
        rintro e w1 ⟨rfl, rfl⟩
        go_wp2_with fail
        refine (unhide C2 _).mono ?_
        rintro e w1 ⟨rfl, rfl⟩
        go_wp2_with fail
        refine (unhide C3 _).mono ?_
        rintro e w1 ⟨rfl, rfl⟩
        go_wp2
        go_ret
        exact ⟨rfl, hb0⟩
      · rw [h3] at C3 HN HY
        clear h3
        have e0 := unhide HN (by simp)
        subst e0
        clear HN HY
        go_enter Tryd.func15, Tryd.ntmps15
        go_wp2_with fail
        refine (unhide C1 _).mono ?_
        rintro e w1 ⟨rfl, rfl⟩
        go_wp2_with fail
        refine (unhide C2 _).mono ?_
        rintro e w1 ⟨rfl, rfl⟩
        go_wp2_with fail
        refine (unhide C3 _).mono ?_
        rintro e w1 ⟨rfl, rfl⟩
        go_wp2
        go_ret
        exact ⟨rfl, hb0⟩
    · rw [h2] at C2 HN HY
      clear h2
      have e0 := unhide HN (by simp)
      subst e0
      clear HN HY
      go_enter Tryd.func15, Tryd.ntmps15
      go_wp2_with fail
      refine (unhide C1 _).mono ?_
      rintro e w1 ⟨rfl, rfl⟩
      go_wp2_with fail
      refine (unhide C2 _).mono ?_
      rintro e w1 ⟨rfl, rfl⟩
      go_wp2
      go_ret
      exact ⟨rfl, hb0⟩
  · rw [h1] at C1 HN HY
    clear h1
    have e0 := unhide HN (by simp)
    subst e0
    clear HN HY
    go_enter Tryd.func15, Tryd.ntmps15
    go_wp2_with fail
    refine (unhide C1 _).mono ?_
    rintro e w1 ⟨rfl, rfl⟩
    go_wp2
    go_ret
    exact ⟨rfl, hb0⟩

set_option maxRecDepth 100000 in
set_option maxHeartbeats 4000000 in
theorem mayG (S E H : Int) (w : World) :
    Calls Tryd.prog 19 #[.agg #[.int .i64 S, .int .i64 E, .int .i64 H]] w fun e w' => e = .returned (.tuple #[.int .i64 (mayN S E H), errV (tankF S E H)]) ∧ Below w.heap.size w w' := by
  have CC := hide (fun W => check S E H W)
  obtain ⟨W0, hW0⟩ : ∃ W0, w.alloc (.cells #[.int .i64 S, .int .i64 E, .int .i64 H] 38) = W0 := ⟨_, rfl⟩
  have hb0 : Below w.heap.size w W0 := by rw [← hW0]; exact (Below.refl _ _).alloc (Nat.le_refl _) _
  have t0 : Tk W0 w.heap.size S E H := by rw [← hW0]; exact Tk.new w S E H
  have a0 := t0.c0
  have a1 := t0.c1
  have a2 := t0.c2
  by_cases hk : Ok S E H
  · have e0 : tankF S E H = 0 := tankF_zero.2 hk
    have e1 : mayN S E H = may S E H := by unfold mayN; rw [if_pos e0]
    rw [e0, errV_zero] at CC ⊢
    rw [e1]
    have HM : Hid (may S E H = if S < H + E then S else H + E) := hide rfl
    obtain ⟨M, hM⟩ : ∃ M, may S E H = M := ⟨_, rfl⟩
    rw [hM] at HM ⊢
    obtain ⟨k1, k2, k3, k4, k5, k6⟩ := hk
    obtain ⟨X, hX⟩ : ∃ X, H + E = X := ⟨_, rfl⟩
    have wx : IntKind.i64.wrap (H + E) = X := by rw [hX]; exact IntWalk.i64_in _ (by omega)
    rw [hX] at HM
    clear hX hM e0 e1 k3 k4 k5 k6 k1 k2
    by_cases hx : S < X
    · have em := unhide HM
      rw [if_pos hx] at em
      subst em
      have hx2 : ¬ X < M := by omega
      have hx3 : ¬ X ≤ M := by omega
      have d1 : decide (X < M) = false := by simpa using hx2
      have d2 : decide (M < X) = true := by simpa using hx
      clear HM
      go_enter Tryd.func19, Tryd.ntmps19
      go_wp2_with fail
      refine (unhide CC _).mono ?_
      rintro e w1 ⟨rfl, hb1⟩
      have t1 := t0.below hb1 t0.lt
      clear a0 a1 a2
      have a0 := t1.c0
      have a1 := t1.c1
      have a2 := t1.c2
      go_wp2
      go_ret2
      exact ⟨rfl, Below.chain hb0 hb1⟩
    · have em := unhide HM
      rw [if_neg hx] at em
      subst em
      have hx3 : M ≤ S := by omega
      have d2 : decide (S < M) = false := by simpa using hx
      clear HM
      go_enter Tryd.func19, Tryd.ntmps19
      go_wp2_with fail
      refine (unhide CC _).mono ?_
      rintro e w1 ⟨rfl, hb1⟩
      have t1 := t0.below hb1 t0.lt
      clear a0 a1 a2
      have a0 := t1.c0
      have a1 := t1.c1
      have a2 := t1.c2
      go_wp2
      go_ret2
      exact ⟨rfl, Below.chain hb0 hb1⟩
  · have e0 : tankF S E H = 1 := by unfold tankF; rw [if_neg hk]
    have e1 : mayN S E H = 0 := by unfold mayN; rw [if_neg (by omega)]
    rw [e0, errV_ne (by omega)] at CC ⊢
    rw [e1]
    clear hk e0 e1
    go_enter Tryd.func19, Tryd.ntmps19
    go_wp2_with fail
    refine (unhide CC _).mono ?_
    rintro e w1 ⟨rfl, hb1⟩
    go_wp2
    go_ret2
    exact ⟨rfl, Below.chain hb0 hb1⟩

end Go.Proofs.YtonbdongafbcdahDoor.Tnk
