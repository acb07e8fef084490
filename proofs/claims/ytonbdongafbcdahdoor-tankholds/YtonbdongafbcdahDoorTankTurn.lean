/-
  tank.Turn: by its contract.
-/
import Derived.Test.YtonbdongafbcdahDoorTankMay
namespace Go.Proofs.YtonbdongafbcdahDoor.Tnk
open Go.RowKit
open Go.Proofs.YtonbdongafbcdahDoor.Tre Go.Proofs.YtonbdongafbcdahDoor.Ev
set_option linter.unusedVariables false

/-- What Turn answers. -/
def TurnSays (S E H b : Int) (w : World) (e : Ending) (w' : World) : Prop :=
  e = .returned (.tuple #[.agg #[.int .i64 (tS S E H b), .int .i64 (tE S E H b), .int .i64 (tH S E H b)], errV (turnF S E H b)]) ∧ Below w.heap.size w w'

set_option maxRecDepth 100000 in
set_option maxHeartbeats 4000000 in
theorem turn_says (S E H b : Int) (w : World) :
    Calls Tryd.prog 17 #[.agg #[.int .i64 S, .int .i64 E, .int .i64 H], .int .i64 b] w fun e w' => TurnSays S E H b w e w' := by
  have HP : Hid (∀ F, F ≠ 0 → turnF S E H b = F → ∀ w', Below w.heap.size w w' → TurnSays S E H b w (.returned (.tuple #[.agg #[.int .i64 0, .int .i64 0, .int .i64 0], .iface 53 (.int .i64 F)])) w') := hide (fun F hF h w' hb => by
    obtain ⟨e1, e2, e3⟩ := turn_no (S := S) (E := E) (H := H) (b := b) (by rw [h]; exact hF)
    exact ⟨by rw [e1, e2, e3, h, errV_ne hF], hb⟩)
  have CM := hide (fun W => mayG S E H W)
  have CO := hide (fun W => outside b 1000000 W)
  obtain ⟨W0, hW0⟩ : ∃ W0, ((w.alloc (.cells #[.int .i64 S, .int .i64 E, .int .i64 H] 38)).alloc (.cells #[.int .i64 0, .int .i64 0, .int .i64 0] 38)) = W0 := ⟨_, rfl⟩
  have hb0 : Below w.heap.size w W0 := by rw [← hW0]; exact ((Below.refl _ _).alloc (Nat.le_refl _) _).alloc (by simp) _
  have t0 : Tk W0 w.heap.size S E H := by rw [← hW0]; exact (Tk.new w S E H).alloc _
  have r0 : Tk W0 (w.heap.size + 1) 0 0 0 := by rw [← hW0]; simpa using Tk.new (w.alloc (.cells #[.int .i64 S, .int .i64 E, .int .i64 H] 38)) 0 0 0
  have a0 := t0.c0
  have a1 := t0.c1
  have a2 := t0.c2
  by_cases hk : Ok S E H
  · have e0 : tankF S E H = 0 := tankF_zero.2 hk
    have e1 : mayN S E H = may S E H := by unfold mayN; rw [if_pos e0]
    rw [e0, errV_zero, e1] at CM
    have hm := may_in hk
    have hk9 := hk.2.1
    have HF1 : Hid (outs b 1000000 = true → turnF S E H b = 1) := hide (fun h => by unfold turnF; rw [if_pos hk, if_pos (outs_yes.1 h)])
    have HF8 : Hid (outs b 1000000 = false → may S E H < b → turnF S E H b = 8) := hide (fun h h2 => by have := outs_no.1 h; unfold turnF; rw [if_pos hk, if_neg (by omega), if_pos h2])
    have HF0 : Hid (outs b 1000000 = false → ¬ may S E H < b → ∀ w', Below w.heap.size w w' → TurnSays S E H b w (.returned (.tuple #[.agg #[.int .i64 S, .int .i64 E, .int .i64 (may S E H - b)], .nilIface])) w') := hide (fun h h2 w' hb => by
      have h3 := outs_no.1 h
      have h0 : turnF S E H b = 0 := by unfold turnF; rw [if_pos hk, if_neg (by omega), if_neg h2]
      obtain ⟨e1, e2, e3⟩ := turn_is h0
      exact ⟨by rw [e1, e2, e3, h0, errV_zero], hb⟩)
    have HB : Hid (outs b 1000000 = false → 0 ≤ b ∧ b ≤ 1000000) := hide (fun h => outs_no.1 h)
    obtain ⟨M, hM⟩ : ∃ M, may S E H = M := ⟨_, rfl⟩
    rw [hM] at CM HF8 HF0 hm
    clear hk hM e0 e1
    go_enter Tryd.func17, Tryd.ntmps17
    go_wp2_with fail
    refine (unhide CM _).mono ?_
    rintro e w1 ⟨rfl, hb1⟩
    have t1 := t0.below hb1 t0.lt
    have r1 := r0.below hb1 r0.lt
    have hB1 := Below.chain hb0 hb1
    clear a0 a1 a2
    have a0 := t1.c0
    have a1 := t1.c1
    have a2 := t1.c2
    have q0 := r1.c0
    have q1 := r1.c1
    have q2 := r1.c2
    have f0 := r1.fz 0
    have f1 := r1.fz 1
    have f2 := r1.fz 2
    have g2 := t1.fz 2
    clear t0 r0 hb0 hb1 CM hW0
    go_wp2_with fail
    refine (unhide CO _).mono ?_
    rintro e w2 ⟨rfl, rfl⟩
    cases hO : outs b 1000000
    · have HF8' := hide (unhide HF8 hO)
      have HF0' := hide (unhide HF0 hO)
      have hbb := unhide HB hO
      clear HF1 HF8 HF0 HB hO CO
      by_cases h3 : M < b
      · have d3 : decide (M < b) = true := by simpa using h3
        have HF := hide (unhide HF8' h3)
        clear HF8' HF0'
        go_wp2
        refine bodyPost_ret (results_tank rfl _ _ _ _ _ _ rfl (r1.put 0 0 0)) rfl ?_
        exact unhide HP 8 (by omega) (unhide HF) _ (below_put hB1 (by omega) _ _ _)
      · have d3 : decide (M < b) = false := by simpa using h3
        have HF := hide (unhide HF0' (by omega))
        obtain ⟨X, hX⟩ : ∃ X, M - b = X := ⟨_, rfl⟩
        have wx : IntKind.i64.wrap (M - b) = X := by rw [hX]; exact IntWalk.i64_in _ (by omega)
        rw [hX] at HF
        have t3 := t1.has X
        have r3 := r1.other (B' := w.heap.size) (j := 2) (by omega) (.int .i64 X)
        have b0 := t3.c0
        have b1 := t3.c1
        have b2 := t3.c2
        have m0 := r3.c0
        have m1 := r3.c1
        have m2 := r3.c2
        have n0 := r3.fz 0
        have n1 := r3.fz 1
        have n2 := r3.fz 2
        have hB3 := hB1.setCell (p := ⟨w.heap.size, 2, none⟩) (Nat.le_refl _) (.int .i64 X)
        have HR := hide (r3.put S E X)
        have HB := hide (below_put hB3 (B := w.heap.size + 1) (by omega) (.int .i64 S) (.int .i64 E) (.int .i64 X))
        clear HF8' HF0' h3 hX hm hk9 hbb t1 r1 t3 r3 hB1 hB3
        go_wp2
        refine bodyPost_ret (results_tank rfl _ _ _ _ _ _ rfl (unhide HR)) rfl ?_
        exact unhide HF _ (unhide HB)
    · have HF := hide (unhide HF1 hO)
      clear HF1 HF8 HF0 HB hO CO
      go_wp2
      refine bodyPost_ret (results_tank rfl _ _ _ _ _ _ rfl (r1.put 0 0 0)) rfl ?_
      exact unhide HP 1 (by omega) (unhide HF) _ (below_put hB1 (by omega) _ _ _)
  · have e0 : tankF S E H = 1 := by unfold tankF; rw [if_neg hk]
    have e1 : mayN S E H = 0 := by unfold mayN; rw [if_neg (by omega)]
    rw [e0, errV_ne (by omega), e1] at CM
    have HF : Hid (turnF S E H b = 1) := hide (by unfold turnF; rw [if_neg hk])
    clear hk e0 e1
    go_enter Tryd.func17, Tryd.ntmps17
    go_wp2_with fail
    refine (unhide CM _).mono ?_
    rintro e w1 ⟨rfl, hb1⟩
    have r1 := r0.below hb1 r0.lt
    have hB1 := Below.chain hb0 hb1
    clear a0 a1 a2
    have q0 := r1.c0
    have q1 := r1.c1
    have q2 := r1.c2
    have f0 := r1.fz 0
    have f1 := r1.fz 1
    have f2 := r1.fz 2
    clear t0 r0 hb0 hb1 CM hW0
    go_wp2
    refine bodyPost_ret (results_tank rfl _ _ _ _ _ _ rfl (r1.put 0 0 0)) rfl ?_
    exact unhide HP 1 (by omega) (unhide HF) _ (below_put hB1 (by omega) _ _ _)

theorem turn (S E H b : Int) (w : World) :
    Calls Tryd.prog 17 #[.agg #[.int .i64 S, .int .i64 E, .int .i64 H], .int .i64 b] w fun e w' => e = .returned (.tuple #[.agg #[.int .i64 (tS S E H b), .int .i64 (tE S E H b), .int .i64 (tH S E H b)], errV (turnF S E H b)]) ∧ Below w.heap.size w w' := turn_says S E H b w

end Go.Proofs.YtonbdongafbcdahDoor.Tnk
