/-
  tank.Run: by its contract.
-/
import Derived.Test.YtonbdongafbcdahDoorTankTurn
import Derived.Test.YtonbdongafbcdahDoorScaleBase
namespace Go.Proofs.YtonbdongafbcdahDoor.Tnk
open Go.RowKit
open Go.Proofs.YtonbdongafbcdahDoor.Tre Go.Proofs.YtonbdongafbcdahDoor.Ev
set_option linter.unusedVariables false

/-- What Run answers. -/
def RunSays (S E H : Int) (l : List Int) (w : World) (e : Ending) (w' : World) : Prop :=
  e = .returned (.tuple #[.int .i64 (lastN S E H l), errV (runF S E H l)]) ∧ Below w.heap.size w w'

set_option maxRecDepth 100000 in
set_option maxHeartbeats 8000000 in
theorem run_says (S E H : Int) (a : Option Addr) (cap : Nat) (l : List Int) (w : World) (hr : Row w a l) (zl : l.length ≤ 9223372036854775807) :
    Calls Tryd.prog 20 #[.agg #[.int .i64 S, .int .i64 E, .int .i64 H], .slice a l.length cap] w fun e w' => RunSays S E H l w e w' := by
  have HP : Hid (∀ F, F ≠ 0 → runF S E H l = F → ∀ w', Below w.heap.size w w' → RunSays S E H l w (.returned (.tuple #[.int .i64 0, .iface 53 (.int .i64 F)])) w') := hide (fun F hF h w' hb => by
    have e1 : lastN S E H l = 0 := by unfold lastN; rw [h, if_neg hF]
    exact ⟨by rw [e1, h, errV_ne hF], hb⟩)
  have CC := hide (fun W => check S E H W)
  obtain ⟨W0, hW0⟩ : ∃ W0, w.alloc (.cells #[.int .i64 S, .int .i64 E, .int .i64 H] 38) = W0 := ⟨_, rfl⟩
  have hb0 : Below w.heap.size w W0 := by rw [← hW0]; exact (Below.refl _ _).alloc (Nat.le_refl _) _
  have t0 : Tk W0 w.heap.size S E H := by rw [← hW0]; exact Tk.new w S E H
  have a0 := t0.c0
  have a1 := t0.c1
  have a2 := t0.c2
  have HE4 : Hid (60 < l.length → runF S E H l = 4) := hide (fun h => by unfold runF; rw [if_pos h])
  have HE1 : Hid (¬ 60 < l.length → ¬ Ok S E H → runF S E H l = 1) := hide (fun h h2 => by unfold runF; rw [if_neg h, if_neg h2])
  have HE0 : Hid (¬ 60 < l.length → Ok S E H → runF S E H l = (rn S E H l).1) := hide (fun h h2 => by unfold runF; rw [if_neg h, if_pos h2])
  have HLN : Hid (∀ Z, runF S E H l = 0 → (rn S E H l).2 = Z → ∀ w', Below w.heap.size w w' → RunSays S E H l w (.returned (.tuple #[.int .i64 Z, .nilIface])) w') := hide (fun Z h h2 w' hb => by
    have e1 : lastN S E H l = Z := by unfold lastN; rw [if_pos h, h2]
    exact ⟨by rw [e1, h, errV_zero], hb⟩)
  obtain ⟨N, hN⟩ : ∃ N, l.length = N := ⟨_, rfl⟩
  have HN := hide hN
  rw [hN] at HE4 HE1 HE0 zl ⊢
  clear hN
  by_cases h60 : 60 < N
  · have HF := hide (unhide HE4 h60)
    have d1 : decide ((60 : Int) < (N : Int)) = true := by simp; omega
    clear HE4 HE1 HE0 HLN CC
    go_enter Tryd.func20, Tryd.ntmps20
    go_wp2
    go_ret2
    exact unhide HP 4 (by omega) (unhide HF) _ hb0
  · have d1 : decide ((60 : Int) < (N : Int)) = false := by simp; omega
    by_cases hk : Ok S E H
    · have HF := hide (unhide HE0 h60 hk)
      have HK := hide hk
      have e0 : tankF S E H = 0 := tankF_zero.2 hk
      rw [e0, errV_zero] at CC
      clear HE4 HE1 HE0 hk e0
      go_enter Tryd.func20, Tryd.ntmps20
      go_wp2_with fail
      refine (unhide CC _).mono ?_
      rintro e w1 ⟨rfl, hb1⟩
      have t1 := t0.below hb1 t0.lt
      have hB1 := Below.chain hb0 hb1
      clear a0 a1 a2 t0 hb0 hb1 CC hW0
      go_wp2
      go_loopw [22] (fun i wr => ∃ (j : Nat) (Z : Int), j ≤ N ∧ i = .int .i64 j ∧ Hid (rn S E H l = from_ S E Z l j) ∧ Tk wr w.heap.size S E Z ∧ Below w.heap.size w wr) (fun i _ => N - (intOf i).toNat)
      case atStart => exact ⟨0, H, Nat.zero_le _, rfl, hide (from_zero S E H l).symm, t1, hB1⟩
      case round =>
        obtain ⟨j, Z, hj, rfl, HW, x1, hBr⟩ := hrel
        clear t1 hB1
        by_cases hlt : j < N
        · have hlt' : j < l.length := by rw [unhide HN]; exact hlt
          obtain ⟨b1, off1, rfl, _, hc1⟩ := Scl.cell_at (hr.below hBr) (by omega)
          have c1 := hc1 j hlt'
          have HFS := hide (from_step (S := S) (E := E) (H := Z) hlt')
          have HC := hide (fun W => turn S E Z (at0 l j) W)
          have HT0 : Hid (turnF S E Z (at0 l j) = 0 → _) := hide (fun h => turn_is h)
          obtain ⟨V, hV⟩ : ∃ V, at0 l j = V := ⟨_, rfl⟩
          rw [hV] at c1 HFS HC HT0
          have y0 := x1.c0
          have y1 := x1.c1
          have y2 := x1.c2
          have HB0 := hide hBr
          clear hV hc1 hlt'
          by_cases hT : turnF S E Z V = 0
          · obtain ⟨e1, e2, e3⟩ := unhide HT0 hT
            rw [e1, e2, e3, hT, errV_zero] at HC
            have e5 := unhide HFS
            rw [if_pos hT] at e5
            obtain ⟨Y, hY⟩ : ∃ Y, may S E Z - V = Y := ⟨_, rfl⟩
            rw [hY] at HC e5
            have HW2 : Hid (rn S E H l = from_ S E Y l (j + 1)) := hide (by rw [unhide HW, e5])
            clear e1 e2 e3 e5 hY hT HT0 HFS HW
            go_wp2_with fail
            refine (unhide HC _).mono ?_
            rintro e w2 ⟨rfl, hb2⟩
            have x2 := x1.below hb2 x1.lt
            have hB2 := Below.chain (unhide HB0) hb2
            obtain ⟨W3, hW3⟩ : ∃ W3, w2.alloc (.cells #[.int .i64 S, .int .i64 E, .int .i64 Y] 38) = W3 := ⟨_, rfl⟩
            have hs2 := x2.lt
            have x3 : Tk W3 w.heap.size S E Z := by rw [← hW3]; exact x2.alloc _
            have n3 : Tk W3 w2.heap.size S E Y := by rw [← hW3]; exact Tk.new w2 S E Y
            have hB3 : Below w.heap.size w W3 := by rw [← hW3]; exact hB2.alloc (by omega) _
            have u0 := n3.c0
            have u1 := n3.c1
            have u2 := n3.c2
            have v0 := x3.fz 0
            have v1 := x3.fz 1
            have v2 := x3.fz 2
            have v3 := x3.c0
            have v4 := x3.c1
            have v5 := x3.c2
            go_wp2
            go_roundw
            case rel => exact ⟨j + 1, Y, by omega, by go_num, HW2, x3.put S E Y, below_put hB3 (Nat.le_refl _) _ _ _⟩
            case measure => simp [intOf]; omega
          · have HF1 : Hid (runF S E H l = turnF S E Z V) := hide (by
              have e5 := unhide HFS
              rw [if_neg hT] at e5
              rw [unhide HF, unhide HW, e5])
            obtain ⟨e1, e2, e3⟩ := turn_no hT
            rw [e1, e2, e3, errV_ne hT] at HC
            have HNZ := hide hT
            obtain ⟨G, hG⟩ : ∃ G, turnF S E Z V = G := ⟨_, rfl⟩
            rw [hG] at HC HF1 HNZ
            clear e1 e2 e3 hT HT0 HFS HW hG
            go_wp2_with fail
            refine (unhide HC _).mono ?_
            rintro e w2 ⟨rfl, hb2⟩
            have x2 := x1.below hb2 x1.lt
            have hs2 := x2.lt
            have hB2 := Below.chain (unhide HB0) hb2
            go_wp2
            go_ret2
            exact unhide HP G (unhide HNZ) (unhide HF1) _ (hB2.alloc (by omega) _)
        · obtain rfl : j = N := by omega
          have e := from_end S E Z l
          rw [unhide HN] at e
          have HR0 : Hid (runF S E H l = 0) := hide (by rw [unhide HF, unhide HW, e])
          have HRZ : Hid ((rn S E H l).2 = Z) := hide (by rw [unhide HW, e])
          have y2 := x1.c2
          clear e HF HW
          go_wp2
          go_ret2
          exact unhide HLN Z (unhide HR0) (unhide HRZ) _ hBr
    · have HF := hide (unhide HE1 h60 hk)
      have e0 : tankF S E H = 1 := by unfold tankF; rw [if_neg hk]
      rw [e0, errV_ne (by omega)] at CC
      clear HE4 HE1 HE0 HLN hk e0
      go_enter Tryd.func20, Tryd.ntmps20
      go_wp2_with fail
      refine (unhide CC _).mono ?_
      rintro e w1 ⟨rfl, hb1⟩
      have hB1 := Below.chain hb0 hb1
      clear a0 a1 a2 t0 hb0 hb1 CC hW0
      go_wp2
      go_ret2
      exact unhide HP 1 (by omega) (unhide HF) _ hB1

theorem run (S E H : Int) (a : Option Addr) (cap : Nat) (l : List Int) (w : World) (hr : Row w a l) (zl : l.length ≤ 9223372036854775807) :
    Calls Tryd.prog 20 #[.agg #[.int .i64 S, .int .i64 E, .int .i64 H], .slice a l.length cap] w fun e w' => e = .returned (.tuple #[.int .i64 (lastN S E H l), errV (runF S E H l)]) ∧ Below w.heap.size w w' := run_says S E H a cap l w hr zl

end Go.Proofs.YtonbdongafbcdahDoor.Tnk
