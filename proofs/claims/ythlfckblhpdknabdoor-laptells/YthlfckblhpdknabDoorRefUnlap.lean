/-
  hornref1.Unlap: by its contract.
-/
import Derived.Test.YthlfckblhpdknabDoorLapTwo
import Derived.Test.YthlfckblhpdknabDoorDown
namespace Go.Proofs.YthlfckblhpdknabDoor.Lap
open Go.RowKit
open Go.Proofs.YthlfckblhpdknabDoor.Tre
set_option linter.unusedVariables false

theorem at_fr {l : List Int} {n j : Nat} (hn : n = l.length / 2) (h : j < n) : at0 (fr l) j = at0 l j := by subst hn; unfold fr at0; rw [List.getElem?_take, if_pos h]
theorem at_bk {l : List Int} {n : Nat} (hn : n = l.length / 2) (j : Nat) : at0 (bk l) j = at0 l (n + j) := by subst hn; unfold bk at0; rw [List.getElem?_drop]
theorem evs_step {l : List Int} {n j T : Nat} (hn : n = l.length / 2) (h : j < n) (hT : T = n + (j - 1)) : upto (evF (fr l) (bk l)) (j + 1) = upto (evF (fr l) (bk l)) j ++ [at0 l j - (at0 l T + at0 l (n + j) + 2) / 4] := by
  rw [upto_succ]
  unfold evF lf
  rw [at_fr hn h, at_bk hn, at_bk hn, hT]
theorem unlap_step {l : List Int} {n j T : Nat} (hn : n = l.length / 2) (h : j < n) (hT : T = if j + 1 < n then j + 1 else j) : flat (at0 (evs l)) (at0 (ods l)) (j + 1) = flat (at0 (evs l)) (at0 (ods l)) j ++ [at0 (evs l) j, at0 l (n + j) + (at0 (evs l) j + at0 (evs l) T) / 2] := by
  rw [flat_succ]
  have e : min (j + 1) ((evs l).length - 1) = T := by
    rw [evs_length, ← hn, hT]
    by_cases h3 : j + 1 < n
    · rw [if_pos h3, Nat.min_eq_left (by omega)]
    · rw [if_neg h3, Nat.min_eq_right (by omega)]; omega
  have e2 : at0 (ods l) j = odF (evs l) (bk l) j := by unfold ods; rw [← hn]; exact upto_at _ h
  rw [e2]
  unfold odF gs
  rw [at_bk hn, e]

theorem row_two' {w : World} {x y : Int} {t : TypeId} {n : Nat} (h : w.heap.size = n) : Row (w.alloc (.cells #[.int .i64 x, .int .i64 y] t)) (some ⟨n, 0, none⟩) [x, y] := by
  subst h; exact row_two w x y t

set_option maxRecDepth 100000 in
set_option maxHeartbeats 8000000 in
theorem refUnlap (a : Option Addr) (cap : Nat) (l : List Int) (w : World) (hl : l.length ≤ 32) (he : Hid (l.length = 2 * (l.length / 2))) (hi : In 4000 l) (hr : Row w a l) :
    Calls Tryd.prog 15 #[.slice a l.length cap] w fun e w' => ∃ v, e = .returned v ∧ Has w' w.heap.size v (unlap l) ∧ Below w.heap.size w w' := by
  obtain ⟨n, hn⟩ : ∃ n, n = l.length / 2 := ⟨_, rfl⟩
  have hdv : Int.tdiv (l.length : Int) 2 = (n : Int) := by rw [hn]; rfl
  have hn9 : n ≤ 16 := by omega
  have hN2 : 2 * n ≤ l.length := by omega
  have hN3 : l.length ≤ 2 * n := by have := unhide he; omega
  have HN := hide hn
  have hi2 : In (2 * 2000) l := hi
  have hin := evs_in (by omega) hi2
  have HLE : Hid ((evs l).length = n) := hide (by rw [evs_length]; exact hn.symm)
  obtain ⟨L, hL⟩ : ∃ L, l.length = L := ⟨_, rfl⟩
  rw [hL] at hdv hN2 hN3 hl ⊢
  have HL := hide hL
  clear hn hL
  go_enter Tryd.func15, Tryd.ntmps15
  go_wp2
  go_loopw [4, 6] (fun d i wr => ∃ j : Nat, j ≤ n ∧ i = .int .i64 j ∧ Has wr w.heap.size d (upto (evF (fr l) (bk l)) j) ∧ Below w.heap.size w wr) (fun _ i _ => n - (intOf i).toNat)
  case atStart => exact ⟨0, Nat.zero_le _, rfl, Has.nil _ _, Below.refl _ _⟩
  case round =>
    obtain ⟨j, hj, rfl, h1, hB⟩ := hrel
    by_cases hlt : j < n
    · obtain ⟨b, off, rfl, hc⟩ := row_cell (hr.below hB) (by rw [unhide HL]; omega)
      rw [unhide HL] at hc
      obtain ⟨T, hT⟩ : ∃ T, T = n + (j - 1) := ⟨_, rfl⟩
      have HS := hide (evs_step (unhide HN) hlt hT)
      obtain ⟨O, hO⟩ : ∃ O, O = n + j := ⟨_, rfl⟩
      rw [← hO] at HS
      have hjl : j < L := by omega
      have hOl : O < L := by omega
      have hTl : T < L := by omega
      have c1 := hc j hjl
      have c2 := hc O hOl
      have c3 := hc T hTl
      obtain ⟨x0, x1⟩ := hi.at (by omega) j
      obtain ⟨y0, y1⟩ := hi.at (by omega) O
      obtain ⟨z0, z1⟩ := hi.at (by omega) T
      obtain ⟨X, hX⟩ : ∃ X, at0 l j = X := ⟨_, rfl⟩
      obtain ⟨Y, hY⟩ : ∃ Y, at0 l O = Y := ⟨_, rfl⟩
      obtain ⟨Z, hZ⟩ : ∃ Z, at0 l T = Z := ⟨_, rfl⟩
      rw [hX] at c1 x0 x1 HS
      rw [hY] at c2 y0 y1 HS
      rw [hZ] at c3 z0 z1 HS
      clear hX hY hZ hc
      have hO2 : IntKind.i64.wrap ((n : Int) + (j : Int)) = (O : Int) := by rw [IntWalk.i64_in _ (by omega)]; omega
      have hln : Hid ((upto (evF (fr l) (bk l)) j).length + 1 ≤ 1000000) := hide (by rw [upto_length]; omega)
      by_cases h3 : 0 < j
      all_goals (first
        | (obtain ⟨P, hP⟩ : ∃ P, P = j - 1 := ⟨_, rfl⟩
           have hP2 : (j : Int) - 1 = (P : Int) := by omega
           have hT3 : IntKind.i64.wrap ((n : Int) + (P : Int)) = (T : Int) := by rw [IntWalk.i64_in _ (by omega)]; omega
           clear hT hP hO
           go_wp2
           go_quiet ((go_at_call 17; exact Calls.quiet_of_same (down4 (Z + Y + 2) _ (by omega) (by omega)))))
        | (obtain rfl : O = T := by omega
           obtain rfl : Y = Z := by rw [c2] at c3; cases c3; rfl
           clear hT hO
           go_wp2
           go_quiet ((go_at_call 17; exact Calls.quiet_of_same (down4 (Y + Y + 2) _ (by omega) (by omega))))))
      all_goals
        have h1V : Has (wr.drewN nq) w.heap.size u4 (upto (evF (fr l) (bk l)) j) := h1
        have c1V : (wr.drewN nq).cell? ⟨b, off + j, none⟩ = some (.int .i64 X) := c1
        have hBV : Below w.heap.size w (wr.drewN nq) := hB.trans ⟨rfl, rfl, rfl, Nat.le_refl _, fun _ _ => rfl⟩
        obtain ⟨V, hV⟩ : ∃ V, wr.drewN nq = V := ⟨_, rfl⟩
        rw [hV] at h1V c1V hBV ⊢
        clear hV h1 c1 c2 c3 hB
        have hVs := hBV.size
        go_wp2_with (at_builtin; refine wpList_app _ rfl _ _ rfl w.heap.size u4 (upto (evF (fr l) (bk l)) j) _ _ _ rfl (h1V.alloc _) rfl (row_one _ _ _) (unhide hln) (by simp; omega) ?_; intro s' w1 k1 g1 at1)
        obtain ⟨d1, d2⟩ := stepped_plain h1V hVs k1 g1 at1
        go_wp2
        go_roundw
        case rel => exact ⟨j + 1, by omega, by go_num, by rw [unhide HS]; exact k1, hBV.trans d1⟩
        case measure => simp [intOf]; omega
    · obtain rfl : n = j := by omega
      have h1' : Has wr w.heap.size u4 (evs l) := by unfold evs; rw [← unhide HN]; exact h1
      clear h1
      obtain ⟨p2, q2, rfl, -⟩ := h1'.row
      rw [unhide HLE] at h1' ⊢
      go_wp2
      go_loopw [5, 9] (fun s i wr => ∃ j : Nat, j ≤ n ∧ i = .int .i64 j ∧ Has wr w.heap.size s (flat (at0 (evs l)) (at0 (ods l)) j) ∧ Has wr w.heap.size (.slice p2 n q2) (evs l) ∧ Off (.slice p2 n q2) s ∧ Below w.heap.size w wr) (fun _ i _ => n - (intOf i).toNat)
      case atStart => exact ⟨0, Nat.zero_le _, rfl, Has.nil _ _, h1', off_nil _, hB⟩
      case round =>
        obtain ⟨j, hj, rfl, h1, h2, h3, hB2⟩ := hrel
        clear h1' hB
        by_cases hlt : j < n
        · obtain ⟨b, off, rfl, hc⟩ := row_cell (hr.below hB2) (by rw [unhide HL]; omega)
          rw [unhide HL] at hc
          obtain ⟨g, c, e1, hg1, hg2, hg3, hg4⟩ := h2.one (by rw [unhide HLE]; omega)
          rw [unhide HLE] at e1
          obtain ⟨rfl, -, rfl⟩ := Value.slice.inj e1
          obtain ⟨T, hT⟩ : ∃ T, T = if j + 1 < n then j + 1 else j := ⟨_, rfl⟩
          have HS := hide (unlap_step (unhide HN) hlt hT)
          obtain ⟨O, hO⟩ : ∃ O, O = n + j := ⟨_, rfl⟩
          rw [← hO] at HS
          have hOl : O < L := by omega
          have hTn : T < n := by rw [hT]; split <;> omega
          have c1 := hc O hOl
          have c2 := h2.get (j := j) (by rw [unhide HLE]; exact hlt)
          have c3 := h2.get (j := T) (by rw [unhide HLE]; exact hTn)
          obtain ⟨x0, x1⟩ := hi.at (by omega) O
          obtain ⟨y0, y1⟩ := hin.at (by omega) j
          obtain ⟨z0, z1⟩ := hin.at (by omega) T
          obtain ⟨X, hX⟩ : ∃ X, at0 l O = X := ⟨_, rfl⟩
          obtain ⟨Y, hY⟩ : ∃ Y, at0 (evs l) j = Y := ⟨_, rfl⟩
          obtain ⟨Z, hZ⟩ : ∃ Z, at0 (evs l) T = Z := ⟨_, rfl⟩
          rw [hX] at c1 x0 x1 HS
          rw [hY] at c2 y0 y1 HS
          rw [hZ] at c3 z0 z1 HS
          clear hX hY hZ hc
          have hO2 : IntKind.i64.wrap ((n : Int) + (j : Int)) = (O : Int) := by rw [IntWalk.i64_in _ (by omega)]; omega
          have hln : Hid ((flat (at0 (evs l)) (at0 (ods l)) j).length + 2 ≤ 1000000) := hide (by rw [flat_length]; omega)
          have hmx : Tryd.prog.follows .mixedOrders = true := by kernel_rfl
          clear hO
          by_cases h4 : j + 1 < n
          all_goals (first
            | (rw [if_pos h4] at hT
               have hT2 : (j : Int) + 1 = (T : Int) := by omega
               clear hT
               go_wp2
               go_quiet ((go_at_call 17; exact Calls.quiet_of_same (down2 (Y + Z) _ (by omega) (by omega))))
               have hwr : IntKind.i64.wrap (X + (Y + Z) / 2) = X + (Y + Z) / 2 := IntWalk.i64_in _ (by omega))
            | (rw [if_neg h4] at hT
               obtain rfl := hT
               obtain rfl : Y = Z := by rw [c2] at c3; cases c3; rfl
               go_wp2
               go_quiet ((go_at_call 17; exact Calls.quiet_of_same (down2 (Y + Y) _ (by omega) (by omega))))
               have hwr : IntKind.i64.wrap (X + (Y + Y) / 2) = X + (Y + Y) / 2 := IntWalk.i64_in _ (by omega)))
          all_goals
            have h1V : Has (wr.drewN nq) w.heap.size u5 (flat (at0 (evs l)) (at0 (ods l)) _) := h1
            have h2V : Has (wr.drewN nq) w.heap.size (.slice (some ⟨g, 0, none⟩) n q2) (evs l) := h2
            have c1V : (wr.drewN nq).cell? ⟨b, off + O, none⟩ = some (.int .i64 X) := c1
            have c2V : (wr.drewN nq).cell? ⟨g, _, none⟩ = some (.int .i64 Y) := c2
            have hBV : Below w.heap.size w (wr.drewN nq) := hB2.trans ⟨rfl, rfl, rfl, Nat.le_refl _, fun _ _ => rfl⟩
            obtain ⟨V, hV⟩ : ∃ V, wr.drewN nq = V := ⟨_, rfl⟩
            rw [hV] at h1V h2V c1V c2V hBV ⊢
            clear hV h1 h2 c1 c2 c3 hB2
            have hVs := hBV.size
            go_wp2
            go_region_law (refine step_app _ rfl _ _ rfl w.heap.size u5 (flat (at0 (evs l)) (at0 (ods l)) _) _ _ _ rfl (Has.alloc (w := V.drew) h1V _) rfl (row_two' (w := V.drew) rfl) (unhide hln) (by simp; omega) ?_; intro s' w1 k1 g1 at1)
          all_goals
            obtain ⟨d1, d2⟩ := stepped_plain (W := V.drew) h1V hVs k1 g1 at1
            obtain ⟨h2', h3'⟩ := d2 _ _ h2V h3
            go_wp2
            go_roundw
            case rel => exact ⟨_, hlt, by go_num, by rw [unhide HS]; exact k1, h2', h3', hBV.trans ⟨d1.os, d1.tape, d1.output, d1.size, d1.block⟩⟩
            case measure => simp [intOf]; omega
        · obtain rfl : n = j := by omega
          go_wp2
          go_ret
          refine ⟨_, rfl, ?_, hB2⟩
          unfold unlap
          rw [← unhide HN]
          exact h1

end Go.Proofs.YthlfckblhpdknabDoor.Lap
