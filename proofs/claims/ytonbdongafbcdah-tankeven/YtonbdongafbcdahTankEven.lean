/-
  It is proved that hornlaw4.TankEven returns true for all numbers: of a tank that is full but for what comes, as much as comes may go, as often as one likes (up to sixty turns), and what is there stays the same. No condition but the form's own reach.
-/
import Derived.Test.YtonbdongafbcdahTankFaces
import Derived.Test.YtonbdongafbcdahOwnSet
import Derived.Test.YtonbdongafbcdahPlain
import Derived.Deep.QuietTactic
import Derived.BigQuiet
namespace Go.Proofs.Ytonbdongafbcdah.TankEvenLaw
open Go.ChangeShapes Go.WideShapes Go.ChangeAt Go.RowKit
open Go.Proofs.Ytonbdongafbcdah.Tre Go.Proofs.Ytonbdongafbcdah.Tnk Go.Proofs.Ytonbdongafbcdah.Ev
set_option linter.unusedVariables false

theorem run_even {S E D : Int} (h : Ok S E D) (hD : IntKind.i64.wrap (S - E) = D) {m : Nat} (hm : m ≤ 60) : runF S E D (List.replicate m E) = 0 ∧ lastN S E D (List.replicate m E) = D := by
  obtain ⟨h1, h2, h3, h4, h5, h6⟩ := h
  have e : D = S - E := by rw [← hD]; exact IntWalk.i64_in _ (by omega)
  subst e
  have he := even (S := S) (E := E) ⟨h1, h2, h3, h4, by omega, by omega⟩ m
  have hr : runF S E (S - E) (List.replicate m E) = 0 := by
    unfold runF
    rw [List.length_replicate, if_neg (by omega), if_pos ⟨h1, h2, h3, h4, by omega, by omega⟩, he]
  refine ⟨hr, ?_⟩
  unfold lastN
  rw [if_pos hr, he]
theorem rep_succ (m : Nat) (E : Int) : List.replicate m E ++ [E] = List.replicate (m + 1) E := by rw [List.replicate_succ']

set_option maxRecDepth 100000 in
set_option maxHeartbeats 8000000 in
theorem walk (S E n : Int) (w : World) (hS : (Lit.int .i64 S).wf = true) (hE : (Lit.int .i64 E).wf = true) (hn : (Lit.int .i64 n).wf = true) :
    Calls Try.prog 5 #[.int .i64 S, .int .i64 E, .int .i64 n] w fun e w' => e = .returned (.bool true) ∧ Below w.heap.size w w' := by
  clear hS hE hn
  have hgd := guard_err
  have hne := neq_err
  obtain ⟨D, hD⟩ : ∃ D, IntKind.i64.wrap (S - E) = D := ⟨_, rfl⟩
  have HD := hide hD
  have CCK := hide (fun W => check S E D W)
  have HOK : Hid (tankF S E D = 0 → Ok S E D) := hide (fun h => tankF_zero.1 h)
  obtain ⟨F, hF⟩ : ∃ F, tankF S E D = F := ⟨_, rfl⟩
  rw [hF] at CCK HOK
  obtain ⟨W0, hW0⟩ : ∃ W0, w.alloc (.cells #[.int .i64 S, .int .i64 E, .int .i64 D] 34) = W0 := ⟨_, rfl⟩
  have hb0 : Below w.heap.size w W0 := by rw [← hW0]; exact (Below.refl _ _).alloc (Nat.le_refl _) _
  have t0 : Tk W0 w.heap.size S E D := by rw [← hW0]; exact Tk.new w S E D
  have a0 := t0.c0
  have a1 := t0.c1
  have a2 := t0.c2
  clear hF
  by_cases hz : F = 0
  · have dF : decide (F ≠ 0) = false := by simpa using hz
    have HOK2 := hide (unhide HOK hz)
    clear HOK hz
    by_cases h1 : n < 0
    · have d1 : decide (n < 0) = true := by simpa using h1
      go_enter Try.func5, Try.ntmps5
      go_wp2_with fail
      refine (unhide CCK _).mono ?_
      rintro e w1 ⟨rfl, hb1⟩
      go_wp2
      go_ret
      exact ⟨rfl, Below.chain hb0 hb1⟩
    · have d1 : decide (n < 0) = false := by simpa using h1
      by_cases h2 : 60 < n
      · have d2 : decide (60 < n) = true := by simpa using h2
        go_enter Try.func5, Try.ntmps5
        go_wp2_with fail
        refine (unhide CCK _).mono ?_
        rintro e w1 ⟨rfl, hb1⟩
        go_wp2
        go_ret
        exact ⟨rfl, Below.chain hb0 hb1⟩
      · obtain ⟨m, rfl⟩ : ∃ m : Nat, n = m := ⟨n.toNat, by omega⟩
        have hm : m ≤ 60 := by omega
        have d1' : decide ((m : Int) < 0) = false := by simp
        have d2 : decide (60 < (m : Int)) = false := by simp; omega
        have CRN : Hid (∀ W a cap, Row W a (List.replicate m E) → Calls Try.prog 11 #[.agg #[.int .i64 S, .int .i64 E, .int .i64 D], .slice a m cap] W fun e w' => e = .returned (.tuple #[.int .i64 D, .nilIface]) ∧ Below W.heap.size W w') := hide (fun W a cap h => by
          have c := run S E D a cap (List.replicate m E) W h (by rw [List.length_replicate]; omega)
          obtain ⟨e1, e2⟩ := run_even (unhide HOK2) (unhide HD) hm
          rw [e1, e2, errV_zero, List.length_replicate] at c
          exact c)
        have hDD : (D == D) = true := by simp
        clear HOK2 HD h1 h2
        go_enter Try.func5, Try.ntmps5
        go_wp2_with fail
        refine (unhide CCK _).mono ?_
        rintro e w1 ⟨rfl, hb1⟩
        have t1 := t0.below hb1 t0.lt
        have hB1 := Below.chain hb0 hb1
        clear a0 a1 a2 t0 hb0 hb1 CCK hW0
        have hsz1 := t1.lt
        go_wp2
        go_loopw [8, 9] (fun v i wr => ∃ j : Nat, j ≤ m ∧ i = .int .i64 j ∧ Has wr w1.heap.size v (List.replicate j E) ∧ Below w1.heap.size w1 wr) (fun _ i _ => m - (intOf i).toNat)
        case atStart => exact ⟨0, Nat.zero_le _, rfl, Has.nil _ _, Below.refl _ _⟩
        case round =>
          obtain ⟨j, hj, rfl, hv, hB⟩ := hrel
          by_cases hlt : j < m
          · have hln : Hid ((List.replicate j E).length + 1 ≤ 1000000) := hide (by rw [List.length_replicate]; omega)
            have hWs := hB.size
            have HS := hide (rep_succ j E)
            go_wp2_with (at_builtin; refine wpList_app _ rfl _ _ rfl w1.heap.size u8 (List.replicate j E) [E] _ _ rfl (hv.alloc _) rfl (row_one _ _ _) (unhide hln) (by simp; omega) ?_; intro s' w6 k6 g6 at6)
            obtain ⟨g1, g2⟩ := stepped_plain hv hWs k6 g6 at6
            have hB6 := hB.trans g1
            rw [unhide HS] at k6
            clear hv hB g1 g2 g6 at6
            go_wp2
            go_roundw
            case rel => exact ⟨j + 1, by omega, by go_num, k6, hB6⟩
            case measure => simp [intOf]; omega
          · obtain rfl : j = m := by omega
            obtain ⟨p, q, rfl, hrow⟩ := hv.row
            have t2 := t1.below hB hsz1
            have c0 := t2.c0
            have c1 := t2.c1
            have c2 := t2.c2
            have c := unhide CRN wr p q hrow
            have HRL : Hid ((List.replicate j E).length = j) := hide (by rw [List.length_replicate])
            rw [unhide HRL]
            clear CRN hv
            go_wp2_with fail
            refine c.mono ?_
            clear c
            rintro e w7 ⟨rfl, hb7⟩
            go_wp2
            go_ret
            exact ⟨rfl, Below.chain (Below.chain hB1 hB) hb7⟩
  · have dF : decide (F ≠ 0) = true := by simpa using hz
    clear HOK hz
    go_enter Try.func5, Try.ntmps5
    go_wp2_with fail
    refine (unhide CCK _).mono ?_
    rintro e w1 ⟨rfl, hb1⟩
    go_wp2
    go_ret
    exact ⟨rfl, Below.chain hb0 hb1⟩

set_option maxRecDepth 100000 in
theorem lifted (os : Os) (started : os.Started) (H : Type) (enc : TypeId × Value → H) :
    ReturnsInHanded {} Try.checked os 5 .any (Rows.tankEvenSpec.pre6 enc Try.prog Try.f5 Rows.tankEvenRow.domain false) (Rows.tankEvenSpec.post enc Try.prog Try.f5 false true false false) := by
  refine returnsInHanded_of_change_sized (C := Try.checked) own started (by kernel_rfl) Try.func5
    (ChangeSpec.witness6 (enc := enc) (C := Try.checked) false ⟨#[], #[.int .i64 0, .int .i64 0, .int .i64 0], []⟩ 8 (by kernel_rfl) (by kernel_rfl) (by kernel_rfl) (by kernel_rfl)) ?_
  intro W base args ds gs before hval0 hW hcnd hsz0 _
  have hsz : (DataW.weightsEach Try.prog (Try.f5.params.toList ++ Rows.tankEvenSpec.plain.varTypes Try.prog) (ds ++ gs)).all (· ≤ reachBytes) = true := hsz0
  have hval : ∀ (j : Nat) t v, Try.f5.params[j]? = some t → args[j]? = some v → Value.okWide Try.prog W .any base t v := hval0
  have hW' := hW
  obtain ⟨p, q, hA0, hV, rfl, hfz, hnd⟩ := hW
  have hA : DataW.TrodAll enc Try.prog W 0 (fun _ => true) true Try.f5.params.toList args.toList ds p := hA0
  rw [Try.params5] at hA hval hsz
  obtain ⟨v0, vs0, d0, ds0, p0, q0, hargs, rfl, rfl, h0, r0⟩ := trodAll_cons hA
  obtain ⟨v1, vs1, d1, ds1, p1, q1, rfl, rfl, rfl, h1, r1⟩ := trodAll_cons r0
  obtain ⟨v2, vs2, d2, ds2, p2, q2, rfl, rfl, rfl, h2, r2⟩ := trodAll_cons r1
  obtain ⟨rfl, rfl, rfl⟩ := trodAll_nil r2
  obtain rfl : args = #[v0, v1, v2] := by cases args; simp_all
  obtain ⟨rfl, rfl⟩ := trodVars_none hV
  obtain ⟨n0, rfl, rfl, rfl, hw0⟩ := open_int Try.underlying3 (hval 0 3 v0 rfl rfl) h0
  obtain ⟨n1, rfl, rfl, rfl, hw1⟩ := open_int Try.underlying3 (hval 1 3 v1 rfl rfl) h1
  obtain ⟨n2, rfl, rfl, rfl, hw2⟩ := open_int Try.underlying3 (hval 2 3 v2 rfl rfl) h2
  clear hA0 hval0 hsz0
  refine (walk n0 n1 n2 W hw0 hw1 hw2).mono fun e W' ⟨he, bel⟩ => ?_
  subst he
  exact ⟨_, rfl, _, _, _, [], _, [], hW', trodAll_mk1 (shut_bool Try.underlying4 _), (trodAll_cons_mk (shut_int Try.underlying3 hw0) (trodAll_cons_mk (shut_int Try.underlying3 hw1) (trodAll_cons_mk (shut_int Try.underlying3 hw2) trodAll_mk0))), rfl, bel.frame _, fun h => by cases h⟩
end Go.Proofs.Ytonbdongafbcdah.TankEvenLaw
namespace Go.Proofs.Ytonbdongafbcdah
open Go.ChangeShapes Go.WideShapes Go.ChangeAt Go.RowKit

theorem tankEven_holds : Rows.TankEvenSaid :=
  OpenClaim.holds_of_wide 5 Try.f5 rfl rfl rfl rfl rfl rfl rfl ⟨rfl, rfl, rfl, rfl, rfl⟩ rfl rfl rfl rfl rfl (by kernel_rfl) Try.func5 (by kernel_rfl)
    (of_decide_eq_true (by kernel_rfl)) (by unfold Func.isWrapper; first | (rw [if_pos (by decide +kernel)]; kernel_rfl) | (rw [if_neg (by decide +kernel)]; exact ⟨rfl, rfl⟩))
    (fun os started H enc _ => TankEvenLaw.lifted os started H enc)
end Go.Proofs.Ytonbdongafbcdah
