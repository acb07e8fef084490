/-
  It is proved that hornlaw1.NearBest returns true for every row and every two numbers: so many pulses as are told, with the numbers' signs, and no other row of as many is nearer. No condition but the form's own reach.
-/
import Derived.Test.YtjnmogmagngenadNearOf
import Derived.Test.YtjnmogmagngenadNearFar
import Derived.Test.YtjnmogmagngenadPulseRow
import Derived.Test.YtjnmogmagngenadFrame
namespace Go.Proofs.Ytjnmogmagngenad.NearBestLaw
open Go.ChangeShapes Go.WideShapes Go.ChangeAt Go.RowKit
open Go.Proofs.Ytjnmogmagngenad.Tre Go.Proofs.Ytjnmogmagngenad.Cnt Go.Proofs.Ytjnmogmagngenad.Pls Go.Proofs.Ytjnmogmagngenad.Mid Go.Proofs.Ytjnmogmagngenad.Nea
set_option linter.unusedVariables false

theorem row_three (w : World) (x y z : Int) (t : TypeId) : Row (w.alloc (.cells #[.int .i64 x, .int .i64 y, .int .i64 z] t)) (some ⟨w.heap.size, 0, none⟩) [x, y, z] := by
  refine Or.inr ⟨w.heap.size, 0, rfl, by simp, fun j hj => ?_⟩
  have hj' : j = 0 ∨ j = 1 ∨ j = 2 := by simp at hj; omega
  rcases hj' with rfl | rfl | rfl <;> (rw [World.cell?_alloc_at _ _ _ _ rfl]; rfl)

theorem near_fact : Near [5, -3, 1] 4 [2, -1, 1] := by
  refine ⟨fun i => decide (i = 2), ⟨by decide +kernel, fun i j hi hj gi gj => ?_⟩, by decide +kernel⟩
  have e : i = 2 := by simpa using gi
  subst e
  have hj' : j = 0 ∨ j = 1 ∨ j = 2 := by simp at hj; omega
  rcases hj' with rfl | rfl | rfl
  · exact Or.inl (by decide +kernel)
  · exact Or.inl (by decide +kernel)
  · cases gj

theorem fact (w : World) : Calls Try.prog 5 #[.slice (some ⟨w.heap.size, 0, none⟩) 3 3, .int .i64 4] (w.alloc (.cells #[.int .i64 5, .int .i64 (-3), .int .i64 1] 3)) fun e w' =>
    ∃ g c, e = .returned (.tuple #[.slice (some ⟨g, 0, none⟩) 3 c, .nilIface]) ∧ w'.cell? ⟨g, 0, none⟩ = some (.int .i64 2) ∧ w'.cell? ⟨g, 1, none⟩ = some (.int .i64 (-1)) ∧ w'.cell? ⟨g, 2, none⟩ = some (.int .i64 1) ∧ Below w.heap.size w w' := by
  have hb : Below w.heap.size w (w.alloc (.cells #[.int .i64 5, .int .i64 (-3), .int .i64 1] 3)) := (Below.refl _ _).alloc (Nat.le_refl _) _
  have h := of_some (some ⟨w.heap.size, 0, none⟩) 3 [5, -3, 1] 4 (w.alloc (.cells #[.int .i64 5, .int .i64 (-3), .int .i64 1] 3)) (row_three w 5 (-3) 1 3) (hide (by decide +kernel)) (by decide) (by decide) (hide (by decide +kernel))
  refine h.mono fun e w' ⟨p, l, he, hp, HN, hb'⟩ => ?_
  obtain rfl : l = [2, -1, 1] := (unhide HN).one near_fact
  obtain ⟨g, c, e1, -⟩ := hp.one (by decide)
  subst e1
  exact ⟨g, c, he, hp.get (j := 0) (by decide), hp.get (j := 1) (by decide), hp.get (j := 2) (by decide), Below.chain hb hb'⟩

/-- What may be. -/
def Ways (v : List Int) (k : Int) : Prop := Hid (vf v ≠ 0) ∨ (Hid (vf v = 0) ∧ ((k < 0 ∨ (0 ≤ k ∧ 8 < k)) ∨ (∃ K : Nat, k = K ∧ 0 < K ∧ K ≤ 8 ∧ Hid (loud v = 0)) ∨ ∃ K : Nat, k = K ∧ K ≤ 8 ∧ Hid (K = 0 ∨ 0 < loud v)))
theorem ways (v : List Int) (k : Int) : Ways v k := by
  unfold Ways
  by_cases h : vf v = 0
  · refine Or.inr ⟨h, ?_⟩
    by_cases h1 : k < 0
    · exact Or.inl (Or.inl h1)
    · by_cases h2 : 8 < k
      · exact Or.inl (Or.inr ⟨by omega, h2⟩)
      · by_cases h3 : k.toNat = 0 ∨ 0 < loud v
        · exact Or.inr (Or.inr ⟨k.toNat, by omega, by omega, h3⟩)
        · exact Or.inr (Or.inl ⟨k.toNat, by omega, by omega, by omega, by show loud v = 0; omega⟩)
  · exact Or.inl h
theorem one_way (N K : Nat) (a : Int) : (a < 0 ∨ (0 ≤ a ∧ Hid (V K N ≤ a))) ∨ (0 ≤ a ∧ Hid (a < V K N)) := by
  by_cases h : a < 0
  · exact Or.inl (Or.inl h)
  · by_cases g : a < V K N
    · exact Or.inr ⟨by omega, g⟩
    · exact Or.inl (Or.inr ⟨by omega, by show V K N ≤ a; omega⟩)

set_option maxRecDepth 100000 in
set_option maxHeartbeats 16000000 in
theorem walk (a0 : Option Addr) (cap0 : Nat) (l0 : List Int) (k r : Int) (w : World) (hr0 : Row w a0 l0) (hw0 : ∀ n ∈ l0, (Lit.int .i64 n).wf = true) (hz0 : l0.length * 8 ≤ 140737488351232)
    (hwk : (Lit.int .i64 k).wf = true) (hwr : (Lit.int .i64 r).wf = true) :
    Calls Try.prog 3 #[.slice a0 l0.length cap0, .int .i64 k, .int .i64 r] w fun e w' => e = .returned (.bool true) ∧ Below w.heap.size w w' := by
  have hl0 : l0.length ≤ 9223372036854775807 := by omega
  have hwy := ways l0 k
  clear hw0 hz0 hwk hwr
  go_enter Try.func3, Try.ntmps3
  go_wp2_with fail
  refine (fact w).mono ?_
  rintro e w1 ⟨gf, cf, rfl, f0, f1, f2, hb1⟩
  have hr1 := hr0.below hb1
  go_wp2_with fail
  clear f0 f1 f2
  rcases hwy with HF | ⟨HF, hk | ⟨K, rfl, hK0, hK8, HM⟩ | ⟨K, rfl, hK8, HM⟩⟩
  · refine (of_no a0 cap0 l0 k w1 hl0 hr1 HF).mono ?_
    rintro e w2 ⟨rfl, hb2⟩
    go_wp2
    go_ret
    exact ⟨rfl, Below.chain hb1 hb2⟩
  · refine (of_range a0 cap0 l0 k w1 hr1 HF hk).mono ?_
    rintro e w2 ⟨rfl, hb2⟩
    go_wp2
    go_ret
    exact ⟨rfl, Below.chain hb1 hb2⟩
  · refine (of_none a0 cap0 l0 K w1 hr1 HF hK0 hK8 HM).mono ?_
    rintro e w2 ⟨rfl, hb2⟩
    go_wp2
    go_ret
    exact ⟨rfl, Below.chain hb1 hb2⟩
  · refine (of_ok a0 cap0 l0 K w1 hr1 HF hK8 HM).mono ?_
    rintro e w2 ⟨q, l, rfl, hq, HN, hb2⟩
    have hB2 := Below.chain hb1 hb2
    have hr2 := hr1.below hb2
    obtain ⟨h6, -⟩ := vf_ok (unhide HF)
    have HLl := hide (unhide HN).len
    have HKl := hide ((unhide HN).loud (unhide HM))
    have HFl : Hid (fault l = 0) := hide (fault_none (by rw [unhide HLl]; exact h6) (loud_all (by rw [unhide HKl]; omega)) (by rw [unhide HKl]; exact hK8))
    obtain ⟨pq, qq, rfl, rq⟩ := hq.row
    have c1 := fun W hr => check_ok pq qq l W hr HFl
    have c2 := fun W hr hr' => far_ok a0 cap0 l0 pq qq l K W hr hr' HF HFl (hide (unhide HLl).symm) HKl
    rw [unhide HKl] at c1
    obtain ⟨N, hN⟩ : ∃ N, l0.length = N := ⟨_, rfl⟩
    have HL0 := hide hN
    have HL : Hid (l.length = N) := hide ((unhide HLl).trans hN)
    rw [unhide HL] at c1 c2 ⊢
    rw [hN] at c2 h6 ⊢
    obtain ⟨D, hD⟩ : ∃ D, far l0 K l = D := ⟨_, rfl⟩
    rw [hD] at c2
    have HD := hide hD
    have C1 := hide c1
    have C2 := hide c2
    have eK : ((K : Int) == (K : Int)) = true := by simp
    have eN : ((N : Int) == (N : Int)) = true := by simp
    clear c1 c2 hD hN hb1 hb2 hr1 hq hl0 HLl hr0
    go_wp2_with fail
    refine (unhide C1 w2 rq).mono ?_
    rintro e w3 ⟨rfl, hb3⟩
    have hB3 := Below.chain hB2 hb3
    have hr3 := hr2.below hb3
    have rq3 := rq.below hb3
    clear C1 hB2 hr2 rq hb3
    go_wp2_with fail
    refine (unhide C2 w3 hr3 rq3).mono ?_
    rintro e w4 ⟨rfl, hb4⟩
    have hB4 := Below.chain hB3 hb4
    have hr4 := hr3.below hb4
    have rq4 := rq3.below hb4
    clear C2 hB3 hr3 rq3 hb4
    go_wp2
    go_loopw [15] (fun i wr => ∃ j : Nat, j ≤ N ∧ i = .int .i64 j ∧ wr = w4) (fun i _ => N - (intOf i).toNat)
    case atStart => exact ⟨0, Nat.zero_le _, rfl, rfl⟩
    case round =>
      obtain ⟨j, hj, rfl, rfl⟩ := hrel
      by_cases hlt : j < N
      · obtain ⟨b, off, rfl, hb, hc⟩ := row_cell hr4 (by rw [unhide HL0]; omega)
        obtain ⟨b', off', rfl, hb', hc'⟩ := row_cell rq4 (by rw [unhide HL]; omega)
        have c1 := hc j (by rw [unhide HL0]; exact hlt)
        have c2 := hc' j (by rw [unhide HL]; exact hlt)
        obtain ⟨s1, s2⟩ := (unhide HN).sign (i := j) (by rw [unhide HL0]; exact hlt)
        obtain ⟨X, hX⟩ : ∃ X, at0 l0 j = X := ⟨_, rfl⟩
        obtain ⟨Y, hY⟩ : ∃ Y, at0 l j = Y := ⟨_, rfl⟩
        rw [hX] at c1 s1 s2
        rw [hY] at c2 s1 s2
        clear hc hc' hX hY
        rcases Int.lt_trichotomy Y 0 with hy | hy | hy
        · have hx := s1 hy
          have hx' : ¬ 0 ≤ X := by omega
          have hy' : ¬ 0 < Y := by omega
          clear s1 s2
          go_wp2
          go_roundw
          case rel => exact ⟨j + 1, by omega, by go_num, by first | trivial | rfl⟩
          case measure => simp [intOf]; omega
        · subst hy
          clear s1 s2
          go_wp2
          go_roundw
          case rel => exact ⟨j + 1, by omega, by go_num, by first | trivial | rfl⟩
          case measure => simp [intOf]; omega
        · have hx := s2 hy
          have hx' : ¬ X ≤ 0 := by omega
          have hy' : ¬ Y < 0 := by omega
          clear s1 s2
          go_wp2
          go_roundw
          case rel => exact ⟨j + 1, by omega, by go_num, by first | trivial | rfl⟩
          case measure => simp [intOf]; omega
      · obtain rfl : j = N := by omega
        rcases one_way j K r with wa | ⟨ha, HA⟩
        · have c5 := row_out j K r h6 hK8 wa wr
          go_wp2_with fail
          refine c5.mono ?_
          clear c5
          rintro e w5 ⟨rfl, hb5⟩
          go_wp2
          go_ret
          exact ⟨rfl, Below.chain hB4 hb5⟩
        · have c5 := row_ok j K r h6 hK8 ha HA wr
          go_wp2_with fail
          refine c5.mono ?_
          clear c5
          rintro e w5 ⟨v5, l5, rfl, h5, H5, hb5⟩
          have hB5 := Below.chain hB4 hb5
          have hr5 := hr4.below hb5
          obtain ⟨p5, q5, rfl, r5⟩ := h5.row
          obtain ⟨i1, i2, i3⟩ := unhide H5
          have c6 := far_ok a0 cap0 l0 p5 q5 l5 K w5 hr5 r5 HF (is_right h6 hK8 (unhide H5)) (hide ((unhide HL0).trans i1.symm)) i2
          have hbest := (unhide HN).best (unhide HM) (i1.trans (unhide HL0).symm) i2
          rw [unhide HD] at hbest
          rw [unhide HL0, i1] at c6
          rw [i1]
          obtain ⟨D5, hD5⟩ : ∃ D5, far l0 K l5 = D5 := ⟨_, rfl⟩
          rw [hD5] at c6 hbest
          have hbz : (D : Int) ≤ (D5 : Int) := by omega
          clear hD5 i1 i2 i3 hbest
          go_wp2_with fail
          refine c6.mono ?_
          clear c6
          rintro e w6 ⟨rfl, hb6⟩
          go_wp2
          go_ret
          exact ⟨by first | rfl | (simp; omega), Below.chain hB5 hb6⟩

set_option maxRecDepth 100000 in
theorem lifted (os : Os) (started : os.Started) (H : Type) (enc : TypeId × Value → H) :
    ReturnsInHanded {} Try.checked os 3 .any (Rows.nearBestSpec.pre6 enc Try.prog Try.f3 Rows.nearBestRow.domain false) (Rows.nearBestSpec.post enc Try.prog Try.f3 false true false false) := by
  refine returnsInHanded_of_change_sized (C := Try.checked) own started (by kernel_rfl) Try.func3
    (ChangeSpec.witness6 (enc := enc) (C := Try.checked) false ⟨#[], #[.slice none 0 0, .int .i64 0, .int .i64 0], []⟩ 8 (by kernel_rfl) (by kernel_rfl) (by kernel_rfl) (by kernel_rfl)) ?_
  intro W base args ds gs before hval0 hW hcnd hsz0 _
  have hsz : (DataW.weightsEach Try.prog (Try.f3.params.toList ++ Rows.nearBestSpec.plain.varTypes Try.prog) (ds ++ gs)).all (· ≤ reachBytes) = true := hsz0
  have hval : ∀ (j : Nat) t v, Try.f3.params[j]? = some t → args[j]? = some v → Value.okWide Try.prog W .any base t v := hval0
  have hW' := hW
  obtain ⟨p, q, hA0, hV, rfl, hfz, hnd⟩ := hW
  have hA : DataW.TrodAll enc Try.prog W 0 (fun _ => true) true Try.f3.params.toList args.toList ds p := hA0
  rw [Try.params3] at hA hval hsz
  obtain ⟨v0, vs0, d0, ds0, p0, q0, hargs, rfl, rfl, h0, r0⟩ := trodAll_cons hA
  obtain ⟨v1, vs1, d1, ds1, p1, q1, rfl, rfl, rfl, h1, r1⟩ := trodAll_cons r0
  obtain ⟨v2, vs2, d2, ds2, p2, q2, rfl, rfl, rfl, h2, r2⟩ := trodAll_cons r1
  obtain ⟨rfl, rfl, rfl⟩ := trodAll_nil r2
  obtain rfl : args = #[v0, v1, v2] := by cases args; simp_all
  obtain ⟨rfl, rfl⟩ := trodVars_none hV
  obtain ⟨a0, len0, cap0, rfl⟩ := okWide_slice Try.underlying22 (hval 0 22 v0 rfl rfl)
  have k0 := h0
  have lt0 : ∀ x ∈ p0, x.block < W.heap.size := by obtain ⟨m, hm⟩ := k0; exact DataW.trod_lt m _ _ _ hm
  obtain ⟨l0, hlen0, hr0, hw0, hz0⟩ := open_row h0 (fun e s hd => sized_slice hsz (j := 0) (t := 22) (e := 3) rfl (by rw [hd]; rfl) Try.underlying22)
  subst hlen0
  obtain ⟨n1, rfl, rfl, rfl, hw1⟩ := open_int Try.underlying3 (hval 1 3 v1 rfl rfl) h1
  obtain ⟨n2, rfl, rfl, rfl, hw2⟩ := open_int Try.underlying3 (hval 2 3 v2 rfl rfl) h2
  clear hA0 hval0 hsz0
  refine (walk a0 cap0 l0 n1 n2 W hr0 hw0 hz0 hw1 hw2).mono fun e W' ⟨he, bel⟩ => ?_
  subst he
  exact ⟨_, rfl, _, _, _, [], _, [], hW', trodAll_mk1 (shut_bool Try.underlying4 _), (trodAll_cons_mk (Below.trod laidOut (by kernel_rfl) (of_decide_eq_true (by kernel_rfl)) k0 bel lt0) (trodAll_cons_mk (shut_int Try.underlying3 hw1) (trodAll_cons_mk (shut_int Try.underlying3 hw2) trodAll_mk0))), rfl, bel.frame _, fun h => by cases h⟩
end Go.Proofs.Ytjnmogmagngenad.NearBestLaw
namespace Go.Proofs.Ytjnmogmagngenad
open Go.ChangeShapes Go.WideShapes Go.ChangeAt Go.RowKit

theorem nearBest_holds : Rows.NearBestSaid :=
  OpenClaim.holds_of_wide 3 Try.f3 rfl rfl rfl rfl rfl rfl rfl ⟨rfl, rfl, rfl, rfl, rfl⟩ rfl rfl rfl rfl rfl (by kernel_rfl) Try.func3 (by kernel_rfl)
    (of_decide_eq_true (by kernel_rfl)) (by unfold Func.isWrapper; first | (rw [if_pos (by decide +kernel)]; kernel_rfl) | (rw [if_neg (by decide +kernel)]; exact ⟨rfl, rfl⟩))
    (fun os started H enc _ => NearBestLaw.lifted os started H enc)
end Go.Proofs.Ytjnmogmagngenad
