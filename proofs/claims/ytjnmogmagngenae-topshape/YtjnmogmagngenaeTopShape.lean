/-
  It is proved that horntop.TopShape returns true for every row and every two numbers: of a band its gain and its pulses are known by the row of these, and their number; and the row of that rank is as near as any. No condition but the form's own reach.
-/
import Derived.Test.YtjnmogmagngenaeNearOf
import Derived.Test.YtjnmogmagngenaeNearFar
import Derived.Test.YtjnmogmagngenaeTopMath
import Derived.Test.YtjnmogmagngenaePulseTwo
import Derived.Test.YtjnmogmagngenaePulseRow
import Derived.Test.YtjnmogmagngenaeGainVal
import Derived.Test.YtjnmogmagngenaeInts
import Derived.Test.YtjnmogmagngenaeFrame
namespace Go.Proofs.Ytjnmogmagngenae.TopShapeLaw
open Go.ChangeShapes Go.WideShapes Go.ChangeAt Go.RowKit
open Go.Proofs.Ytjnmogmagngenae.Tre Go.Proofs.Ytjnmogmagngenae.Cnt Go.Proofs.Ytjnmogmagngenae.Pls Go.Proofs.Ytjnmogmagngenae.Mid Go.Proofs.Ytjnmogmagngenae.Nea Go.Proofs.Ytjnmogmagngenae.Same
set_option linter.unusedVariables false

theorem fact (w : World) : Calls Try.prog 11 #[.slice (some ⟨w.heap.size, 0, none⟩) 2 2] (w.alloc (.cells #[.int .i64 1, .int .i64 0] 3)) fun e w' => e = .returned (.tuple #[.int .i64 3, .nilIface]) ∧ Below w.heap.size w w' := by
  have hb : Below w.heap.size w (w.alloc (.cells #[.int .i64 1, .int .i64 0] 3)) := (Below.refl _ _).alloc (Nat.le_refl _) _
  have h := rank_ok (some ⟨w.heap.size, 0, none⟩) 2 [1, 0] (w.alloc (.cells #[.int .i64 1, .int .i64 0] 3)) (row_two w 1 0 3) (hide (by decide +kernel))
  have e : rk [1, 0] (loud [1, 0]) = 3 := by decide +kernel
  rw [e] at h
  exact h.mono fun e w' ⟨he, hb'⟩ => ⟨he, Below.chain hb hb'⟩
theorem one_ok (w : World) : Calls Try.prog 9 #[] w fun e w' => e = .returned (.bool true) ∧ Below w.heap.size w w' := by
  go_enter Try.func9, Try.ntmps9
  go_wp2_with fail
  refine (fact w).mono ?_
  rintro e w1 ⟨rfl, hb1⟩
  go_wp2
  go_ret
  exact ⟨rfl, hb1⟩

/-- What may be. -/
def Ways (v : List Int) (k : Int) : Prop := Hid (vf v ≠ 0) ∨ (Hid (vf v = 0) ∧ ((k < 0 ∨ (0 ≤ k ∧ 8 < k)) ∨ (∃ K : Nat, k = K ∧ 0 < K ∧ K ≤ 8 ∧ Hid (loud v = 0)) ∨ ∃ K : Nat, k = K ∧ K ≤ 8 ∧ Hid (K = 0 ∨ 0 < loud v)))
theorem ways (v : List Int) (k : Int) : Ways v k := by
  unfold Ways
  by_cases h : vf v = 0
  · refine Or.inr ⟨h, ?_⟩
    by_cases h1 : k < 0
    · exact Or.inl (Or.inl h1)
    · by_cases h2 : 8 < k
      · exact Or.inl (Or.inr ⟨by omega, h2⟩)
      · by_cases h3 : k.toNat = 0 ∨ 0 < loud v
        · exact Or.inr (Or.inr ⟨k.toNat, by omega, by omega, h3⟩)
        · exact Or.inr (Or.inl ⟨k.toNat, by omega, by omega, by omega, by show loud v = 0; omega⟩)
  · exact Or.inl h
theorem one_way (N K : Nat) (a : Int) : (a < 0 ∨ (0 ≤ a ∧ Hid (V K N ≤ a))) ∨ (0 ≤ a ∧ Hid (a < V K N)) := by
  by_cases h : a < 0
  · exact Or.inl (Or.inl h)
  · by_cases g : a < V K N
    · exact Or.inr ⟨by omega, g⟩
    · exact Or.inl (Or.inr ⟨by omega, by show V K N ≤ a; omega⟩)

set_option maxRecDepth 100000 in
set_option maxHeartbeats 16000000 in
theorem walk (a0 : Option Addr) (cap0 : Nat) (l0 : List Int) (k r : Int) (w : World) (hr0 : Row w a0 l0) (hw0 : ∀ n ∈ l0, (Lit.int .i64 n).wf = true) (hz0 : l0.length * 8 ≤ 140737488351232)
    (hwk : (Lit.int .i64 k).wf = true) (hwr : (Lit.int .i64 r).wf = true) :
    Calls Try.prog 4 #[.slice a0 l0.length cap0, .int .i64 k, .int .i64 r] w fun e w' => e = .returned (.bool true) ∧ Below w.heap.size w w' := by
  have hl0 : l0.length ≤ 9223372036854775807 := by omega
  have hwy := ways l0 k
  clear hw0 hz0 hwk hwr
  go_enter Try.func4, Try.ntmps4
  go_wp2_with fail
  refine (one_ok w).mono ?_
  rintro e w1 ⟨rfl, hb1⟩
  have hr1 := hr0.below hb1
  go_wp2_with fail
  rcases hwy with HF | ⟨HF, hk | ⟨K, rfl, hK0, hK8, HM⟩ | ⟨K, rfl, hK8, HM⟩⟩
  · refine (of_no a0 cap0 l0 k w1 hl0 hr1 HF).mono ?_
    rintro e w2 ⟨rfl, hb2⟩
    go_wp2
    go_ret
    exact ⟨rfl, Below.chain hb1 hb2⟩
  · refine (of_range a0 cap0 l0 k w1 hr1 HF hk).mono ?_
    rintro e w2 ⟨rfl, hb2⟩
    go_wp2
    go_ret
    exact ⟨rfl, Below.chain hb1 hb2⟩
  · refine (of_none a0 cap0 l0 K w1 hr1 HF hK0 hK8 HM).mono ?_
    rintro e w2 ⟨rfl, hb2⟩
    go_wp2
    go_ret
    exact ⟨rfl, Below.chain hb1 hb2⟩
  · refine (of_ok a0 cap0 l0 K w1 hr1 HF hK8 HM).mono ?_
    rintro e w2 ⟨q, l, rfl, hq, HN, hb2⟩
    have hB2 := Below.chain hb1 hb2
    have hr2 := hr1.below hb2
    obtain ⟨h6, hi⟩ := vf_ok (unhide HF)
    have HI := hide hi
    have hM6 := loud_in (b := 1000) hi
    have HLl := hide (unhide HN).len
    have HKl := hide ((unhide HN).loud (unhide HM))
    have h6l : l.length ≤ 6 := by rw [unhide HLl]; exact h6
    have h8l : loud l ≤ 8 := by rw [unhide HKl]; exact hK8
    have HFl : Hid (fault l = 0) := hide (fault_none h6l (loud_all (by rw [unhide HKl]; omega)) h8l)
    obtain ⟨i1, i2⟩ := rk_in l h6l h8l
    have hwi := (unhide HN).within (unhide HM)
    obtain ⟨pq, qq, rfl, rq⟩ := hq.row
    have c1 := fun W hr => rank_ok pq qq l W hr HFl
    have c3 := fun W hr hr' => far_ok a0 cap0 l0 pq qq l K W hr hr' HF HFl (hide (unhide HLl).symm) HKl
    have c4 := fun p q W hr hr' => ints_same p q pq qq l W (by omega) hr hr'
    have hIs : Is l0.length K (rk l K) l := ⟨unhide HLl, unhide HKl, rfl⟩
    obtain ⟨N, hN⟩ : ∃ N, l0.length = N := ⟨_, rfl⟩
    have HL0 := hide hN
    have HL : Hid (l.length = N) := hide ((unhide HLl).trans hN)
    rw [unhide HKl] at c1 i1 i2
    rw [unhide HL] at c1 c3 c4 i2 ⊢
    rw [hN] at c3 h6 hM6 hwi hIs ⊢
    obtain ⟨R, hR⟩ : ∃ R, rk l K = R := ⟨_, rfl⟩
    rw [hR] at c1 i1 i2 hIs
    have c2 := fun W => row_ok N K R h6 hK8 i1 (hide i2) W
    obtain ⟨D, hD⟩ : ∃ D, far l0 K l = D := ⟨_, rfl⟩
    rw [hD] at c3 hwi
    have HD := hide hD
    have HIs := hide hIs
    have C1 := hide c1
    have C2 := hide c2
    have C3 := hide c3
    have C4 := hide c4
    have HM6 := hide hM6
    have HWI := hide hwi
    clear c1 c2 c3 c4 hD hR hN hb1 hb2 hr1 hq hl0 HLl hr0 i1 i2 hIs hM6 hwi hi h6l h8l
    go_wp2_with fail
    refine (unhide C1 w2 rq).mono ?_
    rintro e w3 ⟨rfl, hb3⟩
    have hB3 := Below.chain hB2 hb3
    have hr3 := hr2.below hb3
    have rq3 := rq.below hb3
    clear C1 hB2 hr2 rq hb3
    go_wp2_with fail
    refine (unhide C2 w3).mono ?_
    rintro e w4 ⟨v4, l4, rfl, h4, H4, hb4⟩
    have hB4 := Below.chain hB3 hb4
    have hr4 := hr3.below hb4
    have rq4 := rq3.below hb4
    have e4 : l4 = l := Is.one h6 hK8 (unhide HIs) (unhide H4)
    subst e4
    obtain ⟨p4, q4, rfl, r4⟩ := h4.row
    rw [unhide HL]
    clear C2 hB3 hr3 rq3 hb4 h4
    go_wp2_with fail
    refine (unhide C3 w4 hr4 rq4).mono ?_
    rintro e w5 ⟨rfl, hb5⟩
    have hB5 := Below.chain hB4 hb5
    have hr5 := hr4.below hb5
    have rq5 := rq4.below hb5
    have r5 := r4.below hb5
    clear C3 hB4 hr4 rq4 hb5 r4
    go_wp2_with fail
    refine (unhide C4 p4 q4 w5 r5 rq5).mono ?_
    rintro e w6 ⟨rfl, hb6⟩
    have hB6 := Below.chain hB5 hb6
    have hr6 := hr5.below hb6
    clear C4 hB5 hr5 rq5 hb6 r5
    go_wp2
    go_loopw [16, 17] (fun t i wr => ∃ j T : Nat, j ≤ N ∧ i = .int .i64 j ∧ t = .int .i64 T ∧ Hid (T = loud (l0.take j)) ∧ T ≤ 6000 ∧ wr = w6) (fun _ i _ => N - (intOf i).toNat)
    case atStart => exact ⟨0, 0, Nat.zero_le _, rfl, rfl, rfl, by omega, rfl⟩
    case round =>
      obtain ⟨j, T, hj, rfl, rfl, HT, hT, rfl⟩ := hrel
      by_cases hlt : j < N
      · have hlt' : j < l0.length := by rw [unhide HL0]; exact hlt
        obtain ⟨b, off, rfl, hb, hc⟩ := row_cell hr6 (by omega)
        have c1 := hc j hlt'
        have eX : at0 l0 j = l0[j] := by simp [at0, hlt']
        have HS : Hid (T + l0[j].natAbs = loud (l0.take (j + 1))) := hide (by rw [loud_step hlt', unhide HT])
        have HB : Hid (T + l0[j].natAbs ≤ 6000) := hide (by
          have h1 := loud_in (b := 1000) ((unhide HI).take (j + 1))
          rw [← unhide HS] at h1
          have h2 := List.length_take_le (j + 1) l0
          omega)
        rw [eX] at c1
        obtain ⟨X, hX⟩ : ∃ X, l0[j] = X := ⟨_, rfl⟩
        rw [hX] at c1 HS HB
        have hB' := unhide HB
        have hj1 : j + 1 ≤ N := by omega
        clear hc hX eX hlt'
        by_cases hx : X < 0
        · have hS2 : T + X.natAbs = (T : Int) - X := by omega
          go_wp2
          go_roundw
          case rel => exact ⟨j + 1, T + X.natAbs, by omega, by go_num, congrArg (Value.int IntKind.i64) (by omega), HS, hB', by first | trivial | rfl⟩
          case measure => simp [intOf]; omega
        · have hS2 : T + X.natAbs = (T : Int) + X := by omega
          go_wp2
          go_roundw
          case rel => exact ⟨j + 1, T + X.natAbs, by omega, by go_num, congrArg (Value.int IntKind.i64) (by omega), HS, hB', by first | trivial | rfl⟩
          case measure => simp [intOf]; omega
      · obtain rfl : j = N := by omega
        have HT2 : Hid (loud l0 = T) := hide (by rw [unhide HT, List.take_of_length_le (by rw [unhide HL0]; exact Nat.le_refl _)])
        obtain ⟨g1, g2, g3, g4⟩ := Gai.gi_near (n := T) (by omega)
        have c1 := fun W => Gai.index_ok T (by omega) W
        have c2 := fun W => Gai.value_ok (Gai.gi T) g1 (hide g2) W
        have hv1 : Gai.vl (Gai.gi T) ≤ 2 * T := by omega
        obtain ⟨G, hG⟩ : ∃ G, Gai.gi T = G := ⟨_, rfl⟩
        rw [hG] at c1 c2 hv1
        obtain ⟨Y, hY⟩ : ∃ Y, Gai.vl G = Y := ⟨_, rfl⟩
        rw [hY] at c2 hv1
        have hwi := unhide HWI
        rw [unhide HT2] at hwi
        have hmn : T * j ≤ 36000 := Nat.mul_le_mul hT h6
        obtain ⟨Z, hZ⟩ : ∃ Z, T * j = Z := ⟨_, rfl⟩
        have hZ' : (T : Int) * (j : Int) = (Z : Int) := by rw [← hZ]; simp
        rw [hZ] at hwi hmn
        have C1 := hide c1
        have C2 := hide c2
        clear c1 c2 hG hY g1 g2 g3 g4 hZ HT
        go_wp2_with fail
        refine (unhide C1 wr).mono ?_
        rintro e w7 ⟨rfl, rfl⟩
        go_wp2_with fail
        refine (unhide C2 _).mono ?_
        rintro e w7 ⟨rfl, rfl⟩
        clear C1 C2
        rcases one_way j K r with wa | ⟨ha, HA⟩
        · have c5 := fun W => row_out j K r h6 hK8 wa W
          go_wp2_with fail
          refine (c5 _).mono ?_
          clear c5
          rintro e w8 ⟨rfl, hb8⟩
          go_wp2
          go_ret
          exact ⟨rfl, Below.chain hB6 hb8⟩
        · have c5 := fun W => row_ok j K r h6 hK8 ha HA W
          go_wp2_with fail
          refine (c5 _).mono ?_
          clear c5
          rintro e w8 ⟨v8, l8, rfl, h8, H8, hb8⟩
          have hB8 := Below.chain hB6 hb8
          have hr8 := hr6.below hb8
          obtain ⟨p8, q8, rfl, r8⟩ := h8.row
          obtain ⟨i1, i2, i3⟩ := unhide H8
          have c6 := far_ok a0 cap0 l0 p8 q8 l8 K w8 hr8 r8 HF (is_right h6 hK8 (unhide H8)) (hide ((unhide HL0).trans i1.symm)) i2
          have hbest := (unhide HN).best (unhide HM) (i1.trans (unhide HL0).symm) i2
          rw [unhide HD] at hbest
          rw [unhide HL0, i1] at c6
          rw [i1]
          obtain ⟨D8, hD8⟩ : ∃ D8, far l0 K l8 = D8 := ⟨_, rfl⟩
          rw [hD8] at c6 hbest
          have hbz : (D : Int) ≤ (D8 : Int) := by omega
          clear hD8 i1 i2 i3 hbest
          go_wp2_with fail
          refine c6.mono ?_
          clear c6
          rintro e w9 ⟨rfl, hb9⟩
          go_wp2
          go_ret
          exact ⟨by first | rfl | (simp; omega), Below.chain hB8 hb9⟩

set_option maxRecDepth 100000 in
theorem lifted (os : Os) (started : os.Started) (H : Type) (enc : TypeId × Value → H) :
    ReturnsInHanded {} Try.checked os 4 .any (Rows.topShapeSpec.pre6 enc Try.prog Try.f4 Rows.topShapeRow.domain false) (Rows.topShapeSpec.post enc Try.prog Try.f4 false true false false) := by
  refine returnsInHanded_of_change_sized (C := Try.checked) own started (by kernel_rfl) Try.func4
    (ChangeSpec.witness6 (enc := enc) (C := Try.checked) false ⟨#[], #[.slice none 0 0, .int .i64 0, .int .i64 0], []⟩ 8 (by kernel_rfl) (by kernel_rfl) (by kernel_rfl) (by kernel_rfl)) ?_
  intro W base args ds gs before hval0 hW hcnd hsz0 _
  have hsz : (DataW.weightsEach Try.prog (Try.f4.params.toList ++ Rows.topShapeSpec.plain.varTypes Try.prog) (ds ++ gs)).all (· ≤ reachBytes) = true := hsz0
  have hval : ∀ (j : Nat) t v, Try.f4.params[j]? = some t → args[j]? = some v → Value.okWide Try.prog W .any base t v := hval0
  have hW' := hW
  obtain ⟨p, q, hA0, hV, rfl, hfz, hnd⟩ := hW
  have hA : DataW.TrodAll enc Try.prog W 0 (fun _ => true) true Try.f4.params.toList args.toList ds p := hA0
  rw [Try.params4] at hA hval hsz
  obtain ⟨v0, vs0, d0, ds0, p0, q0, hargs, rfl, rfl, h0, r0⟩ := trodAll_cons hA
  obtain ⟨v1, vs1, d1, ds1, p1, q1, rfl, rfl, rfl, h1, r1⟩ := trodAll_cons r0
  obtain ⟨v2, vs2, d2, ds2, p2, q2, rfl, rfl, rfl, h2, r2⟩ := trodAll_cons r1
  obtain ⟨rfl, rfl, rfl⟩ := trodAll_nil r2
  obtain rfl : args = #[v0, v1, v2] := by cases args; simp_all
  obtain ⟨rfl, rfl⟩ := trodVars_none hV
  obtain ⟨a0, len0, cap0, rfl⟩ := okWide_slice Try.underlying27 (hval 0 27 v0 rfl rfl)
  have k0 := h0
  have lt0 : ∀ x ∈ p0, x.block < W.heap.size := by obtain ⟨m, hm⟩ := k0; exact DataW.trod_lt m _ _ _ hm
  obtain ⟨l0, hlen0, hr0, hw0, hz0⟩ := open_row h0 (fun e s hd => sized_slice hsz (j := 0) (t := 27) (e := 3) rfl (by rw [hd]; rfl) Try.underlying27)
  subst hlen0
  obtain ⟨n1, rfl, rfl, rfl, hw1⟩ := open_int Try.underlying3 (hval 1 3 v1 rfl rfl) h1
  obtain ⟨n2, rfl, rfl, rfl, hw2⟩ := open_int Try.underlying3 (hval 2 3 v2 rfl rfl) h2
  clear hA0 hval0 hsz0
  refine (walk a0 cap0 l0 n1 n2 W hr0 hw0 hz0 hw1 hw2).mono fun e W' ⟨he, bel⟩ => ?_
  subst he
  exact ⟨_, rfl, _, _, _, [], _, [], hW', trodAll_mk1 (shut_bool Try.underlying4 _), (trodAll_cons_mk (Below.trod laidOut (by kernel_rfl) (of_decide_eq_true (by kernel_rfl)) k0 bel lt0) (trodAll_cons_mk (shut_int Try.underlying3 hw1) (trodAll_cons_mk (shut_int Try.underlying3 hw2) trodAll_mk0))), rfl, bel.frame _, fun h => by cases h⟩
end Go.Proofs.Ytjnmogmagngenae.TopShapeLaw
namespace Go.Proofs.Ytjnmogmagngenae
open Go.ChangeShapes Go.WideShapes Go.ChangeAt Go.RowKit

theorem topShape_holds : Rows.TopShapeSaid :=
  OpenClaim.holds_of_wide 4 Try.f4 rfl rfl rfl rfl rfl rfl rfl ⟨rfl, rfl, rfl, rfl, rfl⟩ rfl rfl rfl rfl rfl (by kernel_rfl) Try.func4 (by kernel_rfl)
    (of_decide_eq_true (by kernel_rfl)) (by unfold Func.isWrapper; first | (rw [if_pos (by decide +kernel)]; kernel_rfl) | (rw [if_neg (by decide +kernel)]; exact ⟨rfl, rfl⟩))
    (fun os started H enc _ => TopShapeLaw.lifted os started H enc)
end Go.Proofs.Ytjnmogmagngenae
