/-
  It is proved that hornlaw1.PulseOnce returns true for every row and every four numbers: a row is the one of its rank, and a rank that of its row; of a lesser rank is who has the lesser number where two first differ. No condition but the form's own reach.
-/
import Derived.Test.YtjnmogmagngenacPulseTwo
import Derived.Test.YtjnmogmagngenacPulseRow
import Derived.Test.YtjnmogmagngenacInts
import Derived.Test.YtjnmogmagngenacFrame
namespace Go.Proofs.Ytjnmogmagngenac.PulseOnceLaw
open Go.ChangeShapes Go.WideShapes Go.ChangeAt Go.RowKit
open Go.Proofs.Ytjnmogmagngenac.Tre Go.Proofs.Ytjnmogmagngenac.Cnt Go.Proofs.Ytjnmogmagngenac.Pls Go.Proofs.Ytjnmogmagngenac.Same Go.Proofs.Ytjnmogmagngenac.Mid
set_option linter.unusedVariables false

theorem fact (w : World) : Calls Try.prog 8 #[.slice (some ⟨w.heap.size, 0, none⟩) 2 2] (w.alloc (.cells #[.int .i64 0, .int .i64 1] 3)) fun e w' => e = .returned (.tuple #[.int .i64 2, .nilIface]) ∧ Below w.heap.size w w' := by
  have hb : Below w.heap.size w (w.alloc (.cells #[.int .i64 0, .int .i64 1] 3)) := (Below.refl _ _).alloc (Nat.le_refl _) _
  have h := rank_ok (some ⟨w.heap.size, 0, none⟩) 2 [0, 1] (w.alloc (.cells #[.int .i64 0, .int .i64 1] 3)) (row_two w 0 1 3) (hide (by decide +kernel))
  have e : rk [0, 1] (loud [0, 1]) = 2 := by decide +kernel
  rw [e] at h
  exact h.mono fun e w' ⟨he, hb'⟩ => ⟨he, Below.chain hb hb'⟩

/-- Of two ranks: which there are not, or the rows. -/
def Two (n k a b : Int) : Prop := (Hid (wide n 6 = true) ∨ (Hid (wide n 6 = false) ∧ Hid (wide k 8 = true))) ∨
  ∃ N K : Nat, n = N ∧ k = K ∧ N ≤ 6 ∧ K ≤ 8 ∧ ((a < 0 ∨ (0 ≤ a ∧ Hid (V K N ≤ a))) ∨ (0 ≤ a ∧ Hid (a < V K N))) ∧ ((b < 0 ∨ (0 ≤ b ∧ Hid (V K N ≤ b))) ∨ (0 ≤ b ∧ Hid (b < V K N)))
theorem one_way (N K : Nat) (a : Int) : (a < 0 ∨ (0 ≤ a ∧ Hid (V K N ≤ a))) ∨ (0 ≤ a ∧ Hid (a < V K N)) := by
  by_cases h : a < 0
  · exact Or.inl (Or.inl h)
  · by_cases g : a < V K N
    · exact Or.inr ⟨by omega, g⟩
    · exact Or.inl (Or.inr ⟨by omega, by show V K N ≤ a; omega⟩)
theorem two (n k a b : Int) : Two n k a b := by
  unfold Two
  rcases wide_or n 6 with h | ⟨h, h0, h1⟩
  · exact Or.inl (Or.inl h)
  · rcases wide_or k 8 with g | ⟨g, g0, g1⟩
    · exact Or.inl (Or.inr ⟨h, g⟩)
    · exact Or.inr ⟨n.toNat, k.toNat, by omega, by omega, by omega, by omega, one_way _ _ _, one_way _ _ _⟩

set_option maxRecDepth 100000 in
set_option maxHeartbeats 16000000 in
theorem walk (a0 : Option Addr) (cap0 : Nat) (l0 : List Int) (n k a b : Int) (w : World) (hr0 : Row w a0 l0) (hw0 : ∀ n ∈ l0, (Lit.int .i64 n).wf = true) (hz0 : l0.length * 8 ≤ 140737488351232)
    (hwn : (Lit.int .i64 n).wf = true) (hwk : (Lit.int .i64 k).wf = true) (hwa : (Lit.int .i64 a).wf = true) (hwb : (Lit.int .i64 b).wf = true) :
    Calls Try.prog 5 #[.slice a0 l0.length cap0, .int .i64 n, .int .i64 k, .int .i64 a, .int .i64 b] w fun e w' => e = .returned (.bool true) ∧ Below w.heap.size w w' := by
  have h2 := two n k a b
  have hv : Hid (fault l0 ≠ 0) ∨ (Hid (fault l0 = 0) ∧ ∃ (K : Nat) (R C : Int), Hid (loud l0 = K) ∧ Hid (rk l0 K = R) ∧ Hid (V K l0.length = C) ∧ l0.length ≤ 6 ∧ K ≤ 8 ∧ 0 ≤ R ∧ R < C) := by
    by_cases h : fault l0 = 0
    · obtain ⟨g1, g2, g3⟩ := fault_ok h
      obtain ⟨i1, i2⟩ := rk_in l0 g1 g3
      exact Or.inr ⟨h, _, _, _, rfl, rfl, rfl, g1, g3, i1, i2⟩
    · exact Or.inl h
  clear hw0 hwn hwk hwa hwb
  have hl0 : l0.length ≤ 9223372036854775807 := by omega
  rcases hv with HF | ⟨HF, K0, R0, C0, HK, HR, HC, f6, f8, fr0, fr1⟩
  all_goals
    go_enter Try.func5, Try.ntmps5
    go_wp2_with fail
    refine (fact w).mono ?_
    rintro e w1 ⟨rfl, hb1⟩
    have hr1 := hr0.below hb1
    go_wp2_with fail
  all_goals (first
    | (refine (check_no a0 cap0 l0 w1 hl0 hr1 HF).mono ?_
       rintro e W ⟨rfl, hb2⟩
       have hB := Below.chain hb1 hb2
       clear hb1 hb2 hr1 HF
       go_wp2_with fail)
    | (have c1 := check_ok a0 cap0 l0 w1 hr1 HF
       rw [unhide HK] at c1
       refine c1.mono ?_
       clear c1
       rintro e w2 ⟨rfl, hb2⟩
       have hB2 := Below.chain hb1 hb2
       have hr2 := hr1.below hb2
       have c2 := rank_ok a0 cap0 l0 w2 hr2 HF
       rw [unhide HK, unhide HR] at c2
       go_wp2_with fail
       refine c2.mono ?_
       clear c2
       rintro e w3 ⟨rfl, hb3⟩
       have hB3 := Below.chain hB2 hb3
       have hr3 := hr2.below hb3
       clear hB2 hr2 hb2 hb1 hr1
       go_wp2_with fail
       refine (row_ok l0.length K0 R0 f6 f8 fr0 (hide (by rw [unhide HC]; exact fr1)) w3).mono ?_
       rintro e w4 ⟨v4, l4, rfl, h4, HI, hb4⟩
       have hB4 := Below.chain hB3 hb4
       have hr4 := hr3.below hb4
       have e4 : l4 = l0 := Is.one f6 f8 ⟨rfl, unhide HK, unhide HR⟩ (unhide HI)
       subst e4
       obtain ⟨p4, q4, rfl, r4⟩ := h4.row
       clear hB3 hr3 hb3 h4
       have c5 := of_ok l4.length K0 f6 f8 w4
       rw [unhide HC] at c5
       go_wp2_with fail
       refine c5.mono ?_
       clear c5
       rintro e w5 ⟨rfl, hb5⟩
       have hB5 := Below.chain hB4 hb5
       have hr5 := hr4.below hb5
       have r5 := r4.below hb5
       clear hB4 hr4 hb4 r4
       go_wp2_with fail
       refine (ints_same p4 q4 a0 cap0 l4 w5 hl0 r5 hr5).mono ?_
       rintro e W ⟨rfl, hb6⟩
       have hB := Below.chain hB5 hb6
       clear hB5 hb6 hr5 r5 hb5 HI HF HK HR HC
       go_wp2_with fail))
  all_goals
    clear hr0 hz0
    rcases h2 with HN | ⟨N, K, rfl, rfl, hN, hK, wa, wb⟩
    · refine (row_no n k a W HN).mono ?_
      rintro e w7 ⟨rfl, hb7⟩
      go_wp2_with fail
      refine (row_no n k b w7 HN).mono ?_
      rintro e w8 ⟨rfl, hb8⟩
      go_wp2
      go_ret
      exact ⟨rfl, Below.chain hB (Below.chain hb7 hb8)⟩
    · rcases wa with wa | ⟨ha, HA⟩
      · refine (row_out N K a hN hK wa W).mono ?_
        rintro e w7 ⟨rfl, hb7⟩
        go_wp2_with fail
        rcases wb with wb | ⟨hb, HB⟩
        · refine (row_out N K b hN hK wb w7).mono ?_
          rintro e w8 ⟨rfl, hb8⟩
          go_wp2
          go_ret
          exact ⟨rfl, Below.chain hB (Below.chain hb7 hb8)⟩
        · refine (row_ok N K b hN hK hb HB w7).mono ?_
          rintro e w8 ⟨v8, l8, rfl, h8, H8, hb8⟩
          go_wp2
          go_ret
          exact ⟨rfl, Below.chain hB (Below.chain hb7 hb8)⟩
      · refine (row_ok N K a hN hK ha HA W).mono ?_
        rintro e w7 ⟨v7, l7, rfl, h7, H7, hb7⟩
        go_wp2_with fail
        rcases wb with wb | ⟨hb, HB⟩
        · refine (row_out N K b hN hK wb w7).mono ?_
          rintro e w8 ⟨rfl, hb8⟩
          go_wp2
          go_ret
          exact ⟨rfl, Below.chain hB (Below.chain hb7 hb8)⟩
        · refine (row_ok N K b hN hK hb HB w7).mono ?_
          rintro e w8 ⟨v8, l8, rfl, h8, H8, hb8⟩
          have hB8 := Below.chain hB (Below.chain hb7 hb8)
          obtain ⟨p7, q7, rfl, r7'⟩ := h7.row
          have r7 := r7'.below hb8
          obtain ⟨p8, q8, rfl, r8⟩ := h8.row
          have c9 := fun X hr => rank_ok p7 q7 l7 X hr (is_right hN hK (unhide H7))
          have c10 := fun X hr => check_ok p7 q7 l7 X hr (is_right hN hK (unhide H7))
          have L7 := hide (unhide H7).1
          have L8 := hide (unhide H8).1
          rw [(unhide H7).2.1] at c9 c10
          rw [(unhide H7).2.2] at c9
          rw [unhide L7] at c9 c10 ⊢
          rw [unhide L8]
          have C9 := hide c9
          have C10 := hide c10
          have eN : ((N : Int) == (N : Int)) = true := by simp
          have eK : ((K : Int) == (K : Int)) = true := by simp
          have eA : (a == a) = true := by simp
          clear c9 c10 hB hb7 hb8 h7 h8 r7' HA HB
          go_wp2_with fail
          refine (unhide C9 w8 r7).mono ?_
          rintro e w9 ⟨rfl, hb9⟩
          have hB9 := Below.chain hB8 hb9
          go_wp2_with fail
          refine (unhide C10 w9 (r7.below hb9)).mono ?_
          rintro e w10 ⟨rfl, hb10⟩
          have hB10 := Below.chain hB9 hb10
          have s7 := (r7.below hb9).below hb10
          have s8 := (r8.below hb9).below hb10
          clear hB8 hb9 hB9 hb10 r7 r8 C9 C10
          go_wp2
          go_loopw [27] (fun i wr => ∃ j q : Nat, j ≤ N ∧ i = .int .i64 j ∧ Hid (l7.take j = l8.take j) ∧ wr = w10.drewN q) (fun i _ => N - (intOf i).toNat)
          case atStart => exact ⟨0, 0, Nat.zero_le _, rfl, rfl, rfl⟩
          case round =>
            obtain ⟨j, q, hj, rfl, HT, rfl⟩ := hrel
            by_cases hlt : j < N
            · obtain ⟨b7, o7, rfl, hb7, hc7⟩ := row_cell s7 (by rw [unhide L7]; omega)
              obtain ⟨b8, o8, rfl, hb8, hc8⟩ := row_cell s8 (by rw [unhide L8]; omega)
              have c7 := hc7 j (by rw [unhide L7]; omega)
              have c8 := hc8 j (by rw [unhide L8]; omega)
              clear hc7 hc8
              have hlow : Hid (at0 l7 j < at0 l8 j → a < b) := hide (first_diff hN hK (unhide H7) (unhide H8) hlt (unhide HT))
              have hupp : Hid (at0 l8 j < at0 l7 j → b < a) := hide (first_diff hN hK (unhide H8) (unhide H7) hlt (unhide HT).symm)
              have hnx : Hid (at0 l7 j = at0 l8 j → l7.take (j + 1) = l8.take (j + 1)) := hide (fun e => by
                have g7 : j < l7.length := by rw [unhide L7]; exact hlt
                have g8 : j < l8.length := by rw [unhide L8]; exact hlt
                refine same_step g7 g8 (unhide HT) ?_
                simpa [at0, g7, g8] using e)
              obtain ⟨X, hX⟩ : ∃ X, at0 l7 j = X := ⟨_, rfl⟩
              obtain ⟨Y, hY⟩ : ∃ Y, at0 l8 j = Y := ⟨_, rfl⟩
              rw [hX] at c7 hlow hupp hnx
              rw [hY] at c8 hlow hupp hnx
              clear hX hY
              by_cases heq : X = Y
              · subst heq
                have HN := hide (unhide hnx rfl)
                have eX : (X == X) = true := by simp
                clear hnx hlow hupp
                go_wp2
                go_quiet (fail)
                go_wp2
                go_roundw
                case rel => exact ⟨j + 1, q + nq, by omega, by go_num, HN, rfl⟩
                case measure => simp [intOf]; omega
              · have eX : (X == Y) = false := by simp [heq]
                by_cases hXY : X < Y
                · have hab := unhide hlow hXY
                  clear hlow hupp heq hnx
                  go_wp2
                  go_quiet (fail)
                  go_wp2
                  go_quiet (fail)
                  go_wp2
                  go_ret
                  refine ⟨?_, below_drewN (below_drewN (below_drewN hB10 _) _) _⟩
                  first | rfl | (simp; done) | (simp; omega)
                · have hab := unhide hupp (by omega)
                  clear hlow hupp heq hnx
                  go_wp2
                  go_quiet (fail)
                  go_wp2
                  go_quiet (fail)
                  go_wp2
                  go_ret
                  refine ⟨?_, below_drewN (below_drewN (below_drewN hB10 _) _) _⟩
                  first | rfl | (simp; done) | (simp; omega)
            · obtain rfl : j = N := by omega
              have e : l7 = l8 := by
                have := unhide HT
                rwa [List.take_of_length_le (by rw [unhide L7]; exact Nat.le_refl _), List.take_of_length_le (by rw [unhide L8]; exact Nat.le_refl _)] at this
              subst e
              obtain rfl := (unhide H7).rank (unhide H8)
              go_wp2
              go_ret
              exact ⟨rfl, below_drewN hB10 _⟩

set_option maxRecDepth 100000 in
theorem lifted (os : Os) (started : os.Started) (H : Type) (enc : TypeId × Value → H) :
    ReturnsInHanded {} Try.checked os 5 .any (Rows.pulseOnceSpec.pre6 enc Try.prog Try.f5 Rows.pulseOnceRow.domain false) (Rows.pulseOnceSpec.post enc Try.prog Try.f5 false true false false) := by
  refine returnsInHanded_of_change_sized (C := Try.checked) own started (by kernel_rfl) Try.func5
    (ChangeSpec.witness6 (enc := enc) (C := Try.checked) false ⟨#[], #[.slice none 0 0, .int .i64 0, .int .i64 0, .int .i64 0, .int .i64 0], []⟩ 8 (by kernel_rfl) (by kernel_rfl) (by kernel_rfl) (by kernel_rfl)) ?_
  intro W base args ds gs before hval0 hW hcnd hsz0 _
  have hsz : (DataW.weightsEach Try.prog (Try.f5.params.toList ++ Rows.pulseOnceSpec.plain.varTypes Try.prog) (ds ++ gs)).all (· ≤ reachBytes) = true := hsz0
  have hval : ∀ (j : Nat) t v, Try.f5.params[j]? = some t → args[j]? = some v → Value.okWide Try.prog W .any base t v := hval0
  have hW' := hW
  obtain ⟨p, q, hA0, hV, rfl, hfz, hnd⟩ := hW
  have hA : DataW.TrodAll enc Try.prog W 0 (fun _ => true) true Try.f5.params.toList args.toList ds p := hA0
  rw [Try.params5] at hA hval hsz
  obtain ⟨v0, vs0, d0, ds0, p0, q0, hargs, rfl, rfl, h0, r0⟩ := trodAll_cons hA
  obtain ⟨v1, vs1, d1, ds1, p1, q1, rfl, rfl, rfl, h1, r1⟩ := trodAll_cons r0
  obtain ⟨v2, vs2, d2, ds2, p2, q2, rfl, rfl, rfl, h2, r2⟩ := trodAll_cons r1
  obtain ⟨v3, vs3, d3, ds3, p3, q3, rfl, rfl, rfl, h3, r3⟩ := trodAll_cons r2
  obtain ⟨v4, vs4, d4, ds4, p4, q4, rfl, rfl, rfl, h4, r4⟩ := trodAll_cons r3
  obtain ⟨rfl, rfl, rfl⟩ := trodAll_nil r4
  obtain rfl : args = #[v0, v1, v2, v3, v4] := by cases args; simp_all
  obtain ⟨rfl, rfl⟩ := trodVars_none hV
  obtain ⟨a0, len0, cap0, rfl⟩ := okWide_slice Try.underlying27 (hval 0 27 v0 rfl rfl)
  have k0 := h0
  have lt0 : ∀ x ∈ p0, x.block < W.heap.size := by obtain ⟨m, hm⟩ := k0; exact DataW.trod_lt m _ _ _ hm
  obtain ⟨l0, hlen0, hr0, hw0, hz0⟩ := open_row h0 (fun e s hd => sized_slice hsz (j := 0) (t := 27) (e := 3) rfl (by rw [hd]; rfl) Try.underlying27)
  subst hlen0
  obtain ⟨n1, rfl, rfl, rfl, hw1⟩ := open_int Try.underlying3 (hval 1 3 v1 rfl rfl) h1
  obtain ⟨n2, rfl, rfl, rfl, hw2⟩ := open_int Try.underlying3 (hval 2 3 v2 rfl rfl) h2
  obtain ⟨n3, rfl, rfl, rfl, hw3⟩ := open_int Try.underlying3 (hval 3 3 v3 rfl rfl) h3
  obtain ⟨n4, rfl, rfl, rfl, hw4⟩ := open_int Try.underlying3 (hval 4 3 v4 rfl rfl) h4
  clear hA0 hval0 hsz0
  refine (walk a0 cap0 l0 n1 n2 n3 n4 W hr0 hw0 hz0 hw1 hw2 hw3 hw4).mono fun e W' ⟨he, bel⟩ => ?_
  subst he
  exact ⟨_, rfl, _, _, _, [], _, [], hW', trodAll_mk1 (shut_bool Try.underlying4 _), (trodAll_cons_mk (Below.trod laidOut (by kernel_rfl) (of_decide_eq_true (by kernel_rfl)) k0 bel lt0) (trodAll_cons_mk (shut_int Try.underlying3 hw1) (trodAll_cons_mk (shut_int Try.underlying3 hw2) (trodAll_cons_mk (shut_int Try.underlying3 hw3) (trodAll_cons_mk (shut_int Try.underlying3 hw4) trodAll_mk0))))), rfl, bel.frame _, fun h => by cases h⟩
end Go.Proofs.Ytjnmogmagngenac.PulseOnceLaw
namespace Go.Proofs.Ytjnmogmagngenac
open Go.ChangeShapes Go.WideShapes Go.ChangeAt Go.RowKit

theorem pulseOnce_holds : Rows.PulseOnceSaid :=
  OpenClaim.holds_of_wide 5 Try.f5 rfl rfl rfl rfl rfl rfl rfl ⟨rfl, rfl, rfl, rfl, rfl⟩ rfl rfl rfl rfl rfl (by kernel_rfl) Try.func5 (by kernel_rfl)
    (of_decide_eq_true (by kernel_rfl)) (by unfold Func.isWrapper; first | (rw [if_pos (by decide +kernel)]; kernel_rfl) | (rw [if_neg (by decide +kernel)]; exact ⟨rfl, rfl⟩))
    (fun os started H enc _ => PulseOnceLaw.lifted os started H enc)
end Go.Proofs.Ytjnmogmagngenac
