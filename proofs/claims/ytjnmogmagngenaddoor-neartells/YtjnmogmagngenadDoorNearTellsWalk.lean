/-
  The walk of hornlaw1.NearTells.
-/
import Derived.Test.YtjnmogmagngenadDoorNearOf
import Derived.Test.YtjnmogmagngenadDoorNearFar
import Derived.Test.YtjnmogmagngenadDoorRefNear
import Derived.Test.YtjnmogmagngenadDoorInts
import Derived.Test.YtjnmogmagngenadDoorTold
namespace Go.Proofs.YtjnmogmagngenadDoor.NearTellsLaw
open Go.RowKit
open Go.Proofs.YtjnmogmagngenadDoor.Tre Go.Proofs.YtjnmogmagngenadDoor.Pls Go.Proofs.YtjnmogmagngenadDoor.Same Go.Proofs.YtjnmogmagngenadDoor.Aser Go.Proofs.YtjnmogmagngenadDoor.Nea Go.Proofs.YtjnmogmagngenadDoor.Mid
set_option linter.unusedVariables false

theorem ints_nil (w : World) : Calls Tryd.prog 14 #[.slice none 0 0, .slice none 0 0] w fun e w' => e = .returned (.bool true) ∧ Below w.heap.size w w' :=
  ints_same none 0 none 0 [] w (by simp) (Or.inl rfl) (Or.inl rfl)

theorem refSnd_no (a : Option Addr) (cap : Nat) (l : List Int) (w : World) (h6 : l.length ≤ 6) (hr : Row w a l) (h : Hid (l.any (out 1000) = true)) :
    Calls Tryd.prog 10 #[.slice a l.length cap] w fun e w' => e = .returned (.int .i64 1) ∧ w = w' := by
  go_enter Tryd.func10, Tryd.ntmps10
  go_wp2_with fail
  refine (refAll 1000 a cap l w (by omega) (by omega) (by omega) hr).mono ?_
  rw [unhide h]
  rintro e w1 ⟨rfl, rfl⟩
  go_wp2
  go_ret
  exact ⟨rfl, rfl⟩
theorem refSnd_ok (a : Option Addr) (cap : Nat) (l : List Int) (w : World) (h6 : l.length ≤ 6) (hr : Row w a l) (h : Hid (l.any (out 1000) = false)) :
    Calls Tryd.prog 10 #[.slice a l.length cap] w fun e w' => e = .returned (.int .i64 0) ∧ w = w' := by
  go_enter Tryd.func10, Tryd.ntmps10
  go_wp2_with fail
  refine (refAll 1000 a cap l w (by omega) (by omega) (by omega) hr).mono ?_
  rw [unhide h]
  rintro e w1 ⟨rfl, rfl⟩
  go_wp2
  go_ret
  exact ⟨rfl, rfl⟩

/-- Of numbers and how many pulses are wanted: what may be. -/
def Ways1 (v : List Int) (k : Int) : Prop :=
  (6 < v.length ∧ Hid (vf v = 4)) ∨ (v.length ≤ 6 ∧ Hid (v.any (out 1000) = true) ∧ Hid (vf v = 1)) ∨
  (v.length ≤ 6 ∧ Hid (v.any (out 1000) = false) ∧ Hid (vf v = 0) ∧ ((k < 0 ∧ k ≤ 8) ∨ (0 ≤ k ∧ 8 < k) ∨ (∃ K : Nat, k = K ∧ 0 < K ∧ K ≤ 8 ∧ Hid (loud v = 0)) ∨ k = 0 ∨ ∃ K M : Nat, k = K ∧ 0 < K ∧ K ≤ 8 ∧ Hid (loud v = M) ∧ Hid (K = 0 ∨ 0 < loud v) ∧ ((M : Int) == 0) = false))
theorem ways1 (v : List Int) (k : Int) : Ways1 v k := by
  unfold Ways1
  by_cases h1 : 6 < v.length
  · exact Or.inl ⟨h1, by show vf v = 4; unfold vf; rw [if_pos h1]⟩
  · cases h2 : v.any (out 1000) with
    | true => exact Or.inr (Or.inl ⟨by omega, rfl, by show vf v = 1; unfold vf; rw [if_neg h1, if_pos h2]⟩)
    | false =>
      refine Or.inr (Or.inr ⟨by omega, rfl, by show vf v = 0; unfold vf; rw [if_neg h1, if_neg (by rw [h2]; simp)], ?_⟩)
      by_cases h3 : k < 0
      · exact Or.inl ⟨h3, by omega⟩
      · by_cases h4 : 8 < k
        · exact Or.inr (Or.inl ⟨by omega, h4⟩)
        · by_cases h5 : k = 0
          · exact Or.inr (Or.inr (Or.inr (Or.inl h5)))
          · by_cases h6 : loud v = 0
            · exact Or.inr (Or.inr (Or.inl ⟨k.toNat, by omega, by omega, by omega, h6⟩))
            · exact Or.inr (Or.inr (Or.inr (Or.inr ⟨k.toNat, loud v, by omega, by omega, by omega, rfl, Or.inr (by omega), by simp; omega⟩)))
/-- Of pulses beside them. -/
def Ways2 (v p : List Int) : Prop :=
  (∃ E : Int, Hid (fault p = E) ∧ Hid (fault p ≠ 0) ∧ (E == 0) = false) ∨ (Hid (fault p = 0) ∧ ∃ K : Nat, Hid (loud p = K) ∧ K ≤ 8 ∧ ((v.length ≠ p.length ∧ ((v.length : Int) == (p.length : Int)) = false) ∨ (Hid (v.length = p.length) ∧ ∃ N : Nat, Hid (v.length = N) ∧ Hid (p.length = N) ∧ N ≤ 6)))
theorem ways2 (v p : List Int) : Ways2 v p := by
  by_cases h : fault p = 0
  · obtain ⟨h1, h2, h3⟩ := fault_ok h
    refine Or.inr ⟨h, loud p, rfl, h3, ?_⟩
    by_cases e : v.length = p.length
    · exact Or.inr ⟨e, p.length, e, rfl, h1⟩
    · exact Or.inl ⟨e, by simp; omega⟩
  · exact Or.inl ⟨_, rfl, h, by simpa using h⟩

theorem zlen (l : List Int) : (decide ((0 : Int) < (l.length : Int)) = false ∧ decide (0 < l.length) = false) ∨ (0 < l.length ∧ (0 : Int) < (l.length : Int)) := by
  rcases Nat.eq_zero_or_pos l.length with e | e
  · exact Or.inl ⟨by rw [e]; rfl, by rw [e]; rfl⟩
  · exact Or.inr ⟨e, by omega⟩

set_option maxRecDepth 100000 in
set_option maxHeartbeats 32000000 in
theorem walk (a0 : Option Addr) (cap0 : Nat) (l0 : List Int) (k : Int) (a2 : Option Addr) (cap2 : Nat) (l2 : List Int) (w : World) (hL : Laid w)
    (hr0 : Row w a0 l0) (hw0 : ∀ n ∈ l0, (Lit.int .i64 n).wf = true) (hz0 : l0.length * 8 ≤ 140737488351232) (hwk : (Lit.int .i64 k).wf = true)
    (hr2 : Row w a2 l2) (hw2 : ∀ n ∈ l2, (Lit.int .i64 n).wf = true) (hz2 : l2.length * 8 ≤ 140737488351232) :
    Calls Tryd.prog 4 #[.slice a0 l0.length cap0, .int .i64 k, .slice a2 l2.length cap2] w fun e w' => e = .returned (.bool true) ∧ Below w.heap.size w w' := by
  have hy := ways2 l0 l2
  have hl0 : l0.length ≤ 9223372036854775807 := by omega
  have hl2 : l2.length ≤ 9223372036854775807 := by omega
  have hy1 := ways1 l0 k
  clear hw0 hw2 hz0 hz2 hwk
  rcases hy1 with ⟨h6, HV⟩ | ⟨h6, HA, HV⟩ | ⟨h6, HA, HV, hyk⟩
  · have c1 := fun W hr => of_no a0 cap0 l0 k W hl0 hr (hide (by rw [unhide HV]; decide))
    have c2 := fun q W hr => far_v a0 cap0 l0 q W hl0 hr (hide (by rw [unhide HV]; decide))
    rw [unhide HV] at c1 c2
    have C1 := hide c1
    have C2 := hide c2
    clear c1 c2 hy
    go_enter Tryd.func4, Tryd.ntmps4
    go_wp2_with fail
    refine (unhide C1 w hr0).mono ?_
    rintro e w1 ⟨rfl, hb1⟩
    go_wp2_with fail
    refine (error_is 4 w1 (hL.below hb1)).mono ?_
    rintro e w2 ⟨rfl, hb2⟩
    have hB2 := Below.chain hb1 hb2
    go_wp2_with fail
    refine (ints_nil w2).mono ?_
    rintro e w3 ⟨rfl, hb3⟩
    have hB3 := Below.chain hB2 hb3
    have hr3 := hr0.below hB3
    clear hb1 hb2 hb3 hB2
    go_wp2
    go_loopw [14, 15] (fun t i wr => t = .int .i64 0 ∧ i = .int .i64 0 ∧ wr = w3) (fun _ _ _ => 0)
    case atStart => exact ⟨rfl, rfl, rfl⟩
    case round =>
      obtain ⟨rfl, rfl, rfl⟩ := hrel
      go_wp2_with fail
      refine (unhide C2 _ _ hr3).mono ?_
      rintro e w4 ⟨rfl, hb4⟩
      have hB4 := Below.chain hB3 hb4
      go_wp2_with fail
      refine (error_is 4 w4 (hL.below hB4)).mono ?_
      rintro e w5 ⟨rfl, hb5⟩
      go_wp2
      go_ret
      exact ⟨rfl, Below.chain hB4 hb5⟩
  · have h00 : 0 < l0.length := by
      rcases Nat.eq_zero_or_pos l0.length with e | e
      · have := unhide HA
        rw [List.length_eq_zero_iff.1 e] at this
        cases this
      · exact e
    have c1 := fun W hr => of_no a0 cap0 l0 k W hl0 hr (hide (by rw [unhide HV]; decide))
    have c2 := fun q W hr => far_v a0 cap0 l0 q W hl0 hr (hide (by rw [unhide HV]; decide))
    rw [unhide HV] at c1 c2
    have C1 := hide c1
    have C2 := hide c2
    clear c1 c2 hy
    go_enter Tryd.func4, Tryd.ntmps4
    go_wp2_with fail
    refine (refSnd_no a0 cap0 l0 w h6 hr0 HA).mono ?_
    rintro e w0 ⟨rfl, rfl⟩
    go_wp2_with fail
    refine (unhide C1 w hr0).mono ?_
    rintro e w1 ⟨rfl, hb1⟩
    go_wp2_with fail
    refine (error_is 1 w1 (hL.below hb1)).mono ?_
    rintro e w2 ⟨rfl, hb2⟩
    have hB2 := Below.chain hb1 hb2
    go_wp2_with fail
    refine (ints_nil w2).mono ?_
    rintro e w3 ⟨rfl, hb3⟩
    have hB3 := Below.chain hB2 hb3
    have hr3 := hr0.below hB3
    clear hb1 hb2 hb3 hB2
    go_wp2
    go_loopw [14, 15] (fun t i wr => t = .int .i64 0 ∧ i = .int .i64 0 ∧ wr = w3) (fun _ _ _ => 0)
    case atStart => exact ⟨rfl, rfl, rfl⟩
    case round =>
      obtain ⟨rfl, rfl, rfl⟩ := hrel
      go_wp2_with fail
      refine (unhide C2 _ _ hr3).mono ?_
      rintro e w4 ⟨rfl, hb4⟩
      have hB4 := Below.chain hB3 hb4
      go_wp2_with fail
      refine (error_is 1 w4 (hL.below hB4)).mono ?_
      rintro e w5 ⟨rfl, hb5⟩
      go_wp2
      go_ret
      exact ⟨rfl, Below.chain hB4 hb5⟩
  · have hiv := (vf_ok (unhide HV)).2
    rcases hyk with ⟨k0, k1⟩ | ⟨k0, k1⟩ | ⟨K, rfl, K0, K8, HM⟩ | rfl | ⟨K, M, rfl, K0, K8, HM, HKL, hMz⟩
    all_goals
      go_enter Tryd.func4, Tryd.ntmps4
      go_wp2_with fail
      refine (refSnd_ok a0 cap0 l0 w h6 hr0 HA).mono ?_
      rintro e w0 ⟨rfl, rfl⟩
    all_goals (first
      | (have c1 := of_range a0 cap0 l0 k w hr0 HV (by first | exact Or.inl k0 | exact Or.inr ⟨k0, k1⟩)
         go_wp2_with fail
         refine c1.mono ?_
         clear c1
         rintro e w1 ⟨rfl, hb1⟩
         go_wp2_with fail
         refine (error_is 1 w1 (hL.below hb1)).mono ?_
         rintro e w2 ⟨rfl, hb2⟩
         have hB2 := Below.chain hb1 hb2
         go_wp2_with fail
         refine (ints_nil w2).mono ?_
         rintro e W ⟨rfl, hb3⟩
         have hB := Below.chain hB2 hb3
         clear hb1 hb2 hb3 hB2)
      | (have hh := HM
         clear hh
         have K0z : (0 : Int) < (K : Int) := by omega
         have c0 := refLoud a0 cap0 l0 w (by omega) hiv hr0
         rw [unhide HM] at c0
         have c1 := of_none a0 cap0 l0 K w hr0 HV K0 K8 HM
         go_wp2_with fail
         refine c0.mono ?_
         clear c0
         rintro e w0 ⟨rfl, rfl⟩
         go_wp2_with fail
         refine c1.mono ?_
         clear c1
         rintro e w1 ⟨rfl, hb1⟩
         go_wp2_with fail
         refine (error_is 5 w1 (hL.below hb1)).mono ?_
         rintro e w2 ⟨rfl, hb2⟩
         have hB2 := Below.chain hb1 hb2
         go_wp2_with fail
         refine (ints_nil w2).mono ?_
         rintro e W ⟨rfl, hb3⟩
         have hB := Below.chain hB2 hb3
         clear hb1 hb2 hb3 hB2)
      | (have c0 := refLoud a0 cap0 l0 w (by omega) hiv hr0
         rw [unhide HM] at c0
         have K0z : (0 : Int) < (K : Int) := by omega
         have c1 := ref_ok a0 cap0 l0 K w h6 hiv K8 HKL hr0
         have c2 := fun W hr => of_ok a0 cap0 l0 K W hr HV K8 HKL
         have C2 := hide c2
         clear c2
         go_wp2_with fail
         refine c0.mono ?_
         clear c0
         rintro e w0 ⟨rfl, rfl⟩
         go_wp2_with fail
         refine c1.mono ?_
         clear c1
         rintro e w1 ⟨v1, l1, rfl, h1, H1, hb1⟩
         have hr1 := hr0.below hb1
         go_wp2_with fail
         refine (unhide C2 w1 hr1).mono ?_
         rintro e w2 ⟨v3, l3, rfl, h3, H3, hb2⟩
         have hB2 := Below.chain hb1 hb2
         obtain rfl : l3 = l1 := (unhide H3).one (unhide H1)
         have h1' := h1.below hb2
         obtain ⟨p1, q1, rfl, r1⟩ := h1'.row
         obtain ⟨p3, q3, rfl, r3⟩ := h3.row
         have hl3 : l3.length ≤ 9223372036854775807 := by rw [(unhide H3).len]; omega
         clear hb1 hb2 hr1 h1 h3 h1' H1 H3 C2
         go_wp2_with fail
         refine (error_nil w2).mono ?_
         rintro e w0 ⟨rfl, rfl⟩
         go_wp2_with fail
         refine (ints_same p3 q3 p1 q1 l3 _ hl3 r3 r1).mono ?_
         rintro e W ⟨rfl, hb3⟩
         have hB := Below.chain hB2 hb3
         clear hb3 hB2 r1 r3 hl3)
      | (have c1 : Calls Tryd.prog 12 #[.slice a0 l0.length cap0, .int .i64 0] w fun e w' => ∃ p l, e = .returned p ∧ Has w' w.heap.size p l ∧ Hid (Near l0 0 l) ∧ Below w.heap.size w w' := ref_ok a0 cap0 l0 0 w h6 hiv (by omega) (hide (Or.inl rfl)) hr0
         have c2 : ∀ W, Row W a0 l0 → Calls Tryd.prog 13 #[.slice a0 l0.length cap0, .int .i64 0] W fun e w' => ∃ p l, e = .returned (.tuple #[p, .nilIface]) ∧ Has w' W.heap.size p l ∧ Hid (Near l0 0 l) ∧ Below W.heap.size W w' := fun W hr => of_ok a0 cap0 l0 0 W hr HV (by omega) (hide (Or.inl rfl))
         have C2 := hide c2
         clear c2
         go_wp2_with fail
         refine c1.mono ?_
         clear c1
         rintro e w1 ⟨v1, l1, rfl, h1, H1, hb1⟩
         have hr1 := hr0.below hb1
         go_wp2_with fail
         refine (unhide C2 w1 hr1).mono ?_
         rintro e w2 ⟨v3, l3, rfl, h3, H3, hb2⟩
         have hB2 := Below.chain hb1 hb2
         obtain rfl : l3 = l1 := (unhide H3).one (unhide H1)
         have h1' := h1.below hb2
         obtain ⟨p1, q1, rfl, r1⟩ := h1'.row
         obtain ⟨p3, q3, rfl, r3⟩ := h3.row
         have hl3 : l3.length ≤ 9223372036854775807 := by rw [(unhide H3).len]; omega
         clear hb1 hb2 hr1 h1 h3 h1' H1 H3 C2
         go_wp2_with fail
         refine (error_nil w2).mono ?_
         rintro e w0 ⟨rfl, rfl⟩
         go_wp2_with fail
         refine (ints_same p3 q3 p1 q1 l3 _ hl3 r3 r1).mono ?_
         rintro e W ⟨rfl, hb3⟩
         have hB := Below.chain hB2 hb3
         clear hb3 hB2 r1 r3 hl3))
    all_goals
      have hr5 := hr0.below hB
      have hr6 := hr2.below hB
      rcases hy with ⟨E, HE, HE0, hEz⟩ | ⟨HF, K2, HK2, K28, ⟨hne, hne'⟩ | ⟨HEL, N, HN0, HN2, hN6⟩⟩
      · have c1 := refPulses_no a2 cap2 l2 W hl2 hr6 HE0
        have c2 := far_p a0 cap0 l0 a2 cap2 l2 W hl2 hr5 hr6 HV HE0
        rw [unhide HE] at c1 c2
        have C2 := hide c2
        clear c2
        go_wp2_with fail
        refine c1.mono ?_
        clear c1
        rintro e w0 ⟨rfl, rfl⟩
        rcases zlen l0 with ⟨z0, z1⟩ | ⟨z0, z1⟩
        all_goals
          go_wp2
          go_loopw [14, 15] (fun t i wr => t = .int .i64 0 ∧ i = .int .i64 0 ∧ wr = W) (fun _ _ _ => 0)
          case atStart => exact ⟨rfl, rfl, rfl⟩
          case round =>
            obtain ⟨rfl, rfl, rfl⟩ := hrel
            go_wp2_with fail
            refine (unhide C2).mono ?_
            rintro e w4 ⟨rfl, hb4⟩
            have hB4 := Below.chain hB hb4
            go_wp2_with fail
            refine (error_is E w4 (hL.below hB4)).mono ?_
            rintro e w5 ⟨rfl, hb5⟩
            go_wp2
            go_ret
            exact ⟨rfl, Below.chain hB4 hb5⟩
      · have c1 := refPulses_ok a2 cap2 l2 W hr6 HF
        have c2 := far_shape a0 cap0 l0 a2 cap2 l2 W hr5 hr6 HV HF hne
        rw [unhide HK2] at c1
        have C2 := hide c2
        clear c2 hne
        go_wp2_with fail
        refine c1.mono ?_
        clear c1
        rintro e w0 ⟨rfl, rfl⟩
        rcases zlen l0 with ⟨z0, z1⟩ | ⟨z0, z1⟩
        all_goals
          go_wp2
          go_loopw [14, 15] (fun t i wr => t = .int .i64 0 ∧ i = .int .i64 0 ∧ wr = W) (fun _ _ _ => 0)
          case atStart => exact ⟨rfl, rfl, rfl⟩
          case round =>
            obtain ⟨rfl, rfl, rfl⟩ := hrel
            go_wp2_with fail
            refine (unhide C2).mono ?_
            rintro e w4 ⟨rfl, hb4⟩
            have hB4 := Below.chain hB hb4
            go_wp2_with fail
            refine (error_is 3 w4 (hL.below hB4)).mono ?_
            rintro e w5 ⟨rfl, hb5⟩
            go_wp2
            go_ret
            exact ⟨rfl, Below.chain hB4 hb5⟩
      · have c1 := refPulses_ok a2 cap2 l2 W hr6 HF
        have c2 := fun W hr hr' => far_ok a0 cap0 l0 a2 cap2 l2 K2 W hr hr' HV HF HEL HK2
        have c3 := fun W hr => refLoud a0 cap0 l0 W (by omega) hiv hr
        obtain ⟨-, hip, -⟩ := fault_ok (unhide HF)
        have hMle := loud_in (b := 1000) hiv
        have HBD : Hid (∀ n, n ≤ 6 → tot (far1 l0 K2 l2) n ≤ 336000) := hide (far_in K28 (by omega) hiv hip)
        have HFR : Hid (∀ i, far1 l0 K2 l2 i = ((K2 : Int) * at0 l0 i - (loud l0 : Int) * at0 l2 i).natAbs) := hide (fun _ => rfl)
        have HFF : Hid (far l0 K2 l2 = tot (far1 l0 K2 l2) l0.length) := hide rfl
        obtain ⟨M2, hM2⟩ : ∃ M, loud l0 = M := ⟨_, rfl⟩
        rw [hM2] at c3 HFR hMle
        have hM29 : M2 ≤ 6000 := by omega
        rw [unhide HK2] at c1
        rw [unhide HN2] at c1 c2 ⊢
        rw [unhide HN0] at c2 c3 HFF ⊢
        have C2 := hide c2
        have C3 := hide c3
        have eN : ((N : Int) == (N : Int)) = true := by simp
        clear c2 c3 hM2 hMle hl0 hl2
        go_wp2_with fail
        refine c1.mono ?_
        clear c1
        rintro e w0 ⟨rfl, rfl⟩
        go_wp2
        go_loopw [14, 15] (fun t i wr => ∃ j t' : Nat, j ≤ N ∧ i = .int .i64 j ∧ t = .int .i64 t' ∧ Hid (t' = tot (far1 l0 K2 l2) j) ∧ t' ≤ 336000 ∧ Below w.heap.size w wr) (fun _ i _ => N - (intOf i).toNat)
        case atStart => exact ⟨0, 0, Nat.zero_le _, rfl, rfl, rfl, by omega, hB⟩
        case round =>
          obtain ⟨j, t, hj, rfl, rfl, HT, ht, hBr⟩ := hrel
          have hr7 := hr0.below hBr
          have hr8 := hr2.below hBr
          clear hr5 hr6 hB
          by_cases hlt : j < N
          · have hf3 : Hid (∀ x, Calls Tryd.prog 11 #[.slice a0 N cap0] (wr.drewN x) fun e w' => e = .returned (.int .i64 (M2 : Int)) ∧ w' = wr.drewN x) := hide (fun x => (unhide C3 (wr.drewN x) (hr0.below (below_drewN hBr x))).mono fun e w' ⟨h1, h2⟩ => ⟨h1, h2.symm⟩)
            obtain ⟨b, off, rfl, hb, hc⟩ := row_cell hr7 (by rw [unhide HN0]; omega)
            obtain ⟨b', off', rfl, hb', hc'⟩ := row_cell hr8 (by rw [unhide HN2]; omega)
            have c1 := hc j (by rw [unhide HN0]; exact hlt)
            have c2 := hc' j (by rw [unhide HN2]; exact hlt)
            obtain ⟨i0, i1⟩ := hiv.at (by omega) j
            obtain ⟨j0, j1⟩ := hip.at (by omega) j
            have hF := unhide HFR j
            have HS : Hid (t + far1 l0 K2 l2 j = tot (far1 l0 K2 l2) (j + 1)) := hide (by rw [unhide HT]; rfl)
            have HS9 : Hid (t + far1 l0 K2 l2 j ≤ 336000) := hide (by rw [unhide HS]; exact unhide HBD (j + 1) (by omega))
            obtain ⟨X, hX⟩ : ∃ X, at0 l0 j = X := ⟨_, rfl⟩
            obtain ⟨Y, hY⟩ : ∃ Y, at0 l2 j = Y := ⟨_, rfl⟩
            rw [hX] at c1 i0 i1 hF
            rw [hY] at c2 j0 j1 hF
            obtain ⟨x0, x1⟩ := mul_abs (b := 1000) K28 i0 i1
            obtain ⟨y0, y1⟩ := mul_abs (b := 8) hM29 j0 j1
            obtain ⟨A, hA⟩ : ∃ A, (K2 : Int) * X = A := ⟨_, rfl⟩
            obtain ⟨C, hC⟩ : ∃ C, (M2 : Int) * Y = C := ⟨_, rfl⟩
            rw [hA] at x0 x1 hF
            rw [hC] at y0 y1 hF
            have m1 : IntKind.i64.wrap ((K2 : Int) * X) = A := by rw [hA]; exact IntWalk.i64_in _ (by omega)
            have m2 : IntKind.i64.wrap ((M2 : Int) * Y) = C := by rw [hC]; exact IntWalk.i64_in _ (by omega)
            have m3 : IntKind.i64.wrap (A - C) = A - C := IntWalk.i64_in _ (by omega)
            obtain ⟨D, hD⟩ : ∃ D, far1 l0 K2 l2 j = D := ⟨_, rfl⟩
            have hd : Hid (∀ W, Calls Tryd.prog 16 #[.int .i64 (A - C)] W fun e w' => e = .returned (.int .i64 (D : Int)) ∧ w' = W) := hide (fun W => by
              have := refFar (A - C) W (by omega) (by omega)
              rw [← hF, hD] at this
              exact this.mono fun e w' ⟨h1, h2⟩ => ⟨h1, h2.symm⟩)
            rw [hD] at HS HS9
            have hD9 : D ≤ 56000 := by rw [← hD, hF]; omega
            have m4 : IntKind.i64.wrap ((t : Int) + (D : Int)) = ((t + D : Nat) : Int) := by rw [IntWalk.i64_in _ (by omega)]; omega
            have jz : (j : Int) < (N : Int) := by omega
            clear hX hY hA hC hF hD hc hc' x0 x1 y0 y1 i0 i1 j0 j1 hr7 hr8
            go_wp2
            go_quiet ((first | (go_at_call 11; exact Calls.quiet_of_same (unhide hf3 _)) | (go_at_call 16; exact Calls.quiet_of_same (unhide hd _))))
            go_wp2
            go_roundw
            case rel => exact ⟨j + 1, t + D, by omega, by go_num, by first | rfl | go_num, HS, unhide HS9, below_drewN hBr _⟩
            case measure => simp [intOf]; omega
          · obtain rfl : j = N := by omega
            have c5 := unhide C2 wr hr7 hr8
            rw [unhide HFF, ← unhide HT] at c5
            have eT : ((t : Int) == (t : Int)) = true := by simp
            go_wp2_with fail
            refine c5.mono ?_
            clear c5
            rintro e w4 ⟨rfl, hb4⟩
            have hB4 := Below.chain hBr hb4
            go_wp2_with fail
            refine (error_nil w4).mono ?_
            rintro e w5 ⟨rfl, rfl⟩
            go_wp2
            go_ret
            exact ⟨rfl, hB4⟩

end Go.Proofs.YtjnmogmagngenadDoor.NearTellsLaw
