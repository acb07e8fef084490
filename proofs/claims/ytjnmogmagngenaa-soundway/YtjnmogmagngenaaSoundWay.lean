/-
  It is proved that hornlaw1.SoundWay returns true for every three slices: how far two are apart is no more than by a third one; mixed either way round it is the same; the energy is no more than the square of the loudness, nor less than it by as many. No condition.
-/
import Derived.Test.YtjnmogmagngenaaSoundMath
import Derived.Test.YtjnmogmagngenaaFrame
namespace Go.Proofs.Ytjnmogmagngenaa.SoundWayLaw
open Go.ChangeShapes Go.WideShapes Go.ChangeAt Go.RowKit
open Go.Proofs.Ytjnmogmagngenaa.Snd
set_option linter.unusedVariables false

theorem fact (w : World) : Calls Try.prog 8 #[.slice (some ⟨w.heap.size, 0, none⟩) 2 2, .slice (some ⟨w.heap.size + 1, 0, none⟩) 2 2]
    ((w.alloc (.cells #[.int .i64 900, .int .i64 (-3)] 3)).alloc (.cells #[.int .i64 300, .int .i64 1] 3))
    fun e w' => ∃ g, e = .returned (.tuple #[.slice (some ⟨g, 0, none⟩) 2 2, .nilIface]) ∧ w'.cell? ⟨g, 0, none⟩ = some (.int .i64 1000) ∧ w'.cell? ⟨g, 1, none⟩ = some (.int .i64 (-2)) ∧ Below w.heap.size w w' := by
  have hb0 : Below w.heap.size w (w.alloc (.cells #[.int .i64 900, .int .i64 (-3)] 3)) := (Below.refl _ _).alloc (Nat.le_refl _) _
  have hr : Row (w.alloc (.cells #[.int .i64 900, .int .i64 (-3)] 3)) (some ⟨w.heap.size, 0, none⟩) [900, -3] := by
    refine Or.inr ⟨w.heap.size, 0, rfl, by simp, fun j hj => ?_⟩
    rw [World.cell?_alloc_at _ _ _ _ rfl]
    match j, hj with
    | 0, _ => rfl
    | 1, _ => rfl
  have hb1 : Below (w.alloc (.cells #[.int .i64 900, .int .i64 (-3)] 3)).heap.size (w.alloc (.cells #[.int .i64 900, .int .i64 (-3)] 3)) ((w.alloc (.cells #[.int .i64 900, .int .i64 (-3)] 3)).alloc (.cells #[.int .i64 300, .int .i64 1] 3)) := (Below.refl _ _).alloc (Nat.le_refl _) _
  have hr' : Row ((w.alloc (.cells #[.int .i64 900, .int .i64 (-3)] 3)).alloc (.cells #[.int .i64 300, .int .i64 1] 3)) (some ⟨w.heap.size + 1, 0, none⟩) [300, 1] := by
    refine Or.inr ⟨w.heap.size + 1, 0, rfl, by simp, fun j hj => ?_⟩
    rw [World.cell?_alloc_at _ _ _ _ (by simp)]
    match j, hj with
    | 0, _ => rfl
    | 1, _ => rfl
  refine (mix_ok (some ⟨w.heap.size, 0, none⟩) 2 [900, -3] (some ⟨w.heap.size + 1, 0, none⟩) 2 [300, 1] _ (by simp) (by simp) (hr.below hb1) hr' (hide (by decide))).mono ?_
  rintro e w' ⟨g, rfl, hrow, hb⟩
  have em : mix [900, -3] [300, 1] = [1000, -2] := by decide
  rw [em] at hrow ⊢
  obtain ⟨b, off, e1, _, hc⟩ := hrow.at (k := 0) (by simp)
  simp only [Option.some.injEq, Addr.mk.injEq, and_true] at e1
  obtain ⟨rfl, rfl⟩ := e1
  exact ⟨g, rfl, hc 0 (by simp), hc 1 (by simp), Below.chain hb0 (Below.chain hb1 hb)⟩

set_option maxHeartbeats 1000000 in
theorem walk (a0 : Option Addr) (cap0 : Nat) (l0 : List Int) (a1 : Option Addr) (cap1 : Nat) (l1 : List Int) (a2 : Option Addr) (cap2 : Nat) (l2 : List Int) (w : World)
    (hr0 : Row w a0 l0) (hw0 : ∀ n ∈ l0, (Lit.int .i64 n).wf = true) (hz0 : l0.length * 8 ≤ 140737488351232) (hr1 : Row w a1 l1) (hw1 : ∀ n ∈ l1, (Lit.int .i64 n).wf = true) (hz1 : l1.length * 8 ≤ 140737488351232)
    (hr2 : Row w a2 l2) (hw2 : ∀ n ∈ l2, (Lit.int .i64 n).wf = true) (hz2 : l2.length * 8 ≤ 140737488351232) :
    Calls Try.prog 4 #[.slice a0 l0.length cap0, .slice a1 l1.length cap1, .slice a2 l2.length cap2] w fun e w' => e = .returned (.bool true) ∧ Below w.heap.size w w' := by
  have z0 : l0.length ≤ 9223372036854775807 := by omega
  have z1 : l1.length ≤ 9223372036854775807 := by omega
  have z2 : l2.length ≤ 9223372036854775807 := by omega
  clear hw0 hw1 hw2 hz0 hz1 hz2
  go_enter Try.func4, Try.ntmps4
  go_wp2_with fail
  refine (fact w).mono ?_
  rintro e w1 ⟨g, rfl, hc0, hc1, hb1⟩
  have hra := hr0.below hb1
  have hrb := hr1.below hb1
  have hrc := hr2.below hb1
  clear hr0 hr1 hr2
  by_cases h : chk l0 = 0
  · have H := hide h
    have ho := ok_of h
    have hel := energy_le l0
    have hle := loud_le l0
    have be := tot_bd sq 1000000 l0 fun n hn => sq_bd n (ho.2 n hn).1 (ho.2 n hn).2
    have bf := tot_bd far 1000 l0 fun n hn => far_bd n (ho.2 n hn).1 (ho.2 n hn).2
    have hl32 := ho.1
    clear h
    generalize hE : tot sq l0 = E at *
    generalize hL : tot far l0 = L at *
    have b1 : 0 ≤ E ∧ E ≤ 32000000 := by omega
    have b2 : 0 ≤ L ∧ L ≤ 32000 := by omega
    have b3 : L * L ≤ 32000 * 32000 := Int.mul_le_mul b2.2 b2.2 b2.1 (by omega)
    have b4 : 0 ≤ L * L := Int.mul_nonneg b2.1 b2.1
    have b5 : E * l0.length ≤ 32000000 * 32 := Int.mul_le_mul b1.2 (by omega) (by omega) (by omega)
    have b6 : 0 ≤ E * l0.length := Int.mul_nonneg b1.1 (by omega)
    have HE := hide hE
    have HL := hide hL
    clear hE hL be bf
    obtain ⟨b1a, b1b⟩ := b1
    obtain ⟨b2a, b2b⟩ := b2
    go_wp2_with fail
    refine (energy_ok a0 cap0 l0 w1 z0 hra H).mono ?_
    rw [unhide HE]
    rintro e w2 ⟨rfl, hb2⟩
    have hra2 := hra.below hb2
    go_wp2_with fail
    refine (loud_ok a0 cap0 l0 w2 z0 hra2 H).mono ?_
    rw [unhide HL]
    rintro e w3 ⟨rfl, hb3⟩
    have hb13 := Below.chain (Below.chain hb1 hb2) hb3
    have hra3 := hra2.below hb3
    have hrb3 := (hrb.below hb2).below hb3
    have hrc3 := (hrc.below hb2).below hb3
    clear hra hrb hrc hra2 hc0 hc1 hb1 hb2 hb3
    by_cases t : two l0 l1 = 0
    · obtain ⟨p1, p2, p3⟩ := two_parts t
      have HT := hide t
      have HT' : Hid (two l1 l0 = 0) := hide (two_eq p2 p1 p3.symm)
      have HP3 := hide p3
      have HP2 := hide p2
      have HC := hide (chk_mix (m := l1) hl32)
      have HM := hide (mix_comm p3)
      have HZ := hide (ap_zero p3)
      clear t p1 p2 p3
      go_wp2_with fail
      refine (apart_ok a0 cap0 l0 a1 cap1 l1 w3 z0 z1 hra3 hrb3 HT).mono ?_
      rintro e w4 ⟨rfl, hb4⟩
      have hra4 := hra3.below hb4
      have hrb4 := hrb3.below hb4
      have hrc4 := hrc3.below hb4
      go_wp2_with fail
      refine (mix_ok a0 cap0 l0 a1 cap1 l1 w4 z0 z1 hra4 hrb4 HT).mono ?_
      rintro e w5 ⟨g1, rfl, hy, hb5⟩
      have hra5 := hra4.below hb5
      have hrb5 := hrb4.below hb5
      have hrc5 := hrc4.below hb5
      go_wp2_with fail
      refine (mix_ok a1 cap1 l1 a0 cap0 l0 w5 z1 z0 hrb5 hra5 HT').mono ?_
      rw [← unhide HM]
      rintro e w6 ⟨g2, rfl, hx, hb6⟩
      have hy6 := hy.below hb6
      have hra6 := hra5.below hb6
      have hrb6 := hrb5.below hb6
      have hrc6 := hrc5.below hb6
      have hb16 := Below.chain (Below.chain (Below.chain hb13 hb4) hb5) hb6
      clear hra3 hrb3 hrc3 hra4 hrb4 hrc4 hra5 hrb5 hrc5 hy hb13 hb4 hb5 hb6
      have zm : (mix l0 l1).length ≤ 9223372036854775807 := by rw [mix_length]; exact z0
      go_wp2_with fail
      refine (ints (some ⟨g1, 0, none⟩) _ (mix l0 l1) (some ⟨g2, 0, none⟩) _ (mix l0 l1) w6 zm zm hy6 hx).mono ?_
      rw [decide_eq_true rfl]
      rintro e w7 ⟨rfl, n7, rfl⟩
      have d7 : Below w6.heap.size w6 (w6.drewN n7) := below_drewN (Below.refl _ _) n7
      have hy7 := hy6.below d7
      have hra7 := hra6.below d7
      have hrb7 := hrb6.below d7
      have hrc7 := hrc6.below d7
      have hb17 := Below.chain hb16 d7
      clear hy6 hx hra6 hrb6 hrc6 hb16 d7
      go_wp2_with fail
      refine (check_ok (some ⟨g1, 0, none⟩) _ (mix l0 l1) (w6.drewN n7) zm hy7 HC).mono ?_
      rintro e w8 ⟨rfl, hb8⟩
      have hra8 := hra7.below hb8
      have hrb8 := hrb7.below hb8
      have hrc8 := hrc7.below hb8
      have hb18 := Below.chain hb17 hb8
      clear hy7 hra7 hrb7 hrc7 hb17 hb8
      obtain ⟨q, hq⟩ : ∃ q, decide (l0 = l1) = q := ⟨_, rfl⟩
      have hq2 : (ap l0 l1 == 0) = q := by rw [unhide HZ]; exact hq
      have HQ := hide hq
      clear hq
      go_wp2_with fail
      refine (ints a0 cap0 l0 a1 cap1 l1 w8 z0 z1 hra8 hrb8).mono ?_
      rw [unhide HQ]
      rintro e w9 ⟨rfl, n9, rfl⟩
      have d9 : Below w8.heap.size w8 (w8.drewN n9) := below_drewN (Below.refl _ _) n9
      have hra9 := hra8.below d9
      have hrb9 := hrb8.below d9
      have hrc9 := hrc8.below d9
      have hb19 := Below.chain hb18 d9
      clear hra8 hrb8 hrc8 hb18 d9
      have o1 := (two_ok (unhide HT)).2.1
      by_cases t1 : two l0 l2 = 0
      · obtain ⟨s1, s2, s3⟩ := two_parts t1
        have T1 := hide t1
        have T2 : Hid (two l2 l1 = 0) := hide (two_eq s2 (unhide HP2) (s3.symm.trans (unhide HP3)))
        have tri := ap_tri (m := l1) s3
        have o2 := ok_of s2
        have x1 := apTo_bd l0 l2 ho o2 l0.length
        have x2 := apTo_bd l2 l1 o2 o1 l2.length
        have x3 := apTo_bd l0 l1 ho o1 l0.length
        have y1 : 0 ≤ ap l0 l2 := x1.1
        have y2 : ap l0 l2 ≤ 2000 := x1.2
        have y3 : 0 ≤ ap l2 l1 := x2.1
        have y4 : ap l2 l1 ≤ 2000 := x2.2
        have y5 : 0 ≤ ap l0 l1 := x3.1
        have y6 : ap l0 l1 ≤ 2000 := x3.2
        clear t1 s1 s2 s3 x1 x2 x3
        go_wp2_with fail
        refine (apart_ok a0 cap0 l0 a2 cap2 l2 (w8.drewN n9) z0 z2 hra9 hrc9 T1).mono ?_
        rintro e w10 ⟨rfl, hb10⟩
        have hrb10 := hrb9.below hb10
        have hrc10 := hrc9.below hb10
        go_wp2_with fail
        refine (apart_ok a2 cap2 l2 a1 cap1 l1 w10 z2 z1 hrc10 hrb10 T2).mono ?_
        rintro e w11 ⟨rfl, hb11⟩
        go_wp2
        go_ret
        exact ⟨rfl, Below.chain (Below.chain hb19 hb10) hb11⟩
      · have T1 := hide t1
        clear t1
        go_wp2_with fail
        refine (apart_no a0 cap0 l0 a2 cap2 l2 (w8.drewN n9) z0 z2 hra9 hrc9 T1).mono ?_
        rintro e w10 ⟨rfl, hb10⟩
        have hrb10 := hrb9.below hb10
        have hrc10 := hrc9.below hb10
        by_cases t2 : two l2 l1 = 0
        · have T2 := hide t2
          clear t2
          go_wp2_with fail
          refine (apart_ok a2 cap2 l2 a1 cap1 l1 w10 z2 z1 hrc10 hrb10 T2).mono ?_
          rintro e w11 ⟨rfl, hb11⟩
          go_wp2
          go_ret
          exact ⟨rfl, Below.chain (Below.chain hb19 hb10) hb11⟩
        · have T2 := hide t2
          clear t2
          go_wp2_with fail
          refine (apart_no a2 cap2 l2 a1 cap1 l1 w10 z2 z1 hrc10 hrb10 T2).mono ?_
          rintro e w11 ⟨rfl, hb11⟩
          go_wp2
          go_ret
          exact ⟨rfl, Below.chain (Below.chain hb19 hb10) hb11⟩
    · have HT := hide t
      clear t
      go_wp2_with fail
      refine (apart_no a0 cap0 l0 a1 cap1 l1 w3 z0 z1 hra3 hrb3 HT).mono ?_
      rintro e w4 ⟨rfl, hb4⟩
      go_wp2
      go_ret
      exact ⟨rfl, Below.chain hb13 hb4⟩
  · have H := hide h
    clear h
    go_wp2_with fail
    refine (energy_no a0 cap0 l0 w1 z0 hra H).mono ?_
    rintro e w2 ⟨rfl, hb2⟩
    have hra2 := hra.below hb2
    go_wp2_with fail
    refine (loud_no a0 cap0 l0 w2 z0 hra2 H).mono ?_
    rintro e w3 ⟨rfl, hb3⟩
    go_wp2
    go_ret
    exact ⟨rfl, Below.chain (Below.chain hb1 hb2) hb3⟩

set_option maxRecDepth 100000 in
theorem lifted (os : Os) (started : os.Started) (H : Type) (enc : TypeId × Value → H) :
    ReturnsInHanded {} Try.checked os 4 .any (Rows.soundWaySpec.pre6 enc Try.prog Try.f4 Rows.soundWayRow.domain false) (Rows.soundWaySpec.post enc Try.prog Try.f4 false true false false) := by
  refine returnsInHanded_of_change_sized (C := Try.checked) own started (by kernel_rfl) Try.func4
    (ChangeSpec.witness6 (enc := enc) (C := Try.checked) false ⟨#[], #[.slice none 0 0, .slice none 0 0, .slice none 0 0], []⟩ 8 (by kernel_rfl) (by kernel_rfl) (by kernel_rfl) (by kernel_rfl)) ?_
  intro W base args ds gs before hval0 hW hcnd hsz0 _
  have hsz : (DataW.weightsEach Try.prog (Try.f4.params.toList ++ Rows.soundWaySpec.plain.varTypes Try.prog) (ds ++ gs)).all (· ≤ reachBytes) = true := hsz0
  have hval : ∀ (j : Nat) t v, Try.f4.params[j]? = some t → args[j]? = some v → Value.okWide Try.prog W .any base t v := hval0
  have hW' := hW
  obtain ⟨p, q, hA0, hV, rfl, hfz, hnd⟩ := hW
  have hA : DataW.TrodAll enc Try.prog W 0 (fun _ => true) true Try.f4.params.toList args.toList ds p := hA0
  rw [Try.params4] at hA hval hsz
  obtain ⟨v0, vs0, d0, ds0, p0, q0, hargs, rfl, rfl, h0, r0⟩ := trodAll_cons hA
  obtain ⟨v1, vs1, d1, ds1, p1, q1, rfl, rfl, rfl, h1, r1⟩ := trodAll_cons r0
  obtain ⟨v2, vs2, d2, ds2, p2, q2, rfl, rfl, rfl, h2, r2⟩ := trodAll_cons r1
  obtain ⟨rfl, rfl, rfl⟩ := trodAll_nil r2
  obtain rfl : args = #[v0, v1, v2] := by cases args; simp_all
  obtain ⟨rfl, rfl⟩ := trodVars_none hV
  obtain ⟨a0, len0, cap0, rfl⟩ := okWide_slice Try.underlying26 (hval 0 26 v0 rfl rfl)
  have k0 := h0
  have lt0 : ∀ x ∈ p0, x.block < W.heap.size := by obtain ⟨m, hm⟩ := k0; exact DataW.trod_lt m _ _ _ hm
  obtain ⟨l0, hlen0, hr0, hw0, hz0⟩ := open_row h0 (fun e s hd => sized_slice hsz (j := 0) (t := 26) (e := 3) rfl (by rw [hd]; rfl) Try.underlying26)
  subst hlen0
  obtain ⟨a1, len1, cap1, rfl⟩ := okWide_slice Try.underlying26 (hval 1 26 v1 rfl rfl)
  have k1 := h1
  have lt1 : ∀ x ∈ p1, x.block < W.heap.size := by obtain ⟨m, hm⟩ := k1; exact DataW.trod_lt m _ _ _ hm
  obtain ⟨l1, hlen1, hr1, hw1, hz1⟩ := open_row h1 (fun e s hd => sized_slice hsz (j := 1) (t := 26) (e := 3) rfl (by rw [hd]; rfl) Try.underlying26)
  subst hlen1
  obtain ⟨a2, len2, cap2, rfl⟩ := okWide_slice Try.underlying26 (hval 2 26 v2 rfl rfl)
  have k2 := h2
  have lt2 : ∀ x ∈ p2, x.block < W.heap.size := by obtain ⟨m, hm⟩ := k2; exact DataW.trod_lt m _ _ _ hm
  obtain ⟨l2, hlen2, hr2, hw2, hz2⟩ := open_row h2 (fun e s hd => sized_slice hsz (j := 2) (t := 26) (e := 3) rfl (by rw [hd]; rfl) Try.underlying26)
  subst hlen2
  clear hA0 hval0 hsz0
  refine (walk a0 cap0 l0 a1 cap1 l1 a2 cap2 l2 W hr0 hw0 hz0 hr1 hw1 hz1 hr2 hw2 hz2).mono fun e W' ⟨he, bel⟩ => ?_
  subst he
  exact ⟨_, rfl, _, _, _, [], _, [], hW', trodAll_mk1 (shut_bool Try.underlying4 _), (trodAll_cons_mk (Below.trod laidOut (by kernel_rfl) (of_decide_eq_true (by kernel_rfl)) k0 bel lt0) (trodAll_cons_mk (Below.trod laidOut (by kernel_rfl) (of_decide_eq_true (by kernel_rfl)) k1 bel lt1) (trodAll_cons_mk (Below.trod laidOut (by kernel_rfl) (of_decide_eq_true (by kernel_rfl)) k2 bel lt2) trodAll_mk0))), rfl, bel.frame _, fun h => by cases h⟩
end Go.Proofs.Ytjnmogmagngenaa.SoundWayLaw
namespace Go.Proofs.Ytjnmogmagngenaa
open Go.ChangeShapes Go.WideShapes Go.ChangeAt Go.RowKit

theorem soundWay_holds : Rows.SoundWaySaid :=
  OpenClaim.holds_of_wide 4 Try.f4 rfl rfl rfl rfl rfl rfl rfl ⟨rfl, rfl, rfl, rfl, rfl⟩ rfl rfl rfl rfl rfl (by kernel_rfl) Try.func4 (by kernel_rfl)
    (of_decide_eq_true (by kernel_rfl)) (by unfold Func.isWrapper; first | (rw [if_pos (by decide +kernel)]; kernel_rfl) | (rw [if_neg (by decide +kernel)]; exact ⟨rfl, rfl⟩))
    (fun os started H enc _ => SoundWayLaw.lifted os started H enc)
end Go.Proofs.Ytjnmogmagngenaa
