/-
  scale.level, and what it asks of cmp: by their contracts.
-/
import Derived.Test.YtgffpljnhadigagScaleCnt
namespace Go.Proofs.Ytgffpljnhadigag.Scl
open Go.RowKit
open Go.Proofs.Ytgffpljnhadigag.Tre
set_option linter.unusedVariables false

/-- cmp.Compare. -/
def cmpf (x y : Int) : Int := if x < y then -1 else if y < x then 1 else 0
theorem isNaN (x : Int) (w : World) : Calls Try.prog 35 #[.int .i64 x] w fun e w' => e = .returned (.bool false) ∧ w' = w := by
  have hx : (x == x) = true := by simp
  go_enter Try.func35, Try.ntmps35
  go_wp2
  go_ret
  exact ⟨by simp, rfl⟩
theorem compare (x y : Int) (w : World) : Calls Try.prog 31 #[.int .i64 x, .int .i64 y] w fun e w' => e = .returned (.int .i64 (cmpf x y)) ∧ w' = w := by
  unfold cmpf
  rcases Int.lt_trichotomy x y with h | h | h
  · rw [if_pos h]
    go_enter Try.func31, Try.ntmps31
    go_wp2_with fail
    refine (isNaN x w).mono ?_
    rintro e w' ⟨rfl, rfl⟩
    go_wp2_with fail
    refine (isNaN y _).mono ?_
    rintro e w' ⟨rfl, rfl⟩
    go_wp2
    go_ret
    exact ⟨rfl, rfl⟩
  · subst h
    have h1 : ¬ x < x := by omega
    rw [if_neg h1, if_neg h1]
    go_enter Try.func31, Try.ntmps31
    go_wp2_with fail
    refine (isNaN x w).mono ?_
    rintro e w' ⟨rfl, rfl⟩
    go_wp2_with fail
    refine (isNaN x _).mono ?_
    rintro e w' ⟨rfl, rfl⟩
    go_wp2
    go_ret
    exact ⟨rfl, rfl⟩
  · have h1 : ¬ x < y := by omega
    rw [if_neg h1, if_pos h]
    go_enter Try.func31, Try.ntmps31
    go_wp2_with fail
    refine (isNaN x w).mono ?_
    rintro e w' ⟨rfl, rfl⟩
    go_wp2_with fail
    refine (isNaN y _).mono ?_
    rintro e w' ⟨rfl, rfl⟩
    go_wp2
    go_ret
    exact ⟨rfl, rfl⟩

theorem small_good {l : List Int} (h : Good l) (ht : tot l ≤ 20000) : Small l := fun i hi => ⟨by have := pfx_nonneg h.2.1 hi; omega, by
  have h2 := pfx_mono h.2.1 hi (Nat.le_refl _)
  unfold tot at ht
  omega⟩

set_option maxHeartbeats 4000000 in
theorem level (g cc N n₀ : Nat) (l : List Int) (w : World) (h : Has w n₀ (.slice (some ⟨g, 0, none⟩) N cc) l) (hG : Hid (Good l)) (hL : Hid (l.length = N)) (hT : Hid (tot l ≤ 20000)) :
    Calls Try.prog 24 #[.slice (some ⟨g, 0, none⟩) N cc] w fun e w' => e = .returned (.tuple #[]) ∧ Has w' n₀ (.slice (some ⟨g, 0, none⟩) N cc) (fit l) ∧ Below n₀ w w' := by
  have h1 : 1 ≤ N := by have := (unhide hG).pos; rw [unhide hL] at this; exact this
  have h40 : N ≤ 40 := by have := (unhide hG).1; rw [unhide hL] at this; exact this
  have hg0 : n₀ ≤ g := (h.lt g rfl).1
  have hsum := sum (some ⟨g, 0, none⟩) cc N l w (hide (unhide hL).symm) (by omega) (h.inRow rfl).2 (hide (small_good (unhide hG) (unhide hT)))
  have hT0 := (unhide hG).2.2
  have hT9 := unhide hT
  obtain ⟨T, hTT⟩ : ∃ T, tot l = T := ⟨_, rfl⟩
  have HT := hide hTT
  rw [hTT] at hsum hT0 hT9
  clear hTT
  go_enter Try.func24, Try.ntmps24
  go_wp2_with fail
  refine hsum.mono ?_
  clear hsum
  rintro e w1 ⟨rfl, hw1⟩
  obtain rfl : w = w1 := hw1.symm
  clear hw1
  go_wp2
  go_loopw [2] (fun hv wr => ∃ (cur : List Int) (T : Int), hv = .int .i64 T ∧ 0 < T ∧ T ≤ 20000 ∧ Hid (tot cur = T) ∧ Has wr n₀ (.slice (some ⟨g, 0, none⟩) N cc) cur ∧ Hid (Good cur) ∧ Hid (cur.length = N) ∧ Hid (fit cur = fit l) ∧ Below n₀ w wr) (fun hv _ => (intOf hv - 256).natAbs)
  case atStart => exact ⟨l, T, rfl, hT0, hT9, HT, h, hG, hL, hide rfl, Below.refl _ _⟩
  case round =>
    obtain ⟨cur, T, rfl, hT0, hT9, HTT, k1, G1, L1, F1, hB⟩ := hrel
    clear h hG hL hT
    by_cases ht : T = 256
    · have hq2 : (T != 256) = false := by rw [ht]; rfl
      have ec : cur = fit l := by rw [← unhide F1, fit_done (by rw [unhide HTT]; exact ht)]
      rw [ec] at k1
      clear ht ec
      go_wp2
      go_end0
      exact ⟨rfl, k1, hB⟩
    · have hq2 : (T != 256) = true := by rw [bne_iff_ne]; exact ht
      have HNE : Hid (tot cur ≠ 256) := hide (by rw [unhide HTT]; exact ht)
      have r1 : Row wr (some ⟨g, 0, none⟩) cur := (k1.inRow rfl).2
      have hbe := bst_best cur (by rw [unhide L1]; exact h1)
      have hmx := maxOf (some ⟨g, 0, none⟩) cc N cur wr (hide (unhide L1).symm) h1 (by omega) r1
      obtain ⟨B, hB0⟩ : ∃ B, bst cur cur.length = B := ⟨_, rfl⟩
      rw [hB0] at hbe hmx
      have hix := indexOf (some ⟨g, 0, none⟩) cc N B cur wr (hide (unhide L1).symm) (by omega) r1 (hide hbe)
      have hBN : B < N := by rw [← unhide L1]; exact hbe.1
      have c1 := k1.get (j := B) hbe.1
      have fz := k1.frozen B
      have a0 := (unhide G1).2.1 B hbe.1
      have a9 := at_le_tot (unhide G1).2.1 hbe.1
      rw [unhide HTT] at a9
      obtain ⟨s1, s2⟩ : (256 < tot cur → nxt cur = cur.set B (at0 cur B + -1)) ∧ (tot cur < 256 → nxt cur = cur.set B (at0 cur B + 1)) :=
        ⟨fun hh => by rw [nxt_is hbe, if_pos hh], fun hh => by rw [nxt_is hbe, if_neg (by omega)]⟩
      have S1 := hide s1
      have S2 := hide s2
      have NG := hide (nxt_good (unhide G1))
      have NL : Hid ((nxt cur).length = N) := hide (by rw [nxt_length]; exact unhide L1)
      have NF : Hid (fit (nxt cur) = fit l) := hide (by rw [fit_next (unhide G1) (unhide HNE)]; exact unhide F1)
      have NT := nxt_tot (unhide G1)
      rw [unhide HTT] at NT S1 S2
      have HNT := hide NT
      have hcm := hide (fun W => compare 256 T W)
      obtain ⟨Y, hY⟩ : ∃ Y, at0 cur B = Y := ⟨_, rfl⟩
      rw [hY] at c1 S1 S2 a0 a9 hmx hix
      have P := hide (fun x => k1.put B x)
      have HB := hide hB
      clear hY s1 s2 NT hbe hB0
      have HMX := hide hmx
      have HIX := hide hix
      clear hmx hix
      rcases Int.lt_or_gt_of_ne ht with hlt | hgt
      · have e1 : cmpf 256 T = 1 := by unfold cmpf; rw [if_neg (by omega), if_pos hlt]
        rw [e1] at hcm
        obtain ⟨m1, m2⟩ := unhide P (Y + 1)
        rw [← unhide S2 hlt] at m1
        have M1 := hide m1
        have M2 := hide (Below.setCell (p := ⟨g, B, none⟩) hB hg0 (.int .i64 (Y + 1)))
        have HN2 : Hid (tot (nxt cur) = T + 1) := hide (by rw [unhide HNT, if_neg (by omega)])
        have w1' : IntKind.i64.wrap (Y + 1) = Y + 1 := IntWalk.i64_in _ (by omega)
        have w2' : IntKind.i64.wrap (T + 1) = T + 1 := IntWalk.i64_in _ (by omega)
        clear m1 m2 S1 S2 HNT P k1 hB
        go_wp2_with fail
        refine (unhide hcm _).mono ?_
        rintro e w2 ⟨rfl, hw2⟩
        obtain rfl : wr = w2 := hw2.symm
        clear hw2
        go_wp2_with fail
        refine (unhide HMX).mono ?_
        rintro e w2 ⟨rfl, hw2⟩
        obtain rfl : wr = w2 := hw2.symm
        clear hw2
        go_wp2_with fail
        refine (unhide HIX).mono ?_
        rintro e w2 ⟨rfl, hw2⟩
        obtain rfl : wr = w2 := hw2.symm
        clear hw2
        go_wp2
        go_roundw
        case rel => exact ⟨nxt cur, T + 1, by first | rfl | go_num, by omega, by omega, HN2, unhide M1, NG, NL, NF, unhide M2⟩
        case measure => simp [intOf]; omega
      · have e1 : cmpf 256 T = -1 := by unfold cmpf; rw [if_pos hgt]
        rw [e1] at hcm
        obtain ⟨m1, m2⟩ := unhide P (Y + -1)
        rw [← unhide S1 hgt] at m1
        have M1 := hide m1
        have M2 := hide (Below.setCell (p := ⟨g, B, none⟩) hB hg0 (.int .i64 (Y + -1)))
        have HN2 : Hid (tot (nxt cur) = T + -1) := hide (by rw [unhide HNT, if_pos hgt])
        have w1' : IntKind.i64.wrap (Y + -1) = Y + -1 := IntWalk.i64_in _ (by omega)
        have w2' : IntKind.i64.wrap (T + -1) = T + -1 := IntWalk.i64_in _ (by omega)
        clear m1 m2 S1 S2 HNT P k1 hB
        go_wp2_with fail
        refine (unhide hcm _).mono ?_
        rintro e w2 ⟨rfl, hw2⟩
        obtain rfl : wr = w2 := hw2.symm
        clear hw2
        go_wp2_with fail
        refine (unhide HMX).mono ?_
        rintro e w2 ⟨rfl, hw2⟩
        obtain rfl : wr = w2 := hw2.symm
        clear hw2
        go_wp2_with fail
        refine (unhide HIX).mono ?_
        rintro e w2 ⟨rfl, hw2⟩
        obtain rfl : wr = w2 := hw2.symm
        clear hw2
        go_wp2
        go_roundw
        case rel => exact ⟨nxt cur, T + -1, by first | rfl | go_num, by omega, by omega, HN2, unhide M1, NG, NL, NF, unhide M2⟩
        case measure => simp [intOf]; omega

end Go.Proofs.Ytgffpljnhadigag.Scl
