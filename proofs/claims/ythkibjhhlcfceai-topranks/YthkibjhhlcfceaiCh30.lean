/-
  scale.level, and what it asks of cmp: by their contracts.
-/
import Derived.Test.YthkibjhhlcfceaiCh29
import Derived.Test.YthkibjhhlcfceaiCh22
import Derived.Test.YthkibjhhlcfceaiCh06
namespace Go.Proofs.Ythkibjhhlcfceai.Scl
open Go.RowKit
open Go.Proofs.Ythkibjhhlcfceai.Tre
set_option linter.unusedVariables false

/-- cmp.Compare. -/
def cmpf (x y : Int) : Int := if x < y then -1 else if y < x then 1 else 0
theorem isNaN (x : Int) (w : World) : Calls Try.prog 80 #[.int .i64 x] w fun e w' => e = .returned (.bool false) ∧ w' = w := by
  have hx : (x == x) = true := by simp
  go_enter Try.func80, Try.ntmps80
  go_wp2
  go_ret
  exact ⟨by simp, rfl⟩
theorem compare (x y : Int) (w : World) : Calls Try.prog 55 #[.int .i64 x, .int .i64 y] w fun e w' => e = .returned (.int .i64 (cmpf x y)) ∧ w' = w := by
  unfold cmpf
  rcases Int.lt_trichotomy x y with h | h | h
  · rw [if_pos h]
    go_enter Try.func55, Try.ntmps55
    go_wp2_with fail
    refine (isNaN x w).mono ?_
    rintro e w' ⟨rfl, rfl⟩
    go_wp2_with fail
    refine (isNaN y _).mono ?_
    rintro e w' ⟨rfl, rfl⟩
    go_wp2
    go_ret
    exact ⟨rfl, rfl⟩
  · subst h
    have h1 : ¬ x < x := by omega
    rw [if_neg h1, if_neg h1]
    go_enter Try.func55, Try.ntmps55
    go_wp2_with fail
    refine (isNaN x w).mono ?_
    rintro e w' ⟨rfl, rfl⟩
    go_wp2_with fail
    refine (isNaN x _).mono ?_
    rintro e w' ⟨rfl, rfl⟩
    go_wp2
    go_ret
    exact ⟨rfl, rfl⟩
  · have h1 : ¬ x < y := by omega
    rw [if_neg h1, if_pos h]
    go_enter Try.func55, Try.ntmps55
    go_wp2_with fail
    refine (isNaN x w).mono ?_
    rintro e w' ⟨rfl, rfl⟩
    go_wp2_with fail
    refine (isNaN y _).mono ?_
    rintro e w' ⟨rfl, rfl⟩
    go_wp2
    go_ret
    exact ⟨rfl, rfl⟩

theorem small_good {l : List Int} (h : Good l) (ht : tot l ≤ 20000) : Small l := fun i hi => ⟨by have := pfx_nonneg h.2.1 hi; omega, by
  have h2 := pfx_mono h.2.1 hi (Nat.le_refl _)
  unfold tot at ht
  omega⟩

set_option maxHeartbeats 4000000 in
theorem level (g cc N n₀ : Nat) (l : List Int) (w : World) (h : Has w n₀ (.slice (some ⟨g, 0, none⟩) N cc) l) (hG : Hid (Good l)) (hL : Hid (l.length = N)) (hT : Hid (tot l ≤ 20000)) :
    Calls Try.prog 58 #[.slice (some ⟨g, 0, none⟩) N cc] w fun e w' => e = .returned (.tuple #[]) ∧ Has w' n₀ (.slice (some ⟨g, 0, none⟩) N cc) (fit l) ∧ Below n₀ w w' := by
  have h1 : 1 ≤ N := by have := (unhide hG).pos; rw [unhide hL] at this; exact this
  have h40 : N ≤ 40 := by have := (unhide hG).1; rw [unhide hL] at this; exact this
  have hg0 : n₀ ≤ g := (h.lt g rfl).1
  have hsum := sum (some ⟨g, 0, none⟩) cc N l w (hide (unhide hL).symm) (by omega) (h.inRow rfl).2 (hide (small_good (unhide hG) (unhide hT)))
  have hT0 := (unhide hG).2.2
  have hT9 := unhide hT
  obtain ⟨T, hTT⟩ : ∃ T, tot l = T := ⟨_, rfl⟩
  have HT := hide hTT
  rw [hTT] at hsum hT0 hT9
  clear hTT
  go_enter Try.func58, Try.ntmps58
  go_wp2_with fail
  refine hsum.mono ?_
  clear hsum
  rintro e w1 ⟨rfl, hw1⟩
  obtain rfl : w = w1 := hw1.symm
  clear hw1
  go_wp2
  go_loopw [2] (fun hv wr => ∃ (cur : List Int) (T : Int), hv = .int .i64 T ∧ 0 < T ∧ T ≤ 20000 ∧ Hid (tot cur = T) ∧ Has wr n₀ (.slice (some ⟨g, 0, none⟩) N cc) cur ∧ Hid (Good cur) ∧ Hid (cur.length = N) ∧ Hid (fit cur = fit l) ∧ Below n₀ w wr) (fun hv _ => (intOf hv - 256).natAbs)
  case atStart => exact ⟨l, T, rfl, hT0, hT9, HT, h, hG, hL, hide rfl, Below.refl _ _⟩
  case round =>
    obtain ⟨cur, T, rfl, hT0, hT9, HTT, k1, G1, L1, F1, hB⟩ := hrel
    clear h hG hL hT
    by_cases ht : T = 256
    · have hq2 : (T != 256) = false := by rw [ht]; rfl
      have ec : cur = fit l := by rw [← unhide F1, fit_done (by rw [unhide HTT]; exact ht)]
      rw [ec] at k1
      clear ht ec
      go_wp2
      go_end0
      exact ⟨rfl, k1, hB⟩
    · have hq2 : (T != 256) = true := by rw [bne_iff_ne]; exact ht
      have HNE : Hid (tot cur ≠ 256) := hide (by rw [unhide HTT]; exact ht)
      have r1 : Row wr (some ⟨g, 0, none⟩) cur := (k1.inRow rfl).2
      have hbe := bst_best cur (by rw [unhide L1]; exact h1)
      have hmx := maxOf (some ⟨g, 0, none⟩) cc N cur wr (hide (unhide L1).symm) h1 (by omega) r1
      obtain ⟨B, hB0⟩ : ∃ B, bst cur cur.length = B := ⟨_, rfl⟩
      rw [hB0] at hbe hmx
      have hix := indexOf (some ⟨g, 0, none⟩) cc N B cur wr (hide (unhide L1).symm) (by omega) r1 (hide hbe)
      have hBN : B < N := by rw [← unhide L1]; exact hbe.1
      have c1 := k1.get (j := B) hbe.1
      have fz := k1.frozen B
      have a0 := (unhide G1).2.1 B hbe.1
      have a9 := at_le_tot (unhide G1).2.1 hbe.1
      rw [unhide HTT] at a9
      obtain ⟨s1, s2⟩ : (256 < tot cur → nxt cur = cur.set B (at0 cur B + -1)) ∧ (tot cur < 256 → nxt cur = cur.set B (at0 cur B + 1)) :=
        ⟨fun hh => by rw [nxt_is hbe, if_pos hh], fun hh => by rw [nxt_is hbe, if_neg (by omega)]⟩
      have S1 := hide s1
      have S2 := hide s2
      have NG := hide (nxt_good (unhide G1))
      have NL : Hid ((nxt cur).length = N) := hide (by rw [nxt_length]; exact unhide L1)
      have NF : Hid (fit (nxt cur) = fit l) := hide (by rw [fit_next (unhide G1) (unhide HNE)]; exact unhide F1)
      have NT := nxt_tot (unhide G1)
      rw [unhide HTT] at NT S1 S2
      have HNT := hide NT
      have hcm := hide (fun W => compare 256 T W)
      obtain ⟨Y, hY⟩ : ∃ Y, at0 cur B = Y := ⟨_, rfl⟩
      rw [hY] at c1 S1 S2 a0 a9 hmx hix
      have P := hide (fun x => k1.put B x)
      have HB := hide hB
      clear hY s1 s2 NT hbe hB0
      have HMX := hide hmx
      have HIX := hide hix
      clear hmx hix
      rcases Int.lt_or_gt_of_ne ht with hlt | hgt
      · have e1 : cmpf 256 T = 1 := by unfold cmpf; rw [if_neg (by omega), if_pos hlt]
        rw [e1] at hcm
        obtain ⟨m1, m2⟩ := unhide P (Y + 1)
        rw [← unhide S2 hlt] at m1
        have M1 := hide m1
        have M2 := hide (Below.setCell (p := ⟨g, B, none⟩) hB hg0 (.int .i64 (Y + 1)))
        have HN2 : Hid (tot (nxt cur) = T + 1) := hide (by rw [unhide HNT, if_neg (by omega)])
        have w1' : IntKind.i64.wrap (Y + 1) = Y + 1 := IntWalk.i64_in _ (by omega)
        have w2' : IntKind.i64.wrap (T + 1) = T + 1 := IntWalk.i64_in _ (by omega)
        clear m1 m2 S1 S2 HNT P k1 hB
        go_wp2_with fail
        refine (unhide hcm _).mono ?_
        rintro e w2 ⟨rfl, hw2⟩
        obtain rfl : wr = w2 := hw2.symm
        clear hw2
        go_wp2_with fail
        refine (unhide HMX).mono ?_
        rintro e w2 ⟨rfl, hw2⟩
        obtain rfl : wr = w2 := hw2.symm
        clear hw2
        go_wp2_with fail
        refine (unhide HIX).mono ?_
        rintro e w2 ⟨rfl, hw2⟩
        obtain rfl : wr = w2 := hw2.symm
        clear hw2
        go_wp2
        go_roundw
        case rel => exact ⟨nxt cur, T + 1, by first | rfl | go_num, by omega, by omega, HN2, unhide M1, NG, NL, NF, unhide M2⟩
        case measure => simp [intOf]; omega
      · have e1 : cmpf 256 T = -1 := by unfold cmpf; rw [if_pos hgt]
        rw [e1] at hcm
        obtain ⟨m1, m2⟩ := unhide P (Y + -1)
        rw [← unhide S1 hgt] at m1
        have M1 := hide m1
        have M2 := hide (Below.setCell (p := ⟨g, B, none⟩) hB hg0 (.int .i64 (Y + -1)))
        have HN2 : Hid (tot (nxt cur) = T + -1) := hide (by rw [unhide HNT, if_pos hgt])
        have w1' : IntKind.i64.wrap (Y + -1) = Y + -1 := IntWalk.i64_in _ (by omega)
        have w2' : IntKind.i64.wrap (T + -1) = T + -1 := IntWalk.i64_in _ (by omega)
        clear m1 m2 S1 S2 HNT P k1 hB
        go_wp2_with fail
        refine (unhide hcm _).mono ?_
        rintro e w2 ⟨rfl, hw2⟩
        obtain rfl : wr = w2 := hw2.symm
        clear hw2
        go_wp2_with fail
        refine (unhide HMX).mono ?_
        rintro e w2 ⟨rfl, hw2⟩
        obtain rfl : wr = w2 := hw2.symm
        clear hw2
        go_wp2_with fail
        refine (unhide HIX).mono ?_
        rintro e w2 ⟨rfl, hw2⟩
        obtain rfl : wr = w2 := hw2.symm
        clear hw2
        go_wp2
        go_roundw
        case rel => exact ⟨nxt cur, T + -1, by first | rfl | go_num, by omega, by omega, HN2, unhide M1, NG, NL, NF, unhide M2⟩
        case measure => simp [intOf]; omega

end Go.Proofs.Ythkibjhhlcfceai.Scl

/-
  scale.Of: by its contracts.
-/
namespace Go.Proofs.Ythkibjhhlcfceai.Scl
open Go.RowKit
open Go.Proofs.Ythkibjhhlcfceai.Tre Go.Proofs.Ythkibjhhlcfceai.Lap Go.Proofs.Ythkibjhhlcfceai.Mid
set_option linter.unusedVariables false

theorem of_no (a : Option Addr) (cap : Nat) (c : List Int) (w : World) (hl : c.length ≤ 9223372036854775807) (hr : Row w a c) (h : Hid (cf c ≠ 0)) :
    Calls Try.prog 24 #[.slice a c.length cap] w fun e w' => e = .returned (.tuple #[.slice none 0 0, .iface 52 (.int .i64 (cf c))]) ∧ Below w.heap.size w w' := by
  go_enter Try.func24, Try.ntmps24
  go_wp2_with fail
  refine (count_no a cap c w hl hr h).mono ?_
  rintro e w1 ⟨rfl, hb1⟩
  go_wp2
  go_ret2
  exact ⟨rfl, hb1⟩

theorem mid_same {f g : Nat → Int} {n j : Nat} (h : f j = g j) : mid f g n (j + 1) = mid f g n j := upto_congr fun i _ => by
  by_cases e : i = j
  · subst e; simp [h]
  · by_cases e2 : i < j
    · rw [if_pos e2, if_pos (by omega)]
    · rw [if_neg e2, if_neg (by omega)]

set_option maxHeartbeats 4000000 in
theorem of_ok (a : Option Addr) (cap : Nat) (c : List Int) (w : World) (hr : Row w a c) (h : Hid (cf c = 0)) :
    Calls Try.prog 24 #[.slice a c.length cap] w fun e w' => ∃ v, e = .returned (.tuple #[v, .nilIface]) ∧ Has w' w.heap.size v (scale c) ∧ Below w.heap.size w w' := by
  obtain ⟨f1, f2, f3, f4⟩ := cf_ok (unhide h)
  have HG := hide (base_good (unhide h))
  have HF3 := hide f3
  have HLE : Hid (∀ i, i < c.length → at0 c i ≤ tot c) := hide (fun i hi => at_le_tot (fun i hi => (f3 i hi).1) hi)
  have hT9 : tot c ≤ 1000000000 := (small_of f3 f2 c.length (Nat.le_refl _)).2
  have hck := count_ok a cap c w (by omega) hr h
  have HL : Hid ((base c).length = c.length) := hide (base_length c)
  have HT : Hid (tot (base c) ≤ 20000) := hide (by
    have h2 := pfx_le (l := base c) (b := 256) (n := (base c).length) (fun i hi => by
      rw [base_length] at hi
      rw [base_at c hi]
      exact (shr_in (f3 i hi).1 (unhide HLE i hi)).2.1) (Nat.le_refl _)
    rw [base_length] at h2
    unfold tot
    rw [base_length]
    omega)
  have HE : Hid (upto (fun i => shr (tot c) (at0 c i)) c.length = base c) := hide rfl
  obtain ⟨N, hN⟩ : ∃ N, c.length = N := ⟨_, rfl⟩
  obtain ⟨A, hA⟩ : ∃ A, tot c = A := ⟨_, rfl⟩
  have HN := hide hN
  have HA := hide hA
  rw [hA] at f4 hT9 hck HE
  rw [hN] at f1 f2 hck HE HL ⊢
  clear hN hA f3
  go_enter Try.func24, Try.ntmps24
  go_wp2_with fail
  refine hck.mono ?_
  clear hck
  rintro e w1 ⟨rfl, hb1⟩
  go_wp2_with (at_make; refine wpList_mk _ rfl _ rfl N rfl (by omega) ?_; intro w2 hv2 hb2)
  obtain ⟨g, hg⟩ : ∃ g, w1.heap.size = g := ⟨_, rfl⟩
  have hg0 : w.heap.size ≤ g := by rw [← hg]; exact hb1.size
  have hB := Below.chain hb1 hb2
  rw [hg] at hv2 ⊢
  have hm0 : Has w2 w.heap.size (.slice (some ⟨g, 0, none⟩) N N) (mid (fun i => shr A (at0 c i)) (fun _ => 0) N 0) := by rw [mid_zero]; exact hv2.mono hg0
  clear hb1 hb2 hv2 hg
  go_wp2
  go_loopw [22] (fun i wr => ∃ j : Nat, j ≤ N ∧ i = .int .i64 j ∧ Has wr w.heap.size (.slice (some ⟨g, 0, none⟩) N N) (mid (fun i => shr A (at0 c i)) (fun _ => 0) N j) ∧ Below w.heap.size w wr) (fun i _ => N - (intOf i).toNat)
  case atStart => exact ⟨0, Nat.zero_le _, rfl, hm0, hB⟩
  case round =>
    obtain ⟨j, hj, rfl, hm, hB⟩ := hrel
    clear hm0
    by_cases hlt : j < N
    · have hlt' : j < c.length := by rw [unhide HN]; exact hlt
      obtain ⟨b, off, rfl, hb, hc⟩ := cell_at (hr.below hB) (by omega)
      have c1 := hc j hlt'
      have h2 := unhide HF3 j hlt'
      have h3 := unhide HLE j hlt'
      rw [unhide HA] at h3
      have c2 := hm.get (j := j) (by rw [mid_length]; exact hlt)
      rw [mid_at _ _ hlt] at c2
      have f2' := hm.frozen j
      have HS : Hid ((fun i => shr A (at0 c i)) j = if at0 c j ≤ 0 then 0 else if at0 c j * 256 / A = 0 then 1 else at0 c j * 256 / A) := hide rfl
      have h4 : 0 ≤ at0 c j * 256 / A := Int.ediv_nonneg (by omega) (by omega)
      have h5 : at0 c j * 256 / A ≤ 256 := by
        have h6 : at0 c j * 256 / A < 257 := (Int.ediv_lt_iff_lt_mul f4).2 (by omega)
        omega
      have hdv : Int.tdiv (at0 c j * 256) A = at0 c j * 256 / A := Int.tdiv_eq_ediv_of_nonneg (by omega)
      obtain ⟨X, hX⟩ : ∃ X, at0 c j = X := ⟨_, rfl⟩
      rw [hX] at c1 h2 h3 HS h4 h5 hdv
      obtain ⟨Y, hY⟩ : ∃ Y, X * 256 = Y := ⟨_, rfl⟩
      have hmul : IntKind.i64.wrap (X * 256) = Y := by rw [hY]; exact IntWalk.i64_in _ (by omega)
      rw [hY] at h4 h5 hdv HS
      obtain ⟨D, hD⟩ : ∃ D, Y / A = D := ⟨_, rfl⟩
      rw [hD] at h4 h5 hdv HS
      have hA0 : (A == 0) = false := by rw [beq_eq_false_iff_ne]; omega
      clear hX hY hD hc hlt'
      obtain ⟨x0, x9⟩ := h2
      by_cases hx : X = 0
      · subst hx
        have HS2 : Hid ((fun i => shr A (at0 c i)) j = 0) := hide (by rw [unhide HS, if_pos (Int.le_refl _)])
        have hm2 := hm
        rw [← mid_same (g := fun _ => 0) (unhide HS2)] at hm2
        clear HS hm
        go_wp2
        go_roundw
        case rel => exact ⟨j + 1, by omega, by go_num, hm2, hB⟩
        case measure => simp [intOf]; omega
      · have hd : decide (0 < X) = true := by simp; omega
        by_cases hD0 : D = 0
        · subst hD0
          have HS2 : Hid ((fun i => shr A (at0 c i)) j = 1) := hide (by rw [unhide HS, if_neg (by omega), if_pos rfl])
          obtain ⟨m1, m2, m3⟩ := Mid.put_mid hm hlt (unhide HS2) 0
          have M1 := hide m1
          have M3 := hide (m3 _ hB hg0)
          clear HS hm m1 m2 m3
          go_wp2
          go_roundw
          case rel => exact ⟨j + 1, by omega, by go_num, unhide M1, unhide M3⟩
          case measure => simp [intOf]; omega
        · have HS2 : Hid ((fun i => shr A (at0 c i)) j = D) := hide (by rw [unhide HS, if_neg (by omega), if_neg hD0])
          obtain ⟨m1, m2, m3⟩ := Mid.put_mid hm hlt (unhide HS2) 0
          have M1 := hide m1
          have M3 := hide (m3 _ hB hg0)
          have hD1 : 1 ≤ D := by omega
          have hmx : max D 1 = D := by omega
          clear HS hm m1 m2 m3
          go_wp2
          go_roundw
          case rel => exact ⟨j + 1, by omega, by go_num, unhide M1, unhide M3⟩
          case measure => simp [intOf]; omega
    · obtain rfl : j = N := by omega
      rw [mid_all, unhide HE] at hm
      clear HE
      go_wp2_with fail
      refine (level g j j w.heap.size (base c) wr hm HG HL HT).mono ?_
      rintro e w3 ⟨rfl, k3, hb3⟩
      go_wp2
      go_ret2
      exact ⟨_, rfl, k3, hB.trans hb3⟩

end Go.Proofs.Ythkibjhhlcfceai.Scl

/-
  scale.right, Starts: by their contracts.
-/
namespace Go.Proofs.Ythkibjhhlcfceai.Scl
open Go.RowKit
open Go.Proofs.Ythkibjhhlcfceai.Tre Go.Proofs.Ythkibjhhlcfceai.Lap Go.Proofs.Ythkibjhhlcfceai.Mid
set_option linter.unusedVariables false

set_option maxHeartbeats 2000000 in
theorem right_yes (a : Option Addr) (cap : Nat) (f : List Int) (w : World) (hr : Row w a f) (h : Hid (right f)) :
    Calls Try.prog 61 #[.slice a f.length cap] w fun e w' => e = .returned (.bool true) ∧ Below w.heap.size w w' := by
  obtain ⟨h1, h40, h0, ht⟩ := unhide h
  have hb := below_box w 256 3
  have hr1 := hr.below hb
  have hany : f.any (outs 256) = false := by
    cases e : f.any (outs 256)
    · rfl
    · obtain ⟨i, hi, h2⟩ := outs_yes e
      have := h0 i hi
      have := at_le_tot h0 hi
      omega
  have hcf := hide (containsFunc 256 a cap f w.heap.size _ (by omega) hr1 (boxed_cell w 256 3))
  have hsum := hide (sum a cap f.length f _ (hide rfl) (by omega) hr1 (hide (small_of (fun i hi => ⟨h0 i hi, by have := at_le_tot h0 hi; omega⟩) h40)))
  rw [hany] at hcf
  rw [ht] at hsum
  obtain ⟨N, hN⟩ : ∃ N, f.length = N := ⟨_, rfl⟩
  rw [hN] at hcf hsum h1 h40 ⊢
  have hd1 : decide (0 < (N : Int)) = true := by simp; omega
  have hd2 : decide ((N : Int) ≤ 40) = true := by simp; omega
  clear hany h0 ht hN h
  go_enter Try.func61, Try.ntmps61
  go_wp2_with fail
  refine (outside 256 w).mono ?_
  rintro e w1 ⟨rfl, rfl⟩
  go_wp2_with fail
  refine (unhide hcf).mono ?_
  rintro e w1 ⟨rfl, rfl⟩
  go_wp2_with fail
  refine (unhide hsum).mono ?_
  rintro e w1 ⟨rfl, rfl⟩
  go_wp2
  go_ret
  exact ⟨rfl, hb⟩

set_option maxHeartbeats 2000000 in
theorem right_no (a : Option Addr) (cap : Nat) (f : List Int) (w : World) (hl : f.length ≤ 9223372036854775807) (hr : Row w a f) (h : Hid (¬ right f)) :
    Calls Try.prog 61 #[.slice a f.length cap] w fun e w' => e = .returned (.bool false) ∧ Below w.heap.size w w' := by
  by_cases h1 : f.length = 0
  · have hd1 : decide (0 < ((0 : Nat) : Int)) = false := rfl
    rw [h1]
    clear h
    go_enter Try.func61, Try.ntmps61
    go_wp2
    go_ret
    exact ⟨rfl, Below.refl _ _⟩
  · by_cases h40 : 40 < f.length
    · obtain ⟨N, hN⟩ : ∃ N, f.length = N := ⟨_, rfl⟩
      rw [hN] at h1 h40 hl ⊢
      have hd1 : decide (0 < (N : Int)) = true := by simp; omega
      have hd2 : decide ((N : Int) ≤ 40) = false := by simp; omega
      clear hN h
      go_enter Try.func61, Try.ntmps61
      go_wp2
      go_ret
      exact ⟨rfl, Below.refl _ _⟩
    · have hb := below_box w 256 3
      have hr1 := hr.below hb
      have hcf := hide (containsFunc 256 a cap f w.heap.size _ hl hr1 (boxed_cell w 256 3))
      cases hany : f.any (outs 256)
      · have hin := outs_no hany
        have hsum := hide (sum a cap f.length f _ (hide rfl) hl hr1 (hide (small_of (fun i hi => ⟨(hin i hi).1, by have := (hin i hi).2; omega⟩) (by omega))))
        have ht : tot f ≠ 256 := fun e => (unhide h) ⟨by omega, by omega, fun i hi => (hin i hi).1, e⟩
        have hq : (tot f == 256) = false := by rw [beq_eq_false_iff_ne]; exact ht
        rw [hany] at hcf
        obtain ⟨T, hT⟩ : ∃ T, tot f = T := ⟨_, rfl⟩
        rw [hT] at hq hsum
        obtain ⟨N, hN⟩ : ∃ N, f.length = N := ⟨_, rfl⟩
        rw [hN] at hcf hsum h1 h40 hl ⊢
        have hd1 : decide (0 < (N : Int)) = true := by simp; omega
        have hd2 : decide ((N : Int) ≤ 40) = true := by simp; omega
        clear hany hin ht hT hN h
        go_enter Try.func61, Try.ntmps61
        go_wp2_with fail
        refine (outside 256 w).mono ?_
        rintro e w1 ⟨rfl, rfl⟩
        go_wp2_with fail
        refine (unhide hcf).mono ?_
        rintro e w1 ⟨rfl, rfl⟩
        go_wp2_with fail
        refine (unhide hsum).mono ?_
        rintro e w1 ⟨rfl, rfl⟩
        go_wp2
        go_ret
        exact ⟨by first | rfl | rw [hq], hb⟩
      · rw [hany] at hcf
        obtain ⟨N, hN⟩ : ∃ N, f.length = N := ⟨_, rfl⟩
        rw [hN] at hcf h1 h40 hl ⊢
        have hd1 : decide (0 < (N : Int)) = true := by simp; omega
        have hd2 : decide ((N : Int) ≤ 40) = true := by simp; omega
        clear hany hN h
        go_enter Try.func61, Try.ntmps61
        go_wp2_with fail
        refine (outside 256 w).mono ?_
        rintro e w1 ⟨rfl, rfl⟩
        go_wp2_with fail
        refine (unhide hcf).mono ?_
        rintro e w1 ⟨rfl, rfl⟩
        go_wp2
        go_ret
        exact ⟨rfl, hb⟩

theorem starts_no (a : Option Addr) (cap : Nat) (f : List Int) (w : World) (hl : f.length ≤ 9223372036854775807) (hr : Row w a f) (h : Hid (¬ right f)) :
    Calls Try.prog 29 #[.slice a f.length cap] w fun e w' => e = .returned (.tuple #[.slice none 0 0, .iface 52 (.int .i64 3)]) ∧ Below w.heap.size w w' := by
  go_enter Try.func29, Try.ntmps29
  go_wp2_with fail
  refine (right_no a cap f w hl hr h).mono ?_
  rintro e w1 ⟨rfl, hb1⟩
  go_wp2
  go_ret2
  exact ⟨rfl, hb1⟩

theorem right_pfx {f : List Int} (h : right f) : ∀ j, j ≤ f.length → 0 ≤ pfx f j ∧ pfx f j ≤ 256 := fun j hj =>
  ⟨pfx_nonneg h.2.2.1 hj, by have h1 := pfx_mono h.2.2.1 hj (Nat.le_refl _); have h2 := h.2.2.2; unfold tot at h2; omega⟩

set_option maxHeartbeats 2000000 in
theorem starts_ok (a : Option Addr) (cap : Nat) (f : List Int) (w : World) (hr : Row w a f) (h : Hid (right f)) :
    Calls Try.prog 29 #[.slice a f.length cap] w fun e w' => ∃ v, e = .returned (.tuple #[v, .nilIface]) ∧ Has w' w.heap.size v (upto (pfx f) f.length) ∧ Below w.heap.size w w' := by
  obtain ⟨h1, h40, h0, ht⟩ := unhide h
  have HP := hide (right_pfx (unhide h))
  have hck := right_yes a cap f w hr h
  obtain ⟨N, hN⟩ : ∃ N, f.length = N := ⟨_, rfl⟩
  have HN := hide hN
  rw [hN] at hck h1 h40 ⊢
  clear hN h0 ht h
  go_enter Try.func29, Try.ntmps29
  go_wp2_with fail
  refine hck.mono ?_
  clear hck
  rintro e w1 ⟨rfl, hb1⟩
  go_wp2_with (at_make; refine wpList_mk _ rfl _ rfl N rfl (by omega) ?_; intro w2 hv2 hb2)
  obtain ⟨g, hg⟩ : ∃ g, w1.heap.size = g := ⟨_, rfl⟩
  have hg0 : w.heap.size ≤ g := by rw [← hg]; exact hb1.size
  have hB := Below.chain hb1 hb2
  rw [hg] at hv2 ⊢
  have hm0 : Has w2 w.heap.size (.slice (some ⟨g, 0, none⟩) N N) (mid (pfx f) (fun _ => 0) N 0) := by rw [mid_zero]; exact hv2.mono hg0
  clear hb1 hb2 hv2 hg
  go_wp2
  go_loopw [5, 17] (fun t i wr => ∃ (j : Nat) (T : Int), j ≤ N ∧ i = .int .i64 j ∧ t = .int .i64 T ∧ Hid (pfx f j = T) ∧ Has wr w.heap.size (.slice (some ⟨g, 0, none⟩) N N) (mid (pfx f) (fun _ => 0) N j) ∧ Below w.heap.size w wr) (fun _ i _ => N - (intOf i).toNat)
  case atStart => exact ⟨0, 0, Nat.zero_le _, rfl, rfl, hide rfl, hm0, hB⟩
  case round =>
    obtain ⟨j, T, hj, rfl, rfl, HT, hm, hB⟩ := hrel
    clear hm0
    by_cases hlt : j < N
    · have hlt' : j < f.length := by rw [unhide HN]; exact hlt
      obtain ⟨b, off, rfl, hb, hc⟩ := cell_at (hr.below hB) (by omega)
      have c1 := hc j hlt'
      have h2 := unhide HP (j + 1) hlt'
      have HS : Hid (pfx f (j + 1) = T + at0 f j) := hide (by rw [pfx, unhide HT])
      rw [unhide HS] at h2
      have f2' := hm.frozen j
      have c2 := hm.get (j := j) (by rw [mid_length]; exact hlt)
      rw [mid_at _ _ hlt] at c2
      obtain ⟨m1, m2, m3⟩ := Mid.put_mid hm hlt (unhide HT) 0
      have M1 := hide m1
      have M3 := hide (m3 _ hB hg0)
      obtain ⟨X, hX⟩ : ∃ X, at0 f j = X := ⟨_, rfl⟩
      rw [hX] at c1 h2 HS
      have hw : IntKind.i64.wrap (T + X) = T + X := IntWalk.i64_in _ (by omega)
      clear hX hc hlt' m1 m2 m3 hm h2
      go_wp2
      go_roundw
      case rel => exact ⟨j + 1, T + X, by omega, by go_num, by first | rfl | go_num, HS, unhide M1, unhide M3⟩
      case measure => simp [intOf]; omega
    · obtain rfl : j = N := by omega
      rw [mid_all] at hm
      go_wp2
      go_ret2
      exact ⟨_, rfl, hm, hB⟩

end Go.Proofs.Ythkibjhhlcfceai.Scl
