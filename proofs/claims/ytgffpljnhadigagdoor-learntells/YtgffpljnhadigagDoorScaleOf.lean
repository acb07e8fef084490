/-
  scale.Of: by its contracts.
-/
import Derived.Test.YtgffpljnhadigagDoorScaleLevel
import Derived.Test.YtgffpljnhadigagDoorMake
import Derived.Test.YtgffpljnhadigagDoorMid
namespace Go.Proofs.YtgffpljnhadigagDoor.Scl
open Go.RowKit
open Go.Proofs.YtgffpljnhadigagDoor.Tre Go.Proofs.YtgffpljnhadigagDoor.Lap Go.Proofs.YtgffpljnhadigagDoor.Mid
set_option linter.unusedVariables false

theorem of_no (a : Option Addr) (cap : Nat) (c : List Int) (w : World) (hl : c.length ≤ 9223372036854775807) (hr : Row w a c) (h : Hid (cf c ≠ 0)) :
    Calls Tryd.prog 16 #[.slice a c.length cap] w fun e w' => e = .returned (.tuple #[.slice none 0 0, .iface 38 (.int .i64 (cf c))]) ∧ Below w.heap.size w w' := by
  go_enter Tryd.func16, Tryd.ntmps16
  go_wp2_with fail
  refine (count_no a cap c w hl hr h).mono ?_
  rintro e w1 ⟨rfl, hb1⟩
  go_wp2
  go_ret2
  exact ⟨rfl, hb1⟩

theorem mid_same {f g : Nat → Int} {n j : Nat} (h : f j = g j) : mid f g n (j + 1) = mid f g n j := upto_congr fun i _ => by
  by_cases e : i = j
  · subst e; simp [h]
  · by_cases e2 : i < j
    · rw [if_pos e2, if_pos (by omega)]
    · rw [if_neg e2, if_neg (by omega)]

set_option maxHeartbeats 4000000 in
theorem of_ok (a : Option Addr) (cap : Nat) (c : List Int) (w : World) (hr : Row w a c) (h : Hid (cf c = 0)) :
    Calls Tryd.prog 16 #[.slice a c.length cap] w fun e w' => ∃ v, e = .returned (.tuple #[v, .nilIface]) ∧ Has w' w.heap.size v (scale c) ∧ Below w.heap.size w w' := by
  obtain ⟨f1, f2, f3, f4⟩ := cf_ok (unhide h)
  have HG := hide (base_good (unhide h))
  have HF3 := hide f3
  have HLE : Hid (∀ i, i < c.length → at0 c i ≤ tot c) := hide (fun i hi => at_le_tot (fun i hi => (f3 i hi).1) hi)
  have hT9 : tot c ≤ 1000000000 := (small_of f3 f2 c.length (Nat.le_refl _)).2
  have hck := count_ok a cap c w (by omega) hr h
  have HL : Hid ((base c).length = c.length) := hide (base_length c)
  have HT : Hid (tot (base c) ≤ 20000) := hide (by
    have h2 := pfx_le (l := base c) (b := 256) (n := (base c).length) (fun i hi => by
      rw [base_length] at hi
      rw [base_at c hi]
      exact (shr_in (f3 i hi).1 (unhide HLE i hi)).2.1) (Nat.le_refl _)
    rw [base_length] at h2
    unfold tot
    rw [base_length]
    omega)
  have HE : Hid (upto (fun i => shr (tot c) (at0 c i)) c.length = base c) := hide rfl
  obtain ⟨N, hN⟩ : ∃ N, c.length = N := ⟨_, rfl⟩
  obtain ⟨A, hA⟩ : ∃ A, tot c = A := ⟨_, rfl⟩
  have HN := hide hN
  have HA := hide hA
  rw [hA] at f4 hT9 hck HE
  rw [hN] at f1 f2 hck HE HL ⊢
  clear hN hA f3
  go_enter Tryd.func16, Tryd.ntmps16
  go_wp2_with fail
  refine hck.mono ?_
  clear hck
  rintro e w1 ⟨rfl, hb1⟩
  go_wp2_with (at_make; refine wpList_mk _ rfl _ rfl N rfl (by omega) ?_; intro w2 hv2 hb2)
  obtain ⟨g, hg⟩ : ∃ g, w1.heap.size = g := ⟨_, rfl⟩
  have hg0 : w.heap.size ≤ g := by rw [← hg]; exact hb1.size
  have hB := Below.chain hb1 hb2
  rw [hg] at hv2 ⊢
  have hm0 : Has w2 w.heap.size (.slice (some ⟨g, 0, none⟩) N N) (mid (fun i => shr A (at0 c i)) (fun _ => 0) N 0) := by rw [mid_zero]; exact hv2.mono hg0
  clear hb1 hb2 hv2 hg
  go_wp2
  go_loopw [22] (fun i wr => ∃ j : Nat, j ≤ N ∧ i = .int .i64 j ∧ Has wr w.heap.size (.slice (some ⟨g, 0, none⟩) N N) (mid (fun i => shr A (at0 c i)) (fun _ => 0) N j) ∧ Below w.heap.size w wr) (fun i _ => N - (intOf i).toNat)
  case atStart => exact ⟨0, Nat.zero_le _, rfl, hm0, hB⟩
  case round =>
    obtain ⟨j, hj, rfl, hm, hB⟩ := hrel
    clear hm0
    by_cases hlt : j < N
    · have hlt' : j < c.length := by rw [unhide HN]; exact hlt
      obtain ⟨b, off, rfl, hb, hc⟩ := cell_at (hr.below hB) (by omega)
      have c1 := hc j hlt'
      have h2 := unhide HF3 j hlt'
      have h3 := unhide HLE j hlt'
      rw [unhide HA] at h3
      have c2 := hm.get (j := j) (by rw [mid_length]; exact hlt)
      rw [mid_at _ _ hlt] at c2
      have f2' := hm.frozen j
      have HS : Hid ((fun i => shr A (at0 c i)) j = if at0 c j ≤ 0 then 0 else if at0 c j * 256 / A = 0 then 1 else at0 c j * 256 / A) := hide rfl
      have h4 : 0 ≤ at0 c j * 256 / A := Int.ediv_nonneg (by omega) (by omega)
      have h5 : at0 c j * 256 / A ≤ 256 := by
        have h6 : at0 c j * 256 / A < 257 := (Int.ediv_lt_iff_lt_mul f4).2 (by omega)
        omega
      have hdv : Int.tdiv (at0 c j * 256) A = at0 c j * 256 / A := Int.tdiv_eq_ediv_of_nonneg (by omega)
      obtain ⟨X, hX⟩ : ∃ X, at0 c j = X := ⟨_, rfl⟩
      rw [hX] at c1 h2 h3 HS h4 h5 hdv
      obtain ⟨Y, hY⟩ : ∃ Y, X * 256 = Y := ⟨_, rfl⟩
      have hmul : IntKind.i64.wrap (X * 256) = Y := by rw [hY]; exact IntWalk.i64_in _ (by omega)
      rw [hY] at h4 h5 hdv HS
      obtain ⟨D, hD⟩ : ∃ D, Y / A = D := ⟨_, rfl⟩
      rw [hD] at h4 h5 hdv HS
      have hA0 : (A == 0) = false := by rw [beq_eq_false_iff_ne]; omega
      clear hX hY hD hc hlt'
      obtain ⟨x0, x9⟩ := h2
      by_cases hx : X = 0
      · subst hx
        have HS2 : Hid ((fun i => shr A (at0 c i)) j = 0) := hide (by rw [unhide HS, if_pos (Int.le_refl _)])
        have hm2 := hm
        rw [← mid_same (g := fun _ => 0) (unhide HS2)] at hm2
        clear HS hm
        go_wp2
        go_roundw
        case rel => exact ⟨j + 1, by omega, by go_num, hm2, hB⟩
        case measure => simp [intOf]; omega
      · have hd : decide (0 < X) = true := by simp; omega
        by_cases hD0 : D = 0
        · subst hD0
          have HS2 : Hid ((fun i => shr A (at0 c i)) j = 1) := hide (by rw [unhide HS, if_neg (by omega), if_pos rfl])
          obtain ⟨m1, m2, m3⟩ := put_mid hm hlt (unhide HS2) 0
          have M1 := hide m1
          have M3 := hide (m3 _ hB hg0)
          clear HS hm m1 m2 m3
          go_wp2
          go_roundw
          case rel => exact ⟨j + 1, by omega, by go_num, unhide M1, unhide M3⟩
          case measure => simp [intOf]; omega
        · have HS2 : Hid ((fun i => shr A (at0 c i)) j = D) := hide (by rw [unhide HS, if_neg (by omega), if_neg hD0])
          obtain ⟨m1, m2, m3⟩ := put_mid hm hlt (unhide HS2) 0
          have M1 := hide m1
          have M3 := hide (m3 _ hB hg0)
          have hD1 : 1 ≤ D := by omega
          clear HS hm m1 m2 m3
          go_wp2
          go_roundw
          case rel => exact ⟨j + 1, by omega, by go_num, unhide M1, unhide M3⟩
          case measure => simp [intOf]; omega
    · obtain rfl : j = N := by omega
      rw [mid_all, unhide HE] at hm
      clear HE
      go_wp2_with fail
      refine (level g j j w.heap.size (base c) wr hm HG HL HT).mono ?_
      rintro e w3 ⟨rfl, k3, hb3⟩
      go_wp2
      go_ret2
      exact ⟨_, rfl, k3, hB.trans hb3⟩

end Go.Proofs.YtgffpljnhadigagDoor.Scl
