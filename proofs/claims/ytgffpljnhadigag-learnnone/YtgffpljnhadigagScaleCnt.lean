/-
  scale.countAll, slices.Max, slices.Index of the greatest: by their contracts.
-/
import Derived.Test.YtgffpljnhadigagScaleOut
namespace Go.Proofs.Ytgffpljnhadigag.Scl
open Go.RowKit
open Go.Proofs.Ytgffpljnhadigag.Tre
set_option linter.unusedVariables false

/-- An error as a value. -/
def errV (e : Int) : Value := if e = 0 then .nilIface else .iface 44 (.int .i64 e)
theorem errV_zero {e : Int} (h : e = 0) : errV e = .nilIface := by simp [errV, h]
theorem errV_ne {e : Int} (h : e ≠ 0) : errV e = .iface 44 (.int .i64 e) := by simp [errV, h]

theorem cf_any {c : List Int} (h0 : c.length ≠ 0) (h40 : ¬ 40 < c.length) (h : c.any (outs 1000000) = true) : cf c = 1 := by
  obtain ⟨i, hi, hb⟩ := outs_yes h
  exact cf_bad h0 h40 hi hb

/-- What countAll tells. -/
def counted (c : List Int) : Ending := .returned (.tuple #[.int .i64 (if cf c = 0 then tot c else 0), errV (cf c)])

set_option maxHeartbeats 1000000 in
theorem countAll (a : Option Addr) (cap : Nat) (c : List Int) (w : World) (hl : c.length ≤ 9223372036854775807) (hr : Row w a c) :
    Calls Try.prog 23 #[.slice a c.length cap] w fun e w' => e = counted c ∧ Below w.heap.size w w' := by
  by_cases h0 : c.length = 0
  · have hv : counted c = .returned (.tuple #[.int .i64 0, .iface 44 (.int .i64 5)]) := by simp [counted, errV, cf, h0]
    have hz : ((c.length : Int) == 0) = true := by simp [h0]
    rw [hv]
    clear hv
    go_enter Try.func23, Try.ntmps23
    go_wp2
    go_ret2
    exact ⟨rfl, Below.refl _ _⟩
  · have hz : ((c.length : Int) == 0) = false := by rw [beq_eq_false_iff_ne]; omega
    by_cases h40 : 40 < c.length
    · have hv : counted c = .returned (.tuple #[.int .i64 0, .iface 44 (.int .i64 4)]) := by simp [counted, errV, cf, h0, h40]
      rw [hv]
      clear hv h0
      go_enter Try.func23, Try.ntmps23
      go_wp2
      go_ret2
      exact ⟨rfl, Below.refl _ _⟩
    · have hb := below_box w 1000000 3
      have hcf := hide (containsFunc 1000000 a cap c w.heap.size _ hl (hr.below hb) (boxed_cell w 1000000 3))
      have hr1 := hr.below hb
      cases hany : c.any (outs 1000000)
      · have hin := outs_no hany
        have hcs := cf_sum h0 h40 hin
        have hsm := hide (small_of hin (by omega))
        have hsum := hide (sum a cap c.length c _ (hide rfl) hl hr1 hsm)
        rw [hany] at hcf
        obtain ⟨N, hN⟩ : ∃ N, c.length = N := ⟨_, rfl⟩
        rw [hN] at hcf hsum hz h40 hl ⊢
        clear hin hany h0 hN hsm
        by_cases ht : tot c = 0
        · have hv : counted c = .returned (.tuple #[.int .i64 0, .iface 44 (.int .i64 5)]) := by rw [if_pos ht] at hcs; simp [counted, errV, hcs]
          have hq : (tot c == 0) = true := by rw [ht]; rfl
          rw [hv]
          obtain ⟨T, hT⟩ : ∃ T, tot c = T := ⟨_, rfl⟩
          rw [hT] at hq hsum
          clear hv hcs ht hT
          go_enter Try.func23, Try.ntmps23
          go_wp2_with fail
          refine (outside 1000000 w).mono ?_
          rintro e w1 ⟨rfl, rfl⟩
          go_wp2_with fail
          refine (unhide hcf).mono ?_
          rintro e w1 ⟨rfl, rfl⟩
          go_wp2_with fail
          refine (unhide hsum).mono ?_
          rintro e w1 ⟨rfl, rfl⟩
          go_wp2
          go_ret2
          exact ⟨rfl, hb⟩
        · have hv : counted c = .returned (.tuple #[.int .i64 (tot c), .nilIface]) := by rw [if_neg ht] at hcs; simp [counted, errV, hcs]
          have hq : (tot c == 0) = false := by rw [beq_eq_false_iff_ne]; exact ht
          rw [hv]
          obtain ⟨T, hT⟩ : ∃ T, tot c = T := ⟨_, rfl⟩
          rw [hT] at hq hsum ⊢
          clear hv hcs ht hT
          go_enter Try.func23, Try.ntmps23
          go_wp2_with fail
          refine (outside 1000000 w).mono ?_
          rintro e w1 ⟨rfl, rfl⟩
          go_wp2_with fail
          refine (unhide hcf).mono ?_
          rintro e w1 ⟨rfl, rfl⟩
          go_wp2_with fail
          refine (unhide hsum).mono ?_
          rintro e w1 ⟨rfl, rfl⟩
          go_wp2
          go_ret2
          exact ⟨rfl, hb⟩
      · have hv : counted c = .returned (.tuple #[.int .i64 0, .iface 44 (.int .i64 1)]) := by simp [counted, errV, cf_any h0 h40 hany]
        rw [hany] at hcf
        rw [hv]
        obtain ⟨N, hN⟩ : ∃ N, c.length = N := ⟨_, rfl⟩
        rw [hN] at hcf hz h40 hl ⊢
        clear hv hany h0 hN
        go_enter Try.func23, Try.ntmps23
        go_wp2_with fail
        refine (outside 1000000 w).mono ?_
        rintro e w1 ⟨rfl, rfl⟩
        go_wp2_with fail
        refine (unhide hcf).mono ?_
        rintro e w1 ⟨rfl, rfl⟩
        go_wp2
        go_ret2
        exact ⟨rfl, hb⟩

theorem count_ok (a : Option Addr) (cap : Nat) (c : List Int) (w : World) (hl : c.length ≤ 9223372036854775807) (hr : Row w a c) (h : Hid (cf c = 0)) :
    Calls Try.prog 23 #[.slice a c.length cap] w fun e w' => e = .returned (.tuple #[.int .i64 (tot c), .nilIface]) ∧ Below w.heap.size w w' := by
  have := countAll a cap c w hl hr
  unfold counted at this
  rwa [if_pos (unhide h), errV_zero (unhide h)] at this
theorem count_no (a : Option Addr) (cap : Nat) (c : List Int) (w : World) (hl : c.length ≤ 9223372036854775807) (hr : Row w a c) (h : Hid (cf c ≠ 0)) :
    Calls Try.prog 23 #[.slice a c.length cap] w fun e w' => e = .returned (.tuple #[.int .i64 0, .iface 44 (.int .i64 (cf c))]) ∧ Below w.heap.size w w' := by
  have := countAll a cap c w hl hr
  unfold counted at this
  rwa [if_neg (unhide h), errV_ne (unhide h)] at this

set_option maxHeartbeats 1000000 in
theorem maxOf (a : Option Addr) (cap N : Nat) (l : List Int) (w : World) (hn : Hid (N = l.length)) (h0 : 1 ≤ N) (hl : N ≤ 9223372036854775807) (hr : Row w a l) :
    Calls Try.prog 33 #[.slice a N cap] w fun e w' => e = .returned (.int .i64 (at0 l (bst l l.length))) ∧ w' = w := by
  obtain ⟨b, off, rfl, hb, hc⟩ := cell_at hr (by rw [← unhide hn]; omega)
  have c0 := hc 0 (by rw [← unhide hn]; omega)
  have HB1 : Hid (at0 l 0 = at0 l (bst l 1)) := hide (by simp [bst])
  obtain ⟨X0, hX0⟩ : ∃ X, at0 l 0 = X := ⟨_, rfl⟩
  rw [hX0] at c0 HB1
  rw [Nat.add_zero] at c0
  have hd : decide ((N : Int) < 1) = false := by simp; omega
  have HC := hide hc
  clear hc hX0
  go_enter Try.func33, Try.ntmps33
  go_wp2
  go_loopw [3, 4] (fun m i wr => ∃ (j : Nat) (X : Int), 1 ≤ j ∧ j ≤ N ∧ i = .int .i64 j ∧ m = .int .i64 X ∧ Hid (X = at0 l (bst l j)) ∧ w = wr) (fun _ i _ => N - (intOf i).toNat)
  case atStart => exact ⟨1, X0, Nat.le_refl _, h0, rfl, rfl, HB1, rfl⟩
  case round =>
    obtain ⟨j, X, hj1, hj, rfl, rfl, HX, rfl⟩ := hrel
    by_cases hlt : j < N
    · have hlt' : j < l.length := by rw [← unhide hn]; exact hlt
      have c1 := unhide HC j hlt'
      have HS : Hid (at0 l (bst l (j + 1)) = if X < at0 l j then at0 l j else X) := hide (by
        rw [bst, ← unhide HX]
        split
        · rfl
        · exact (unhide HX).symm)
      obtain ⟨Y, hY⟩ : ∃ Y, at0 l j = Y := ⟨_, rfl⟩
      rw [hY] at c1 HS
      clear hY hlt'
      by_cases hx : X < Y
      · have HS2 : Hid (Y = at0 l (bst l (j + 1))) := hide (by rw [unhide HS, if_pos hx])
        clear HS
        go_wp2
        go_roundw
        case rel => exact ⟨j + 1, Y, by omega, by omega, by go_num, by first | rfl | (congr 1; omega) | simp [hx] , HS2, by first | trivial | rfl⟩
        case measure => simp [intOf]; omega
      · have HS2 : Hid (X = at0 l (bst l (j + 1))) := hide (by rw [unhide HS, if_neg hx])
        clear HS
        go_wp2
        go_roundw
        case rel => exact ⟨j + 1, X, by omega, by omega, by go_num, by first | rfl | (congr 1; omega) | simp [hx], HS2, by first | trivial | rfl⟩
        case measure => simp [intOf]; omega
    · obtain rfl : j = N := by omega
      go_wp2
      go_ret
      exact ⟨by rw [unhide HX, unhide hn]; rfl, rfl⟩

set_option maxHeartbeats 1000000 in
theorem indexOf (a : Option Addr) (cap N B : Nat) (l : List Int) (w : World) (hn : Hid (N = l.length)) (hl : N ≤ 9223372036854775807) (hr : Row w a l) (hB : Hid (IsBest l B)) :
    Calls Try.prog 32 #[.slice a N cap, .int .i64 (at0 l B)] w fun e w' => e = .returned (.int .i64 B) ∧ w' = w := by
  obtain ⟨b, off, rfl, hb, hc⟩ := cell_at hr (Nat.lt_of_le_of_lt (Nat.zero_le _) (unhide hB).1)
  have HC := hide hc
  have HL := hide (unhide hB).2.2
  have hBN : B < N := by rw [unhide hn]; exact (unhide hB).1
  obtain ⟨X, hX⟩ : ∃ X, at0 l B = X := ⟨_, rfl⟩
  have HX := hide hX
  rw [hX] at HL ⊢
  clear hc hX
  go_enter Try.func32, Try.ntmps32
  go_wp2
  go_loopw [8] (fun i wr => ∃ (j : Nat), j ≤ B ∧ i = .int .i64 j ∧ w = wr) (fun i _ => N - (intOf i).toNat)
  case atStart => exact ⟨0, Nat.zero_le _, rfl, rfl⟩
  case round =>
    obtain ⟨j, hj, rfl, rfl⟩ := hrel
    have hjN : j < N := by omega
    have c1 := unhide HC j (by rw [← unhide hn]; exact hjN)
    by_cases hlt : j < B
    · have h1 := unhide HL j hlt
      obtain ⟨Y, hY⟩ : ∃ Y, at0 l j = Y := ⟨_, rfl⟩
      rw [hY] at c1 h1
      have hq : (X == Y) = false := by rw [beq_eq_false_iff_ne]; omega
      clear hY h1
      go_wp2
      go_roundw
      case rel => exact ⟨j + 1, by omega, by go_num, by first | trivial | rfl⟩
      case measure => simp [intOf]; omega
    · obtain rfl : j = B := by omega
      rw [unhide HX] at c1
      have hq : (X == X) = true := by simp
      go_wp2
      go_ret
      exact ⟨rfl, rfl⟩

end Go.Proofs.Ytgffpljnhadigag.Scl
