/-
  scale.right, Starts: by their contracts.
-/
import Derived.Test.YtgffpljnhadigagDoorScaleOut
import Derived.Test.YtgffpljnhadigagDoorMake
import Derived.Test.YtgffpljnhadigagDoorMid
namespace Go.Proofs.YtgffpljnhadigagDoor.Scl
open Go.RowKit
open Go.Proofs.YtgffpljnhadigagDoor.Tre Go.Proofs.YtgffpljnhadigagDoor.Lap Go.Proofs.YtgffpljnhadigagDoor.Mid
set_option linter.unusedVariables false

set_option maxHeartbeats 2000000 in
theorem right_yes (a : Option Addr) (cap : Nat) (f : List Int) (w : World) (hr : Row w a f) (h : Hid (right f)) :
    Calls Tryd.prog 42 #[.slice a f.length cap] w fun e w' => e = .returned (.bool true) ∧ Below w.heap.size w w' := by
  obtain ⟨h1, h40, h0, ht⟩ := unhide h
  have hb := below_box w 256 3
  have hr1 := hr.below hb
  have hany : f.any (outs 256) = false := by
    cases e : f.any (outs 256)
    · rfl
    · obtain ⟨i, hi, h2⟩ := outs_yes e
      have := h0 i hi
      have := at_le_tot h0 hi
      omega
  have hcf := hide (containsFunc 256 a cap f w.heap.size _ (by omega) hr1 (boxed_cell w 256 3))
  have hsum := hide (sum a cap f.length f _ (hide rfl) (by omega) hr1 (hide (small_of (fun i hi => ⟨h0 i hi, by have := at_le_tot h0 hi; omega⟩) h40)))
  rw [hany] at hcf
  rw [ht] at hsum
  obtain ⟨N, hN⟩ : ∃ N, f.length = N := ⟨_, rfl⟩
  rw [hN] at hcf hsum h1 h40 ⊢
  have hd1 : decide (0 < (N : Int)) = true := by simp; omega
  have hd2 : decide ((N : Int) ≤ 40) = true := by simp; omega
  clear hany h0 ht hN h
  go_enter Tryd.func42, Tryd.ntmps42
  go_wp2_with fail
  refine (outside 256 w).mono ?_
  rintro e w1 ⟨rfl, rfl⟩
  go_wp2_with fail
  refine (unhide hcf).mono ?_
  rintro e w1 ⟨rfl, rfl⟩
  go_wp2_with fail
  refine (unhide hsum).mono ?_
  rintro e w1 ⟨rfl, rfl⟩
  go_wp2
  go_ret
  exact ⟨rfl, hb⟩

set_option maxHeartbeats 2000000 in
theorem right_no (a : Option Addr) (cap : Nat) (f : List Int) (w : World) (hl : f.length ≤ 9223372036854775807) (hr : Row w a f) (h : Hid (¬ right f)) :
    Calls Tryd.prog 42 #[.slice a f.length cap] w fun e w' => e = .returned (.bool false) ∧ Below w.heap.size w w' := by
  by_cases h1 : f.length = 0
  · have hd1 : decide (0 < ((0 : Nat) : Int)) = false := rfl
    rw [h1]
    clear h
    go_enter Tryd.func42, Tryd.ntmps42
    go_wp2
    go_ret
    exact ⟨rfl, Below.refl _ _⟩
  · by_cases h40 : 40 < f.length
    · obtain ⟨N, hN⟩ : ∃ N, f.length = N := ⟨_, rfl⟩
      rw [hN] at h1 h40 hl ⊢
      have hd1 : decide (0 < (N : Int)) = true := by simp; omega
      have hd2 : decide ((N : Int) ≤ 40) = false := by simp; omega
      clear hN h
      go_enter Tryd.func42, Tryd.ntmps42
      go_wp2
      go_ret
      exact ⟨rfl, Below.refl _ _⟩
    · have hb := below_box w 256 3
      have hr1 := hr.below hb
      have hcf := hide (containsFunc 256 a cap f w.heap.size _ hl hr1 (boxed_cell w 256 3))
      cases hany : f.any (outs 256)
      · have hin := outs_no hany
        have hsum := hide (sum a cap f.length f _ (hide rfl) hl hr1 (hide (small_of (fun i hi => ⟨(hin i hi).1, by have := (hin i hi).2; omega⟩) (by omega))))
        have ht : tot f ≠ 256 := fun e => (unhide h) ⟨by omega, by omega, fun i hi => (hin i hi).1, e⟩
        have hq : (tot f == 256) = false := by rw [beq_eq_false_iff_ne]; exact ht
        rw [hany] at hcf
        obtain ⟨T, hT⟩ : ∃ T, tot f = T := ⟨_, rfl⟩
        rw [hT] at hq hsum
        obtain ⟨N, hN⟩ : ∃ N, f.length = N := ⟨_, rfl⟩
        rw [hN] at hcf hsum h1 h40 hl ⊢
        have hd1 : decide (0 < (N : Int)) = true := by simp; omega
        have hd2 : decide ((N : Int) ≤ 40) = true := by simp; omega
        clear hany hin ht hT hN h
        go_enter Tryd.func42, Tryd.ntmps42
        go_wp2_with fail
        refine (outside 256 w).mono ?_
        rintro e w1 ⟨rfl, rfl⟩
        go_wp2_with fail
        refine (unhide hcf).mono ?_
        rintro e w1 ⟨rfl, rfl⟩
        go_wp2_with fail
        refine (unhide hsum).mono ?_
        rintro e w1 ⟨rfl, rfl⟩
        go_wp2
        go_ret
        exact ⟨by first | rfl | rw [hq], hb⟩
      · rw [hany] at hcf
        obtain ⟨N, hN⟩ : ∃ N, f.length = N := ⟨_, rfl⟩
        rw [hN] at hcf h1 h40 hl ⊢
        have hd1 : decide (0 < (N : Int)) = true := by simp; omega
        have hd2 : decide ((N : Int) ≤ 40) = true := by simp; omega
        clear hany hN h
        go_enter Tryd.func42, Tryd.ntmps42
        go_wp2_with fail
        refine (outside 256 w).mono ?_
        rintro e w1 ⟨rfl, rfl⟩
        go_wp2_with fail
        refine (unhide hcf).mono ?_
        rintro e w1 ⟨rfl, rfl⟩
        go_wp2
        go_ret
        exact ⟨rfl, hb⟩

theorem starts_no (a : Option Addr) (cap : Nat) (f : List Int) (w : World) (hl : f.length ≤ 9223372036854775807) (hr : Row w a f) (h : Hid (¬ right f)) :
    Calls Tryd.prog 36 #[.slice a f.length cap] w fun e w' => e = .returned (.tuple #[.slice none 0 0, .iface 38 (.int .i64 3)]) ∧ Below w.heap.size w w' := by
  go_enter Tryd.func36, Tryd.ntmps36
  go_wp2_with fail
  refine (right_no a cap f w hl hr h).mono ?_
  rintro e w1 ⟨rfl, hb1⟩
  go_wp2
  go_ret2
  exact ⟨rfl, hb1⟩

theorem right_pfx {f : List Int} (h : right f) : ∀ j, j ≤ f.length → 0 ≤ pfx f j ∧ pfx f j ≤ 256 := fun j hj =>
  ⟨pfx_nonneg h.2.2.1 hj, by have h1 := pfx_mono h.2.2.1 hj (Nat.le_refl _); have h2 := h.2.2.2; unfold tot at h2; omega⟩

set_option maxHeartbeats 2000000 in
theorem starts_ok (a : Option Addr) (cap : Nat) (f : List Int) (w : World) (hr : Row w a f) (h : Hid (right f)) :
    Calls Tryd.prog 36 #[.slice a f.length cap] w fun e w' => ∃ v, e = .returned (.tuple #[v, .nilIface]) ∧ Has w' w.heap.size v (upto (pfx f) f.length) ∧ Below w.heap.size w w' := by
  obtain ⟨h1, h40, h0, ht⟩ := unhide h
  have HP := hide (right_pfx (unhide h))
  have hck := right_yes a cap f w hr h
  obtain ⟨N, hN⟩ : ∃ N, f.length = N := ⟨_, rfl⟩
  have HN := hide hN
  rw [hN] at hck h1 h40 ⊢
  clear hN h0 ht h
  go_enter Tryd.func36, Tryd.ntmps36
  go_wp2_with fail
  refine hck.mono ?_
  clear hck
  rintro e w1 ⟨rfl, hb1⟩
  go_wp2_with (at_make; refine wpList_mk _ rfl _ rfl N rfl (by omega) ?_; intro w2 hv2 hb2)
  obtain ⟨g, hg⟩ : ∃ g, w1.heap.size = g := ⟨_, rfl⟩
  have hg0 : w.heap.size ≤ g := by rw [← hg]; exact hb1.size
  have hB := Below.chain hb1 hb2
  rw [hg] at hv2 ⊢
  have hm0 : Has w2 w.heap.size (.slice (some ⟨g, 0, none⟩) N N) (mid (pfx f) (fun _ => 0) N 0) := by rw [mid_zero]; exact hv2.mono hg0
  clear hb1 hb2 hv2 hg
  go_wp2
  go_loopw [5, 17] (fun t i wr => ∃ (j : Nat) (T : Int), j ≤ N ∧ i = .int .i64 j ∧ t = .int .i64 T ∧ Hid (pfx f j = T) ∧ Has wr w.heap.size (.slice (some ⟨g, 0, none⟩) N N) (mid (pfx f) (fun _ => 0) N j) ∧ Below w.heap.size w wr) (fun _ i _ => N - (intOf i).toNat)
  case atStart => exact ⟨0, 0, Nat.zero_le _, rfl, rfl, hide rfl, hm0, hB⟩
  case round =>
    obtain ⟨j, T, hj, rfl, rfl, HT, hm, hB⟩ := hrel
    clear hm0
    by_cases hlt : j < N
    · have hlt' : j < f.length := by rw [unhide HN]; exact hlt
      obtain ⟨b, off, rfl, hb, hc⟩ := cell_at (hr.below hB) (by omega)
      have c1 := hc j hlt'
      have h2 := unhide HP (j + 1) hlt'
      have HS : Hid (pfx f (j + 1) = T + at0 f j) := hide (by rw [pfx, unhide HT])
      rw [unhide HS] at h2
      have f2' := hm.frozen j
      have c2 := hm.get (j := j) (by rw [mid_length]; exact hlt)
      rw [mid_at _ _ hlt] at c2
      obtain ⟨m1, m2, m3⟩ := put_mid hm hlt (unhide HT) 0
      have M1 := hide m1
      have M3 := hide (m3 _ hB hg0)
      obtain ⟨X, hX⟩ : ∃ X, at0 f j = X := ⟨_, rfl⟩
      rw [hX] at c1 h2 HS
      have hw : IntKind.i64.wrap (T + X) = T + X := IntWalk.i64_in _ (by omega)
      clear hX hc hlt' m1 m2 m3 hm h2
      go_wp2
      go_roundw
      case rel => exact ⟨j + 1, T + X, by omega, by go_num, by first | rfl | go_num, HS, unhide M1, unhide M3⟩
      case measure => simp [intOf]; omega
    · obtain rfl : j = N := by omega
      rw [mid_all] at hm
      go_wp2
      go_ret2
      exact ⟨_, rfl, hm, hB⟩

end Go.Proofs.YtgffpljnhadigagDoor.Scl
