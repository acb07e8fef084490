/-
  near.Far: by its contracts.
-/
import Derived.Test.YtjnmogmagngenadDoorNearSmall
import Derived.Test.YtjnmogmagngenadDoorPulse
namespace Go.Proofs.YtjnmogmagngenadDoor.Nea
open Go.RowKit
open Go.Proofs.YtjnmogmagngenadDoor.Tre Go.Proofs.YtjnmogmagngenadDoor.Lap Go.Proofs.YtjnmogmagngenadDoor.Pls Go.Proofs.YtjnmogmagngenadDoor.Mid
set_option linter.unusedVariables false

theorem mul_abs {k : Nat} {x : Int} {a b : Nat} (hk : k ≤ a) (h0 : -(b : Int) ≤ x) (h1 : x ≤ b) : -((a * b : Nat) : Int) ≤ (k : Int) * x ∧ (k : Int) * x ≤ ((a * b : Nat) : Int) := by
  have h2 : ((k : Int) * x).natAbs = k * x.natAbs := by rw [Int.natAbs_mul]; simp
  have h3 := Nat.mul_le_mul hk (show x.natAbs ≤ b by omega)
  omega
theorem far1_in {v p : List Int} {k : Nat} (hk : k ≤ 8) (hM : loud v ≤ 6000) (hv : In 1000 v) (hp : In 8 p) (i : Nat) : far1 v k p i ≤ 56000 := by
  obtain ⟨a0, a1⟩ := hv.at (by omega) i
  obtain ⟨b0, b1⟩ := hp.at (by omega) i
  have h1 := mul_abs (b := 1000) hk a0 a1
  have h2 := mul_abs (b := 8) hM b0 b1
  unfold far1
  omega
theorem far_in {v p : List Int} {k : Nat} (hk : k ≤ 8) (hM : loud v ≤ 6000) (hv : In 1000 v) (hp : In 8 p) (n : Nat) (hn : n ≤ 6) : tot (far1 v k p) n ≤ 336000 := by
  have := tot_le (f := far1 v k p) (g := fun _ => 56000) (n := n) fun i _ => far1_in hk hM hv hp i
  rw [tot_const] at this
  omega

theorem far_v (a : Option Addr) (cap : Nat) (v : List Int) (q : Value) (w : World) (hl : v.length ≤ 9223372036854775807) (hr : Row w a v) (h : Hid (vf v ≠ 0)) :
    Calls Tryd.prog 17 #[.slice a v.length cap, q] w fun e w' => e = .returned (.tuple #[.int .i64 0, .iface 45 (.int .i64 (vf v))]) ∧ Below w.heap.size w w' := by
  go_enter Tryd.func17, Tryd.ntmps17
  go_wp2_with fail
  refine (loudOf_no a cap v w hl hr h).mono ?_
  rintro e w1 ⟨rfl, hb1⟩
  go_wp2
  go_ret2
  exact ⟨rfl, hb1⟩
theorem far_p (a : Option Addr) (cap : Nat) (v : List Int) (a' : Option Addr) (cap' : Nat) (p : List Int) (w : World) (hl : p.length ≤ 9223372036854775807) (hr : Row w a v) (hr' : Row w a' p) (h : Hid (vf v = 0)) (h' : Hid (fault p ≠ 0)) :
    Calls Tryd.prog 17 #[.slice a v.length cap, .slice a' p.length cap'] w fun e w' => e = .returned (.tuple #[.int .i64 0, .iface 45 (.int .i64 (fault p))]) ∧ Below w.heap.size w w' := by
  go_enter Tryd.func17, Tryd.ntmps17
  go_wp2_with fail
  refine (loudOf_ok a cap v w hr h).mono ?_
  rintro e w1 ⟨rfl, hb1⟩
  go_wp2_with fail
  refine (check_no a' cap' p w1 hl (hr'.below hb1) h').mono ?_
  rintro e w2 ⟨rfl, hb2⟩
  go_wp2
  go_ret2
  exact ⟨rfl, Below.chain hb1 hb2⟩
theorem far_shape (a : Option Addr) (cap : Nat) (v : List Int) (a' : Option Addr) (cap' : Nat) (p : List Int) (w : World) (hr : Row w a v) (hr' : Row w a' p) (h : Hid (vf v = 0)) (h' : Hid (fault p = 0)) (hne : v.length ≠ p.length) :
    Calls Tryd.prog 17 #[.slice a v.length cap, .slice a' p.length cap'] w fun e w' => e = .returned (.tuple #[.int .i64 0, .iface 45 (.int .i64 3)]) ∧ Below w.heap.size w w' := by
  have hne' : ((v.length : Int) == (p.length : Int)) = false := by simp; omega
  clear hne
  go_enter Tryd.func17, Tryd.ntmps17
  go_wp2_with fail
  refine (loudOf_ok a cap v w hr h).mono ?_
  rintro e w1 ⟨rfl, hb1⟩
  go_wp2_with fail
  refine (check_ok a' cap' p w1 (hr'.below hb1) h').mono ?_
  rintro e w2 ⟨rfl, hb2⟩
  go_wp2
  go_ret2
  exact ⟨rfl, Below.chain hb1 hb2⟩

set_option maxRecDepth 100000 in
set_option maxHeartbeats 8000000 in
theorem far_ok (a : Option Addr) (cap : Nat) (v : List Int) (a' : Option Addr) (cap' : Nat) (p : List Int) (k : Nat) (w : World) (hr : Row w a v) (hr' : Row w a' p) (h : Hid (vf v = 0)) (h' : Hid (fault p = 0)) (HE : Hid (v.length = p.length)) (HK : Hid (loud p = k)) :
    Calls Tryd.prog 17 #[.slice a v.length cap, .slice a' p.length cap'] w fun e w' => e = .returned (.tuple #[.int .i64 (far v k p : Int), .nilIface]) ∧ Below w.heap.size w w' := by
  obtain ⟨h6, hi⟩ := vf_ok (unhide h)
  obtain ⟨g6, gi, gk⟩ := fault_ok (unhide h')
  have hMle := loud_in (b := 1000) hi
  have hc1 := hide (loudOf_ok a cap v w hr h)
  have hc2 := hide (fun W hr => check_ok a' cap' p W hr h')
  rw [unhide HK] at hc2 gk
  have HB : Hid (∀ n, n ≤ 6 → tot (far1 v k p) n ≤ 336000) := hide (far_in gk (by omega) hi gi)
  have HF : Hid (∀ i, far1 v k p i = ((k : Int) * at0 v i - (loud v : Int) * at0 p i).natAbs) := hide (fun _ => rfl)
  have HFF : Hid (far v k p = tot (far1 v k p) v.length) := hide rfl
  obtain ⟨M, hM⟩ : ∃ M, loud v = M := ⟨_, rfl⟩
  rw [hM] at hc1 HF hMle
  have hM9 : M ≤ 6000 := by omega
  obtain ⟨N, hN⟩ : ∃ N, v.length = N := ⟨_, rfl⟩
  have HN := hide hN
  have HNp : Hid (p.length = N) := hide (by rw [← unhide HE, hN])
  rw [hN] at hc1 h6 HFF ⊢
  rw [unhide HNp] at hc2 ⊢
  have eN : ((N : Int) == (N : Int)) = true := by simp
  clear hM hMle hN g6
  go_enter Tryd.func17, Tryd.ntmps17
  go_wp2_with fail
  refine (unhide hc1).mono ?_
  rintro e w1 ⟨rfl, hb1⟩
  go_wp2_with fail
  refine (unhide hc2 w1 (hr'.below hb1)).mono ?_
  rintro e w2 ⟨rfl, hb2⟩
  have hB := Below.chain hb1 hb2
  have hr2 := hr.below hB
  have hr2' := hr'.below hB
  clear hb1 hb2 hc1 hc2
  go_wp2
  go_loopw [9, 36] (fun t i wr => ∃ j t' : Nat, j ≤ N ∧ i = .int .i64 j ∧ t = .int .i64 t' ∧ Hid (t' = tot (far1 v k p) j) ∧ t' ≤ 336000 ∧ wr = w2) (fun _ i _ => N - (intOf i).toNat)
  case atStart => exact ⟨0, 0, Nat.zero_le _, rfl, rfl, rfl, by omega, rfl⟩
  case round =>
    obtain ⟨j, t, hj, rfl, rfl, HT, ht, rfl⟩ := hrel
    by_cases hlt : j < N
    · obtain ⟨b, off, rfl, hb, hc⟩ := row_cell hr2 (by rw [unhide HN]; omega)
      obtain ⟨b', off', rfl, hb', hc'⟩ := row_cell hr2' (by rw [unhide HNp]; omega)
      have c1 := hc j (by rw [unhide HN]; exact hlt)
      have c2 := hc' j (by rw [unhide HNp]; exact hlt)
      obtain ⟨i0, i1⟩ := hi.at (by omega) j
      obtain ⟨j0, j1⟩ := gi.at (by omega) j
      have hF := unhide HF j
      have HS : Hid (t + far1 v k p j = tot (far1 v k p) (j + 1)) := hide (by rw [unhide HT]; rfl)
      have HS9 : Hid (t + far1 v k p j ≤ 336000) := hide (by rw [unhide HS]; exact unhide HB (j + 1) (by omega))
      obtain ⟨X, hX⟩ : ∃ X, at0 v j = X := ⟨_, rfl⟩
      obtain ⟨Y, hY⟩ : ∃ Y, at0 p j = Y := ⟨_, rfl⟩
      rw [hX] at c1 i0 i1 hF
      rw [hY] at c2 j0 j1 hF
      obtain ⟨a0, a1⟩ := mul_abs (b := 1000) gk i0 i1
      obtain ⟨b0, b1⟩ := mul_abs (b := 8) hM9 j0 j1
      obtain ⟨A, hA⟩ : ∃ A, (k : Int) * X = A := ⟨_, rfl⟩
      obtain ⟨C, hC⟩ : ∃ C, (M : Int) * Y = C := ⟨_, rfl⟩
      rw [hA] at a0 a1 hF
      rw [hC] at b0 b1 hF
      have m1 : IntKind.i64.wrap ((k : Int) * X) = A := by rw [hA]; exact IntWalk.i64_in _ (by omega)
      have m2 : IntKind.i64.wrap ((M : Int) * Y) = C := by rw [hC]; exact IntWalk.i64_in _ (by omega)
      have m3 : IntKind.i64.wrap (A - C) = A - C := IntWalk.i64_in _ (by omega)
      have hd := hide (dist (A - C) wr (by omega) (by omega))
      rw [← hF] at hd
      obtain ⟨D, hD⟩ : ∃ D, far1 v k p j = D := ⟨_, rfl⟩
      rw [hD] at hd HS HS9
      have hD9 : D ≤ 56000 := by rw [← hD, hF]; omega
      clear hX hY hA hC hF hD hc hc' a0 a1 b0 b1 i0 i1 j0 j1
      go_wp2_with fail
      refine (unhide hd).mono ?_
      rintro e w3 ⟨rfl, rfl⟩
      go_wp2
      go_roundw
      case rel => exact ⟨j + 1, t + D, by omega, by go_num, by go_num, HS, unhide HS9, by first | trivial | rfl⟩
      case measure => simp [intOf]; omega
    · obtain rfl : j = N := by omega
      go_wp2
      go_ret2
      refine ⟨?_, hB⟩
      rw [unhide HFF, ← unhide HT]
      rfl

end Go.Proofs.YtjnmogmagngenadDoor.Nea
