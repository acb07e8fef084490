/-
  Package near: wholes, left: by their contracts.
-/
import Derived.Test.YtjnmogmagngenadDoorPulseDist
import Derived.Test.YtjnmogmagngenadDoorNearSort
import Derived.Test.YtjnmogmagngenadDoorMid
namespace Go.Proofs.YtjnmogmagngenadDoor.Nea
open Go.RowKit
open Go.Proofs.YtjnmogmagngenadDoor.Tre Go.Proofs.YtjnmogmagngenadDoor.Lap Go.Proofs.YtjnmogmagngenadDoor.Pls Go.Proofs.YtjnmogmagngenadDoor.Mid
set_option linter.unusedVariables false

theorem mul_in {k d : Nat} (hk : k ≤ 8) (hd : d ≤ 4000) : k * d ≤ 32000 := Nat.mul_le_mul hk hd

set_option maxHeartbeats 4000000 in
theorem wholes (a : Option Addr) (cap : Nat) (v : List Int) (k M : Nat) (w : World) (hv : v.length ≤ 6) (hi : In 4000 v) (hk : k ≤ 8) (HM : Hid (loud v = M)) (hM : 0 < M) (hM9 : M ≤ 24000) (hr : Row w a v) :
    Calls Tryd.prog 41 #[.slice a v.length cap, .int .i64 k, .int .i64 M] w fun e w' => ∃ p r, e = .returned (.tuple #[p, r]) ∧ Has w' w.heap.size p (upto (fun i => (qt v k i : Int)) v.length) ∧
      Has w' w.heap.size r (upto (fun i => (rt v k i : Int)) v.length) ∧ Off p r ∧ Below w.heap.size w w' := by
  go_enter Tryd.func41, Tryd.ntmps41
  go_wp2
  go_loopw [6, 7, 13] (fun s d i wr => ∃ j : Nat, j ≤ v.length ∧ i = .int .i64 j ∧ Has wr w.heap.size s (upto (fun i => (qt v k i : Int)) j) ∧ Has wr w.heap.size d (upto (fun i => (rt v k i : Int)) j) ∧ Off s d ∧ Below w.heap.size w wr) (fun _ _ i _ => v.length - (intOf i).toNat)
  case atStart => exact ⟨0, Nat.zero_le _, rfl, Has.nil _ _, Has.nil _ _, Or.inl rfl, Below.refl _ _⟩
  case round =>
    obtain ⟨j, hj, rfl, h1, h2, h3, hB⟩ := hrel
    by_cases hlt : j < v.length
    · obtain ⟨b, off, rfl, hb, hc⟩ := Mid.row_cell (hr.below hB) (by omega)
      have hc1 := hc j hlt
      obtain ⟨i0, i1⟩ := hi.at (by omega) j
      have hS : sh v k j = k * (at0 v j).natAbs := rfl
      have hQ : qt v k j = sh v k j / loud v := rfl
      have hR : rt v k j = sh v k j % loud v := rfl
      have e1 : Hid (upto (fun i => (qt v k i : Int)) (j + 1) = upto (fun i => (qt v k i : Int)) j ++ [(qt v k j : Int)]) := hide (upto_succ _ _)
      have e2 : Hid (upto (fun i => (rt v k i : Int)) (j + 1) = upto (fun i => (rt v k i : Int)) j ++ [(rt v k j : Int)]) := hide (upto_succ _ _)
      have hln1 : Hid ((upto (fun i => (qt v k i : Int)) j).length + 1 ≤ 1000000) := hide (by rw [upto_length]; omega)
      have hln2 : Hid ((upto (fun i => (rt v k i : Int)) j).length + 1 ≤ 1000000) := hide (by rw [upto_length]; omega)
      rw [unhide HM] at hQ hR
      have hdist := hide (dist (at0 v j) wr (by omega) (by omega))
      obtain ⟨X, hX⟩ : ∃ X, at0 v j = X := ⟨_, rfl⟩
      rw [hX] at hc1 hdist hS i0 i1
      obtain ⟨D, hD⟩ : ∃ D, X.natAbs = D := ⟨_, rfl⟩
      rw [hD] at hdist hS
      have hD9 : D ≤ 4000 := by omega
      have hS9 := mul_in hk hD9
      rw [← hS] at hS9
      obtain ⟨S, hS'⟩ : ∃ S, sh v k j = S := ⟨_, rfl⟩
      rw [hS'] at hS hQ hR hS9
      have hmul : IntKind.i64.wrap ((k : Int) * (D : Int)) = (S : Int) := by rw [hS, ← Int.natCast_mul]; exact IntWalk.i64_in _ (by omega)
      obtain ⟨Q, hQ'⟩ : ∃ Q, qt v k j = Q := ⟨_, rfl⟩
      obtain ⟨T, hT'⟩ : ∃ T, rt v k j = T := ⟨_, rfl⟩
      rw [hQ'] at hQ e1
      rw [hT'] at hR e2
      have hq : Int.tdiv (S : Int) (M : Int) = (Q : Int) := by rw [hQ]; rfl
      have hrm : Int.tmod (S : Int) (M : Int) = (T : Int) := by rw [hR]; rfl
      have hQ9 : Q ≤ 32000 := by rw [hQ]; exact Nat.le_trans (Nat.div_le_self _ _) hS9
      have hT9 : T ≤ 24000 := by rw [hR]; have := Nat.mod_lt S hM; omega
      have hMz : ((M : Int) == 0) = false := by simp; omega
      have hWs := hB.size
      clear hX hD hS hS' hQ hR hQ' hT' hc
      go_wp2_with fail
      refine (unhide hdist).mono ?_
      rintro e w1 ⟨rfl, rfl⟩
      clear hdist
      go_wp2_with (first
        | (at_builtin; refine wpList_app _ rfl _ _ rfl w.heap.size u6 (upto (fun i => (qt v k i : Int)) j) [(Q : Int)] _ _ rfl (h1.alloc _) rfl (row_one _ _ _) (unhide hln1) (by simp; omega) ?_; intro s1 w1 k1 g1 at1
           obtain ⟨d1, d2⟩ := stepped_plain h1 hWs k1 g1 at1
           obtain ⟨h2', h3'⟩ := d2 _ _ h2 h3.symm
           have hB1 := hB.trans d1
           have hWs1 := hB1.size
           clear d1 d2)
        | (at_builtin; refine wpList_app _ rfl _ _ rfl w.heap.size u7 (upto (fun i => (rt v k i : Int)) j) [(T : Int)] _ _ rfl (h2'.alloc _) rfl (row_one _ _ _) (unhide hln2) (by simp; omega) ?_; intro s2 w2 k2 g2 at2
           obtain ⟨d1, d2⟩ := stepped_plain h2' hWs1 k2 g2 at2
           obtain ⟨k1', h4'⟩ := d2 _ _ k1 h3'.symm
           have hB2 := hB1.trans d1
           clear d1 d2))
      go_wp2
      go_roundw
      case rel => exact ⟨j + 1, by omega, by go_num, by rw [unhide e1]; exact k1', by rw [unhide e2]; exact k2, h4', hB2⟩
      case measure => simp [intOf]; omega
    · obtain rfl : j = v.length := by omega
      go_wp2
      go_ret2
      exact ⟨_, _, rfl, h1, h2, h3, hB⟩

theorem left (a : Option Addr) (cap : Nat) (v : List Int) (k : Nat) (n : Nat) (w : World) (hn : Hid (v.length = n)) (hv : n ≤ 6) (hk : k ≤ 8) (h : Hid (k = 0 ∨ 0 < loud v)) (hr : Row w a (upto (fun i => (qt v k i : Int)) n)) :
    Calls Tryd.prog 43 #[.slice a n cap, .int .i64 k] w fun e w' => e = .returned (.int .i64 (lft v k)) ∧ w = w' := by
  have hle : ∀ j, j ≤ n → tot (qt v k) j ≤ k := fun j hj => by
    have h1 := qt_le k (unhide h)
    have h2 := tot_le (f := fun i => if i < j then qt v k i else 0) (g := qt v k) (n := v.length) fun i _ => by split <;> omega
    have h3 : ∀ m, tot (fun i => if i < j then qt v k i else 0) (j + m) = tot (qt v k) j := by
      intro m
      induction m with
      | zero => exact tot_congr fun i hi => if_pos hi
      | succ m ih => rw [← Nat.add_assoc, tot, ih, if_neg (by omega)]; omega
    have := h3 (v.length - j)
    rw [show j + (v.length - j) = v.length by rw [unhide hn]; omega] at this
    omega
  have HE : Hid (k - tot (qt v k) n = lft v k) := hide (by unfold lft; rw [unhide hn])
  go_enter Tryd.func43, Tryd.ntmps43
  go_wp2
  go_loop [1, 9] (fun t i => ∃ j t' : Nat, j ≤ n ∧ i = .int .i64 j ∧ t = .int .i64 t' ∧ Hid (t' + tot (qt v k) j = k) ∧ t' ≤ 8) (fun _ i => n - (intOf i).toNat)
  case atStart => exact ⟨0, k, Nat.zero_le _, rfl, rfl, rfl, hk⟩
  case round =>
    obtain ⟨j, t, hj, rfl, rfl, HT, ht⟩ := hrel
    by_cases hlt : j < n
    · obtain ⟨b, off, rfl, hb, hc⟩ := Mid.row_cell hr (by rw [upto_length]; omega)
      have hc1 := hc j (by rw [upto_length]; omega)
      rw [upto_at _ hlt] at hc1
      have h1 := hle (j + 1) hlt
      have h2 : tot (qt v k) (j + 1) = tot (qt v k) j + qt v k j := rfl
      have h3 := unhide HT
      obtain ⟨Q, hQ⟩ : ∃ Q, qt v k j = Q := ⟨_, rfl⟩
      rw [hQ] at h2 hc1
      obtain ⟨t2, h4⟩ : ∃ t2, t = t2 + Q := ⟨t - Q, by omega⟩
      have HS : Hid (t2 + tot (qt v k) (j + 1) = k) := hide (by omega)
      have hsub : (t : Int) - (Q : Int) = (t2 : Int) := by omega
      have h5 : t2 ≤ 8 := by omega
      have hQ8 : Q ≤ 8 := by omega
      clear h1 h2 h3 h4 hQ hle hc
      go_wp2
      go_round
      case rel => exact ⟨j + 1, t2, by omega, by go_num, by go_num, HS, h5⟩
      case measure => simp [intOf]; omega
    · obtain rfl : j = n := by omega
      have h1 := unhide HT
      clear hle
      go_wp2
      go_ret
      exact ⟨ret_int (by rw [← unhide HE]; omega), rfl⟩

end Go.Proofs.YtjnmogmagngenadDoor.Nea
