/-
  slices.insertionSortCmpFunc at a few places, by greatestFirst's function: by its contract.
-/
import Derived.Test.YtjnmogmagngenadDoorNearOrder
namespace Go.Proofs.YtjnmogmagngenadDoor.Nea
open Go.RowKit
open Go.Proofs.YtjnmogmagngenadDoor.Tre Go.Proofs.YtjnmogmagngenadDoor.Lap Go.Proofs.YtjnmogmagngenadDoor.Pls Go.Proofs.YtjnmogmagngenadDoor.Mid
set_option linter.unusedVariables false

set_option maxRecDepth 100000 in
set_option maxHeartbeats 8000000 in
theorem insertion (P c n B : Nat) (r : Nat → Nat) (W w : World) (hn : n ≤ 6) (h0 : 0 < n) (hbx : Boxed W B r n) (hB0 : Below W.heap.size W w) (hv : Has w W.heap.size (.slice (some ⟨P, 0, none⟩) n c) (upto (fun t => (t : Int)) n)) :
    Calls Tryd.prog 65 #[.slice (some ⟨P, 0, none⟩) n c, .int .i64 0, .int .i64 n, .func (.func 57) #[] #[.pointer (some ⟨B, 0, none⟩)]] w
      fun e w' => e = .returned (.tuple #[]) ∧ ∃ s : Nat → Nat, Has w' W.heap.size (.slice (some ⟨P, 0, none⟩) n c) (upto (fun t => (s t : Int)) n) ∧ Hid (Ins r s n n) ∧ Below W.heap.size W w' := by
  have hP : W.heap.size ≤ P := (hv.lt P rfl).1
  have HBX := hide hbx
  have HP := hide hP
  clear hbx hP
  go_enter Tryd.func65, Tryd.ntmps65
  go_wp2
  go_loopw [8] (fun vi wr => ∃ (i : Nat) (s : Nat → Nat), vi = .int .i64 i ∧ 1 ≤ i ∧ i ≤ n ∧ Has wr W.heap.size (.slice (some ⟨P, 0, none⟩) n c) (upto (fun t => (s t : Int)) n) ∧ Hid (Ins r s n i) ∧ Below W.heap.size W wr) (fun i _ => n - (intOf i).toNat)
  case atStart => exact ⟨1, fun t => t, by go_num, Nat.le_refl _, h0, hv, ins_start r n, hB0⟩
  case round =>
    obtain ⟨i, s, rfl, hi1, hin, hs, HI, hB⟩ := hrel
    clear hv hB0
    by_cases hlt : i < n
    · have HJ0 := hide ((unhide HI).go hlt)
      clear HI
      go_wp2
      go_loopw [9] (fun vj wr2 => ∃ (j : Nat) (s2 : Nat → Nat), vj = .int .i64 j ∧ j ≤ i ∧ Has wr2 W.heap.size (.slice (some ⟨P, 0, none⟩) n c) (upto (fun t => (s2 t : Int)) n) ∧ Hid (InsJ r s2 n i j) ∧ Below W.heap.size W wr2) (fun j _ => (intOf j).toNat)
      case atStart => exact ⟨i, s, rfl, Nat.le_refl _, hs, HJ0, hB⟩
      case round =>
        obtain ⟨j, s2, rfl, hji, hs2, HJ, hB2⟩ := hrel
        clear hs HJ0 hB
        by_cases hj0 : 0 < j
        · obtain ⟨jp, rfl⟩ : ∃ jp, j = jp + 1 := ⟨j - 1, by omega⟩
          have c1 := hs2.get (j := jp + 1) (by rw [upto_length]; omega)
          have c2 := hs2.get (j := jp) (by rw [upto_length]; omega)
          rw [upto_at _ (by omega)] at c1 c2
          have f1 := hs2.frozen (jp + 1)
          have f2 := hs2.frozen jp
          obtain ⟨q1, q2, q3⟩ := (unhide HJ).2.2.1
          have b1 := q1 (jp + 1) (by omega)
          have b2 := q1 jp (by omega)
          have hord : Hid (∀ x, Calls Tryd.prog 57 #[.int .i64 (s2 (jp + 1)), .int .i64 (s2 jp), .pointer (some ⟨B, 0, none⟩)] (wr.drewN x) fun e w' => e = .returned (.int .i64 (cf (r (s2 jp)) (r (s2 (jp + 1))))) ∧ ∃ q, w' = (wr.drewN x).drewN q) :=
            hide (fun x => order (s2 (jp + 1)) (s2 jp) B r n (wr.drewN x) hn b1 b2 ((unhide HBX).below (below_drewN hB2 x)))
          have HSW : Hid (((upto (fun t => (s2 t : Int)) n).set (jp + 1) (s2 jp)).set jp (s2 (jp + 1)) = upto (fun t => (swp s2 jp t : Int)) n) := hide (swp_set s2 rfl rfl)
          have HST := hide (fun h => (unhide HJ).step (j := jp) h)
          have HSP := hide (fun h => (unhide HJ).stop h)
          rw [Nat.add_sub_cancel] at HSP
          obtain ⟨Y, hY⟩ : ∃ Y, s2 jp = Y := ⟨_, rfl⟩
          obtain ⟨X, hX⟩ : ∃ X, s2 (jp + 1) = X := ⟨_, rfl⟩
          rw [hY, hX] at hord HSW HST HSP
          rw [hX] at c1 b1
          rw [hY] at c2 b2
          have hjz : (0 : Int) < (jp : Int) + 1 := by omega
          have hj6 : jp + 1 < n := by omega
          have jz : (jp : Int) + 1 < (n : Int) := by omega
          have jz1 : (jp : Int) < (n : Int) := by omega
          clear q1 q2 q3 hY hX HJ
          by_cases hr : r Y < r X
          · have hcf : cf (r Y) (r X) = -1 := by unfold cf; rw [if_pos (by omega)]
            rw [hcf] at hord
            have HJ2 := hide (unhide HST hr)
            clear HST HSP hcf hr
            go_wp2
            go_quiet ((go_at_call 57; exact Calls.quiet_of (unhide hord _)))
            go_wp2
            go_region
            have m1 := Has.put (show Has (wr.drewN (nq + 1)) _ _ _ from hs2) (jp + 1) (Y : Int)
            have m2 := m1.1.put jp (X : Int)
            rw [unhide HSW] at m2
            have hB3 := Below.setCell (p := ⟨P, jp, none⟩) (Below.setCell (p := ⟨P, jp + 1, none⟩) (below_drewN hB2 (nq + 1)) (unhide HP) (.int .i64 (Y : Int))) (unhide HP) (.int .i64 (X : Int))
            clear m1 hs2 hB2
            go_wp2
            go_roundw
            case rel => exact ⟨jp, swp s2 jp, by go_num, by omega, m2.1, HJ2, hB3⟩
            case measure => simp [intOf]
          · have hcf : decide (cf (r Y) (r X) < 0) = false := by unfold cf; rw [if_neg (by omega)]; split <;> simp
            obtain ⟨C, hC⟩ : ∃ C, cf (r Y) (r X) = C := ⟨_, rfl⟩
            rw [hC] at hcf hord
            have HI2 := hide (unhide HSP (Or.inr (by omega)))
            clear HST HSP hr hC
            go_wp2
            go_quiet ((go_at_call 57; exact Calls.quiet_of (unhide hord _)))
            go_wp2
            go_roundw
            case rel => exact ⟨i + 1, s2, by go_num, by omega, by omega, hs2, HI2, below_drewN hB2 _⟩
            case measure => simp [intOf]; omega
        · have hjz : decide ((0 : Int) < (j : Int)) = false := by simp; omega
          have HI2 := hide ((unhide HJ).stop (Or.inl (by omega)))
          clear HJ
          go_wp2
          go_quiet (fail)
          go_wp2
          go_roundw
          case rel => exact ⟨i + 1, s2, by go_num, by omega, by omega, hs2, HI2, below_drewN hB2 _⟩
          case measure => simp [intOf]; omega
    · obtain rfl : i = n := by omega
      go_wp2
      go_end0
      exact ⟨rfl, s, hs, HI, hB⟩

end Go.Proofs.YtjnmogmagngenadDoor.Nea
